/- Several small texts, one behind the other. -/
import Derived.Test.YtonjohlecomeoaaGreatQa
import Derived.Test.YtonjohlecomeoaaGreatChecked
import Derived.Test.YtonjohlecomeoaaGreatLibq
import Derived.Below
import Derived.BigQuiet
import Derived.Deep.QuietTactic
import Derived.Outline
import Derived.WalkLawsBesides
import Derived.Deep.RegionWith
import Derived.ProofKit
import Derived.OpenShut
import Derived.ShutString
import Derived.SliceStrings
import Derived.ChangeOld

/- Worlds that are as they were, but for draws, or for one block; the bytes of atoms. -/
namespace Go.Proofs.YtonjohlecomeoaaGreat.rdr
open Go.RowKit Go.Proofs.YtonjohlecomeoaaGreat.tm Go.Proofs.YtonjohlecomeoaaGreat.lib
set_option linter.unusedVariables false

/-- All is as it was, but for the draws. -/
structure Still (w w' : World) : Prop where
  os : w'.os = w.os
  tape : w'.tape = w.tape
  output : w'.output = w.output
  heap : w'.heap = w.heap

/-- All blocks that were there are as they were, but for block b. -/
structure Only (b : Nat) (w w' : World) : Prop where
  os : w'.os = w.os
  tape : w'.tape = w.tape
  output : w'.output = w.output
  size : w.heap.size ≤ w'.heap.size
  block : ∀ k, k < w.heap.size → k ≠ b → w'.heap[k]? = w.heap[k]?

theorem Still.refl (w : World) : Still w w := ⟨rfl, rfl, rfl, rfl⟩
theorem Still.trans {a b c : World} (h : Still a b) (k : Still b c) : Still a c := ⟨k.os.trans h.os, k.tape.trans h.tape, k.output.trans h.output, k.heap.trans h.heap⟩
theorem Still.only {w w' : World} (h : Still w w') (b : Nat) : Only b w w' := ⟨h.os, h.tape, h.output, by rw [h.heap]; exact Nat.le_refl _, fun k _ _ => by rw [h.heap]⟩
theorem Still.drewN (w : World) (n : Nat) : Still w (w.drewN n) := ⟨rfl, rfl, rfl, rfl⟩
theorem Still.below {w w' : World} (h : Still w w') (B : Nat) : Below B w w' := ⟨h.os, h.tape, h.output, by rw [h.heap]; exact Nat.le_refl _, fun k _ => by rw [h.heap]⟩

theorem Only.refl (b : Nat) (w : World) : Only b w w := (Still.refl w).only b
theorem Only.trans {b : Nat} {x y z : World} (h : Only b x y) (k : Only b y z) : Only b x z :=
  ⟨k.os.trans h.os, k.tape.trans h.tape, k.output.trans h.output, Nat.le_trans h.size k.size, fun i hi hb => (k.block i (Nat.lt_of_lt_of_le hi h.size) hb).trans (h.block i hi hb)⟩
theorem Only.of_below {b : Nat} {w w' : World} (h : Below w.heap.size w w') : Only b w w' := ⟨h.os, h.tape, h.output, h.size, fun k hk _ => h.block k hk⟩
theorem Only.setCell {b : Nat} {w : World} (o : Nat) (v : Value) : Only b w (w.setCell ⟨b, o, none⟩ v) :=
  ⟨rfl, rfl, rfl, by simp [World.setCell], fun k _ hb => Below.heap_setCell _ _ _ _ hb⟩
theorem Only.below {b B : Nat} {w w' : World} (h : Only b w w') (hb : B ≤ b) (hB : B ≤ w.heap.size) : Below B w w' :=
  ⟨h.os, h.tape, h.output, h.size, fun k hk => h.block k (by omega) (by omega)⟩

theorem let_eq (c : UInt8) : (97 ≤ c && c ≤ 122 : Bool) = (decide (97 ≤ (c.toNat : Int)) && decide ((c.toNat : Int) ≤ 122)) := by
  rw [Bool.eq_iff_iff]; simp [UInt8.le_iff_toNat_le]; omega
theorem dig_eq (c : UInt8) : (48 ≤ c && c ≤ 57 : Bool) = (decide (48 ≤ (c.toNat : Int)) && decide ((c.toNat : Int) ≤ 57)) := by
  rw [Bool.eq_iff_iff]; simp [UInt8.le_iff_toNat_le]; omega

theorem isLetter_calls (c : UInt8) (w : World) :
    Calls Tryz.prog 135 #[.int .u8 (c.toNat : Int)] w fun e w' => e = .returned (.bool (97 ≤ c && c ≤ 122)) ∧ w = w' := by
  go_enter Tryz.func135, Tryz.ntmps135
  go_wp2
  all_goals go_ret
  all_goals exact ⟨by rw [let_eq]; congr 2; simp [*] <;> omega, rfl⟩

theorem isDigit_calls (c : UInt8) (w : World) :
    Calls Tryz.prog 136 #[.int .u8 (c.toNat : Int)] w fun e w' => e = .returned (.bool (48 ≤ c && c ≤ 57)) ∧ w = w' := by
  go_enter Tryz.func136, Tryz.ntmps136
  go_wp2
  all_goals go_ret
  all_goals exact ⟨by rw [dig_eq]; congr 2; simp [*] <;> omega, rfl⟩

theorem isAtomByte_calls (c : UInt8) (w : World) :
    Calls Tryz.prog 104 #[.int .u8 (c.toNat : Int)] w fun e w' => e = .returned (.bool (isAt c)) ∧ w = w' := by
  cases h1 : (97 ≤ c && c ≤ 122 : Bool) <;> cases h2 : (48 ≤ c && c ≤ 57 : Bool)
  all_goals
    have HI : Hid (isAt c = _) := show isAt c = ((97 ≤ c && c ≤ 122 : Bool) || (48 ≤ c && c ≤ 57 : Bool)) from rfl
    rw [h1, h2] at HI
    have a1 := isLetter_calls c
    have a2 := isDigit_calls c
    rw [h1] at a1
    rw [h2] at a2
    clear h1 h2
    go_enter Tryz.func104, Tryz.ntmps104
    go_wp2_with (first | (go_at_call 135; refine (a1 _).mono ?_; rintro e w' ⟨rfl, rfl⟩) | (go_at_call 136; refine (a2 _).mono ?_; rintro e w' ⟨rfl, rfl⟩))
    go_ret
    exact ⟨ret_bool HI.out.symm, rfl⟩

end Go.Proofs.YtonjohlecomeoaaGreat.rdr

/- Contracts of the reader of terms: next, skip, readWord; AtomRight; refuse. -/
namespace Go.Proofs.YtonjohlecomeoaaGreat.rdr
open Go.RowKit Go.Proofs.YtonjohlecomeoaaGreat.tm Go.Proofs.YtonjohlecomeoaaGreat.lib
set_option linter.unusedVariables false

/-- The reader's block: the text, and the place. -/
def Rdr (w : World) (b : Nat) (s : ByteArray) (p : Nat) : Prop := w.heap[b]? = some (.cells #[.string s, .int .i64 (p : Int)] 184 (0, 0))

theorem Still.rdr {w w' : World} {b : Nat} {s : ByteArray} {p : Nat} (h : Still w w') (k : Rdr w b s p) : Rdr w' b s p := by unfold Rdr; rw [h.heap]; exact k

theorem two {w : World} {b : Nat} {v0 v1 : Value} {t : TypeId} (h : w.heap[b]? = some (.cells #[v0, v1] t (0, 0))) :
    w.cell? ⟨b, 0, none⟩ = some v0 ∧ w.cell? ⟨b, 1, none⟩ = some v1 ∧ w.frozen? ⟨b, 0, none⟩ = false ∧ w.frozen? ⟨b, 1, none⟩ = false ∧ b < w.heap.size := by
  have hb : b < w.heap.size := by
    rcases Nat.lt_or_ge b w.heap.size with h' | h'
    · exact h'
    · rw [Array.getElem?_eq_none h'] at h; cases h
  refine ⟨?_, ?_, ?_, ?_, hb⟩
  · rw [cell_of_row w b 0 _ t (0, 0) h]; rfl
  · rw [cell_of_row w b 1 _ t (0, 0) h]; rfl
  · simp [World.frozen?, h]
  · simp [World.frozen?, h]

/-- The byte that stands at a place; 0 at the end. -/
def nx (l : Bs) : UInt8 := l.head?.getD 0

theorem nx_lt (s : ByteArray) (p : Nat) (h : p < s.size) : nx (s.data.toList.drop p) = s[p] := by
  have h' : p < s.data.toList.length := by simpa using h
  unfold nx
  rw [List.head?_drop, List.getElem?_eq_getElem h']
  rfl
theorem nx_end (s : ByteArray) (p : Nat) (h : s.size ≤ p) : nx (s.data.toList.drop p) = 0 := by
  unfold nx
  rw [List.drop_of_length_le (by simpa using h)]
  rfl

abbrev fault (c : Int) : Ending := .panicked [{ v := .iface 150 (.agg #[.int .i64 c]), recovered := false }]

theorem ret_u8 {a b : UInt8} (h : a = b) : Ending.returned (.int .u8 (a.toNat : Int)) = .returned (.int .u8 (b.toNat : Int)) := by rw [h]

set_option maxRecDepth 100000 in
theorem next_calls (w : World) (b : Nat) (s : ByteArray) (p : Nat) (h : Rdr w b s p) (hp : p ≤ s.size) (hs : s.size ≤ 4000000000) :
    Calls Tryz.prog 176 #[.pointer (some ⟨b, 0, none⟩)] w fun e w' => e = .returned (.int .u8 ((nx (s.data.toList.drop p)).toNat : Int)) ∧ Still w w' := by
  obtain ⟨c0, c1, f0, f1, hb⟩ := two h
  clear h
  by_cases hlt : p < s.size
  · have HX := Lib.hid (nx_lt s p hlt)
    have d0 : decide ((s.size : Int) ≤ p) = false := by simp; omega
    go_enter Tryz.func176, Tryz.ntmps176
    go_wp2
    go_quiet (fail)
    go_wp2
    go_quiet (fail)
    go_wp2
    go_ret
    exact ⟨ret_u8 HX.out.symm, rfl, rfl, rfl, rfl⟩
  · have HX := Lib.hid (nx_end s p (by omega))
    have d0 : decide ((s.size : Int) ≤ p) = true := by simp; omega
    go_enter Tryz.func176, Tryz.ntmps176
    go_wp2
    go_quiet (fail)
    go_wp2
    go_ret
    exact ⟨ret_u8 (a := 0) HX.out.symm, rfl, rfl, rfl, rfl⟩

theorem refuse_calls (c : Int) (w : World) : Calls Tryz.prog 103 #[.int .i64 c] w fun e w' => e = fault c ∧ w = w' := by
  go_enter Tryz.func103, Tryz.ntmps103
  go_wp2
  exact ⟨rfl, rfl, rfl⟩

/-- What is known of the world behind a step of the reader. -/
theorem Rdr.only {w w' : World} {b : Nat} {s : ByteArray} {p : Nat} (k : Rdr w b s p) {b' : Nat} (h : Only b' w w') (hne : b ≠ b') : Rdr w' b s p := by
  unfold Rdr
  rw [h.block b (two k).2.2.2.2 hne]
  exact k

theorem Rdr.set {w : World} {b : Nat} {s : ByteArray} {p : Nat} (k : Rdr w b s p) (q : Nat) : Rdr (w.setCell ⟨b, 1, none⟩ (.int .i64 (q : Int))) b s q := by
  unfold Rdr at k ⊢
  simp only [World.setCell, Array.getElem?_modify, if_true, k]
  rfl

set_option maxRecDepth 100000 in
theorem skip_yes (w : World) (b : Nat) (s : ByteArray) (p : Nat) (c : UInt8) (h : Rdr w b s p) (hp : p < s.size) (hs : s.size ≤ 4000000000) (hc : nx (s.data.toList.drop p) = c) :
    Calls Tryz.prog 185 #[.pointer (some ⟨b, 0, none⟩), .int .u8 (c.toNat : Int)] w fun e w' => e = .returned (.tuple #[]) ∧ Only b w w' ∧ Rdr w' b s (p + 1) := by
  go_enter Tryz.func185, Tryz.ntmps185
  have H := Lib.hid h
  have HC := Lib.hid hc
  clear h hc
  go_wp2_with fail
  refine (next_calls _ _ _ _ H.out (by omega) hs).mono ?_
  rintro e w1 ⟨rfl, h1⟩
  have hr := h1.rdr H.out
  obtain ⟨c0, c1, f0, f1, hb⟩ := two hr
  rw [HC.out]
  have HR := Lib.hid hr
  have H1 := Lib.hid h1
  clear hr h1
  go_wp2_with fail
  go_end0
  exact ⟨rfl, (H1.out.only b).trans (Only.setCell _ _), HR.out.set (p + 1)⟩

set_option maxRecDepth 100000 in
theorem skip_no (w : World) (b : Nat) (s : ByteArray) (p : Nat) (c : UInt8) (h : Rdr w b s p) (hp : p ≤ s.size) (hs : s.size ≤ 4000000000) (hc : nx (s.data.toList.drop p) ≠ c) :
    Calls Tryz.prog 185 #[.pointer (some ⟨b, 0, none⟩), .int .u8 (c.toNat : Int)] w fun e w' => e = fault 1 ∧ Only b w w' := by
  have d0 : (((nx (s.data.toList.drop p)).toNat : Int) != (c.toNat : Int)) = true := by simp; intro e; exact hc (UInt8.toNat_inj.1 (by omega))
  go_enter Tryz.func185, Tryz.ntmps185
  have H := Lib.hid h
  clear h hc
  go_wp2_with fail
  refine (next_calls _ _ _ _ H.out (by omega) hs).mono ?_
  rintro e w1 ⟨rfl, h1⟩
  have H1 := Lib.hid h1
  clear h1
  go_wp2_with fail
  refine (refuse_calls _ _).mono ?_
  rintro e w2 ⟨rfl, rfl⟩
  exact ⟨rfl, rfl, H1.out.only b⟩

/-! ### readWord -/

def atOf (w : World) (b : Nat) : Nat := match w.cell? ⟨b, 1, none⟩ with | some (.int _ q) => q.toNat | _ => 0
theorem atOf_rdr {w : World} {b : Nat} {s : ByteArray} {p : Nat} (h : Rdr w b s p) : atOf w b = p := by
  unfold atOf
  rw [(two h).2.1]
  simp

theorem drop_lt (s : ByteArray) (p : Nat) (h : p < s.size) : s.data.toList.drop p = s[p] :: s.data.toList.drop (p + 1) := by
  rw [List.drop_eq_getElem_cons (by simpa using h)]; rfl

theorem size_lt {l : Bs} {s : ByteArray} {p : Nat} (h : s.data.toList.drop p = l) (hp : p ≤ s.size) : l.length = s.size - p := by
  rw [← h, List.length_drop]; rfl

theorem nx_isAt {s : ByteArray} {p : Nat} (h : isAt (nx (s.data.toList.drop p)) = true) : p < s.size := by
  rcases Nat.lt_or_ge p s.size with h' | h'
  · exact h'
  · rw [nx_end s p h'] at h; exact absurd h (by decide)

/-- One byte more of a word. -/
theorem word_step {s : ByteArray} {p : Nat} (h : isAt (nx (s.data.toList.drop p)) = true) : word (s.data.toList.drop p) = s[p]'(nx_isAt h) :: word (s.data.toList.drop (p + 1)) := by
  have hp := nx_isAt h
  rw [nx_lt s p hp] at h
  rw [drop_lt s p hp]
  unfold word
  rw [List.takeWhile_cons, if_pos h]

theorem word_end {s : ByteArray} {p : Nat} (h : isAt (nx (s.data.toList.drop p)) = false) : word (s.data.toList.drop p) = [] := by
  rcases Nat.lt_or_ge p s.size with h' | h'
  · rw [nx_lt s p h'] at h
    rw [drop_lt s p h']
    unfold word
    rw [List.takeWhile_cons, if_neg (by simp [h])]
  · rw [List.drop_of_length_le (by simpa using h')]; rfl

theorem word_le (l : Bs) : (word l).length ≤ l.length := List.Sublist.length_le (List.takeWhile_sublist _)

/-- The word, as it lies in the text. -/
theorem word_cut (s : ByteArray) (p : Nat) (hp : p ≤ s.size) : s.extract p (p + (word (s.data.toList.drop p)).length) = ⟨(word (s.data.toList.drop p)).toArray⟩ := by
  have h : (s.data.toList.drop p).take (word (s.data.toList.drop p)).length = word (s.data.toList.drop p) := by
    unfold word
    exact List.prefix_iff_eq_take.1 (List.takeWhile_prefix _) |>.symm
  apply ByteArray.ext
  apply Array.ext'
  rw [ByteArray.data_extract]
  simp only [Array.toList_extract]
  show List.extract s.data.toList p _ = _
  rw [List.extract_eq_take_drop]
  simpa using h

theorem past_drop (s : ByteArray) (p : Nat) : past (s.data.toList.drop p) = s.data.toList.drop (p + (word (s.data.toList.drop p)).length) := by
  have h := word_past (s.data.toList.drop p)
  have : (word (s.data.toList.drop p) ++ past (s.data.toList.drop p)).drop (word (s.data.toList.drop p)).length = past (s.data.toList.drop p) := List.drop_left' rfl
  rw [h, List.drop_drop] at this
  exact this.symm

set_option maxRecDepth 100000 in
theorem readWord_calls (w : World) (b : Nat) (s : ByteArray) (p : Nat) (h : Rdr w b s p) (hp : p ≤ s.size) (hs : s.size ≤ 4000000000) :
    Calls Tryz.prog 186 #[.pointer (some ⟨b, 0, none⟩)] w fun e w' =>
      e = .returned (.string ⟨(word (s.data.toList.drop p)).toArray⟩) ∧ Only b w w' ∧ Rdr w' b s (p + (word (s.data.toList.drop p)).length) := by
  obtain ⟨c0, c1, f0, f1, hb⟩ := two h
  have H := Lib.hid h
  clear h
  go_enter Tryz.func186, Tryz.ntmps186
  go_wp2
  clear c0 c1 f0 f1
  go_loopw [8, 9, 10, 11, 12, 13, 14, 15, 16, 17] (fun _ _ _ _ _ _ _ _ _ _ wr => ∃ k : Nat, p + k ≤ s.size ∧ Only b w wr ∧ Rdr wr b s (p + k) ∧ k + (word (s.data.toList.drop (p + k))).length = (word (s.data.toList.drop p)).length) (fun _ _ _ _ _ _ _ _ _ _ wr => s.size - atOf wr b)
  case atStart => exact ⟨0, by omega, Only.refl _ _, H.out, by simp⟩
  case round =>
    obtain ⟨k, hk, ho, hr, hl⟩ := hrel
    have HO := Lib.hid ho
    have HR := Lib.hid hr
    have HL := Lib.hid hl
    clear ho hr hl
    have hat := atOf_rdr HR.out
    have HAT := Lib.hid hat
    clear hat
    cases hx : isAt (nx (s.data.toList.drop (p + k)))
    · have HX := Lib.hid hx
      have a1 := isAtomByte_calls (nx (s.data.toList.drop (p + k)))
      rw [hx] at a1
      clear hx
      go_wp2_with (first | (go_at_call 176; refine (next_calls _ _ _ _ HR.out hk hs).mono ?_; rintro e w1 ⟨rfl, h1⟩) | (go_at_call 104; refine (a1 _).mono ?_; rintro e w2 ⟨rfl, rfl⟩))
      have hr1 := h1.rdr HR.out
      have HO1 := Lib.hid (HO.out.trans (h1.only b))
      obtain ⟨c0, c1, f0, f1, hb1⟩ := two hr1
      have HR1 := Lib.hid hr1
      clear h1 hr1
      have hcut := word_cut s p hp
      have hkk : k = (word (s.data.toList.drop p)).length := by have := HL.out; rw [word_end HX.out] at this; simpa using this
      rw [← hkk] at hcut
      have HC := Lib.hid hcut
      have HK := Lib.hid hkk
      have hcut2 := fun w => run_cut s p k (by omega) w
      rw [HC.out] at hcut2
      clear hcut hkk
      have e1 : (((p + k : Nat) : Int)) = (p : Int) + (k : Int) := by omega
      rw [e1] at c1
      clear e1
      go_wp2
      go_quiet (fail)
      go_wp2
      go_ret
      exact ⟨rfl, HO1.out.trans ((Still.drewN _ _).only b), by rw [← HK.out]; exact HR1.out⟩
    · have HX := Lib.hid hx
      have a1 := isAtomByte_calls (nx (s.data.toList.drop (p + k)))
      rw [hx] at a1
      clear hx
      have hlt := nx_isAt HX.out
      go_wp2_with fail
      refine (next_calls _ _ _ _ HR.out hk hs).mono ?_
      rintro e w1 ⟨rfl, h1⟩
      have hr1 := h1.rdr HR.out
      have HO1 := Lib.hid (HO.out.trans (h1.only b))
      obtain ⟨c0, c1, f0, f1, hb1⟩ := two hr1
      have HR1 := Lib.hid hr1
      clear h1 hr1
      have e1 : (((p + k : Nat) : Int)) = (p : Int) + (k : Int) := by omega
      rw [e1] at c1
      clear e1
      go_wp2_with (go_at_call 104; refine (a1 _).mono ?_; rintro e w2 ⟨rfl, rfl⟩)
      go_roundw
      case rel =>
        refine ⟨k + 1, by omega, HO1.out.trans (Only.setCell _ _), ?_, ?_⟩
        · have := HR1.out.set (p + (k + 1))
          simpa [Int.add_assoc] using this
        · have := HL.out
          rw [word_step HX.out] at this
          simp only [List.length_cons] at this
          rw [show p + (k + 1) = p + k + 1 from rfl]
          omega
      case measure =>
        have e2 := atOf_rdr (HR1.out.set (p + (k + 1)))
        rw [show (((p + (k + 1) : Nat)) : Int) = (p : Int) + (k : Int) + 1 by omega] at e2
        rw [HAT.out, e2]
        omega
end Go.Proofs.YtonjohlecomeoaaGreat.rdr

/- Terms as values of the program; what build of the program makes of an op and its args. -/
namespace Go.Proofs.YtonjohlecomeoaaGreat.bld
open Go.RowKit Go.Proofs.YtonjohlecomeoaaGreat.tm Go.Proofs.YtonjohlecomeoaaGreat.lib Go.Proofs.YtonjohlecomeoaaGreat.rdr
set_option linter.unusedVariables false


def val : Tm → Value
  | .atom a => .iface 151 (str a)
  | .pair l r => .iface 191 (.agg #[val l, val r])
  | .hash x => .iface 193 (.agg #[val x])
  | .mac k x => .iface 195 (.agg #[val k, val x])
  | .shut k x => .iface 178 (.agg #[val k, val x])
  | .pub a => .iface 169 (.agg #[str a])
  | .dh a b => .iface 204 (.agg #[str a, str b])

/-- A slice of terms that the call itself made. -/
def Tms (w : World) (B : Nat) (v : Value) (ts : List Tm) : Prop := w.ownsRow B 122 1 v ts.length (ts.map val)


theorem Tms.form {w : World} {B : Nat} {v : Value} {ts : List Tm} (h : Tms w B v ts) :
    (v = .slice none 0 0 ∧ ts = []) ∨ ∃ g cap, v = .slice (some ⟨g, 0, none⟩) ts.length cap ∧ ∀ j T, ts[j]? = some T → w.cell? ⟨g, j, none⟩ = some (val T) := by
  have h' := h
  obtain ⟨hl, h⟩ := h
  rcases h with ⟨rfl, h⟩ | ⟨g, cap, cur, rfl, hg, hh, hc1, hc2, hc3, hc4⟩
  · exact .inl ⟨rfl, List.eq_nil_of_length_eq_zero h⟩
  · refine .inr ⟨g, cap, rfl, fun j T hj => ?_⟩
    have := World.ownsRow.cells h' (g := g) rfl j (val T) (by rw [List.getElem?_map, hj]; rfl)
    rw [Addr.add_lit, Nat.zero_add] at this
    exact this

theorem Tms.one {w : World} {B : Nat} {v : Value} {x : Tm} (h : Tms w B v [x]) : ∃ g cap, v = .slice (some ⟨g, 0, none⟩) 1 cap ∧ w.cell? ⟨g, 0, none⟩ = some (val x) := by
  rcases h.form with ⟨_, h⟩ | ⟨g, cap, e, h⟩
  · cases h
  · exact ⟨g, cap, e, h 0 x rfl⟩
theorem Tms.two {w : World} {B : Nat} {v : Value} {x y : Tm} (h : Tms w B v [x, y]) : ∃ g cap, v = .slice (some ⟨g, 0, none⟩) 2 cap ∧ w.cell? ⟨g, 0, none⟩ = some (val x) ∧ w.cell? ⟨g, 1, none⟩ = some (val y) := by
  rcases h.form with ⟨_, h⟩ | ⟨g, cap, e, h⟩
  · cases h
  · exact ⟨g, cap, e, h 0 x rfl, h 1 y rfl⟩

theorem as_atom (a : Bs) (w : World) : (Instr.typeAssert (val (.atom a)) 122 151 true).run Tryz.prog w = .ok (.tuple #[str a, .bool true]) w := by kernel_rfl
theorem as_atom_no (T : Tm) (h : T.isAtom = false) (w : World) : (Instr.typeAssert (val T) 122 151 true).run Tryz.prog w = .ok (.tuple #[.string ⟨#[]⟩, .bool false]) w := by
  cases T <;> first | (simp [Tm.isAtom] at h; done) | kernel_rfl

set_option maxRecDepth 100000 in
theorem secret_atom (a : Bs) (w : World) : Calls Tryz.prog 165 #[val (.atom a)] w fun e w' => e = .returned (str a) ∧ w = w' := by
  have h1 := as_atom a
  go_enter Tryz.func165, Tryz.ntmps165
  go_wp2
  go_ret
  exact ⟨rfl, rfl⟩

set_option maxRecDepth 100000 in
theorem secret_no (T : Tm) (h : T.isAtom = false) (w : World) : Calls Tryz.prog 165 #[val T] w fun e w' => e = fault 1 ∧ w = w' := by
  have h1 := as_atom_no T h
  clear h
  go_enter Tryz.func165, Tryz.ntmps165
  go_wp2_with (go_at_call 103; refine (refuse_calls _ _).mono ?_; rintro e w' ⟨rfl, rfl⟩)
  exact ⟨rfl, rfl, rfl⟩

theorem gt_false {a b : Bs} (h : gt a b = false) : Op.bytesLess a b = true ∨ (Op.bytesLess a b = false ∧ (a == b) = true) := by
  unfold gt at h
  cases h1 : Op.bytesLess a b
  · right; rw [h1] at h; simpa using h
  · left; rfl
theorem gt_true {a b : Bs} (h : gt a b = true) : Op.bytesLess a b = false ∧ (a == b) = false := by
  unfold gt at h
  cases h1 : Op.bytesLess a b
  · rw [h1] at h; simpa using h
  · rw [h1] at h; simp at h

set_option maxRecDepth 100000 in
theorem shared_yes (a b : Bs) (h : gt a b = false) (w : World) : Calls Tryz.prog 166 #[str a, str b] w fun e w' => e = .returned (val (.dh a b)) ∧ w = w' := by
  simp only [val]
  unfold str
  rcases gt_false h with h1 | ⟨h1, h2⟩
  all_goals
    clear h
    go_enter Tryz.func166, Tryz.ntmps166
    go_wp2_with fail
    go_ret
    exact ⟨rfl, rfl⟩

set_option maxRecDepth 100000 in
theorem shared_no (a b : Bs) (h : gt a b = true) (w : World) : Calls Tryz.prog 166 #[str a, str b] w fun e w' => e = fault 1 ∧ w = w' := by
  unfold str
  obtain ⟨h1, h2⟩ := gt_true h
  clear h
  go_enter Tryz.func166, Tryz.ntmps166
  go_wp2_with (go_at_call 103; refine (refuse_calls _ _).mono ?_; rintro e w' ⟨rfl, rfl⟩)
  exact ⟨rfl, rfl, rfl⟩

theorem val_iface (T : Tm) : ∃ t v, val T = .iface t v := by cases T <;> exact ⟨_, _, rfl⟩

set_option maxRecDepth 100000 in
theorem build_pair (x y : Tm) (w : World) (B : Nat) (v : Value) (hv : Tms w B v [x, y]) :
    Calls Tryz.prog 147 #[str oPair, v] w fun e w' => e = .returned (val (.pair x y)) ∧ Still w w' := by
  obtain ⟨g, cap, rfl, c0, c1⟩ := hv.two
  clear hv
  simp only [val]
  obtain ⟨tx, vx, ex⟩ := val_iface x
  obtain ⟨ty, vy, ey⟩ := val_iface y
  rw [ex, ey]
  rw [ex] at c0
  rw [ey] at c1
  clear ex ey
  unfold str oPair
  go_enter Tryz.func147, Tryz.ntmps147
  go_wp2_with fail
  go_quiet (fail)
  go_wp2
  go_ret
  exact ⟨rfl, Still.drewN _ _⟩

set_option maxRecDepth 100000 in
theorem build_hash (x : Tm) (w : World) (B : Nat) (v : Value) (hv : Tms w B v [x]) :
    Calls Tryz.prog 147 #[str oHash, v] w fun e w' => e = .returned (val (.hash x)) ∧ Still w w' := by
  obtain ⟨g, cap, rfl, c0⟩ := hv.one
  clear hv
  simp only [val]
  obtain ⟨tx, vx, ex⟩ := val_iface x
  rw [ex]
  rw [ex] at c0
  clear ex
  unfold str oHash
  go_enter Tryz.func147, Tryz.ntmps147
  go_wp2_with fail
  go_ret
  exact ⟨rfl, Still.refl _⟩

set_option maxRecDepth 100000 in
theorem build_mac (x y : Tm) (w : World) (B : Nat) (v : Value) (hv : Tms w B v [x, y]) :
    Calls Tryz.prog 147 #[str oMac, v] w fun e w' => e = .returned (val (.mac x y)) ∧ Still w w' := by
  obtain ⟨g, cap, rfl, c0, c1⟩ := hv.two
  clear hv
  simp only [val]
  obtain ⟨tx, vx, ex⟩ := val_iface x
  obtain ⟨ty, vy, ey⟩ := val_iface y
  rw [ex, ey]
  rw [ex] at c0
  rw [ey] at c1
  clear ex ey
  unfold str oMac
  go_enter Tryz.func147, Tryz.ntmps147
  go_wp2_with fail
  go_quiet (fail)
  go_wp2
  go_ret
  exact ⟨rfl, Still.drewN _ _⟩

set_option maxRecDepth 100000 in
theorem build_shut (x y : Tm) (w : World) (B : Nat) (v : Value) (hv : Tms w B v [x, y]) :
    Calls Tryz.prog 147 #[str oShut, v] w fun e w' => e = .returned (val (.shut x y)) ∧ Still w w' := by
  obtain ⟨g, cap, rfl, c0, c1⟩ := hv.two
  clear hv
  simp only [val]
  obtain ⟨tx, vx, ex⟩ := val_iface x
  obtain ⟨ty, vy, ey⟩ := val_iface y
  rw [ex, ey]
  rw [ex] at c0
  rw [ey] at c1
  clear ex ey
  unfold str oShut
  go_enter Tryz.func147, Tryz.ntmps147
  go_wp2_with fail
  go_quiet (fail)
  go_wp2
  go_ret
  exact ⟨rfl, Still.drewN _ _⟩

set_option maxRecDepth 100000 in
theorem build_pub (a : Bs) (w : World) (B : Nat) (v : Value) (hv : Tms w B v [.atom a]) :
    Calls Tryz.prog 147 #[str oPub, v] w fun e w' => e = .returned (val (.pub a)) ∧ Still w w' := by
  obtain ⟨g, cap, rfl, c0⟩ := hv.one
  clear hv
  unfold oPub
  have e0 : str [112, 117, 98] = .string ⟨#[112, 117, 98]⟩ := rfl
  rw [e0]
  clear e0
  go_enter Tryz.func147, Tryz.ntmps147
  go_wp2_with (go_at_call 165; refine (secret_atom _ _).mono ?_; rintro e w' ⟨rfl, rfl⟩)
  go_ret
  exact ⟨rfl, Still.refl _⟩

set_option maxRecDepth 100000 in
theorem build_pub_no (T : Tm) (h : T.isAtom = false) (w : World) (B : Nat) (v : Value) (hv : Tms w B v [T]) :
    Calls Tryz.prog 147 #[str oPub, v] w fun e w' => e = fault 1 ∧ Still w w' := by
  obtain ⟨g, cap, rfl, c0⟩ := hv.one
  have H := Lib.hid h
  clear hv h
  unfold oPub
  have e0 : str [112, 117, 98] = .string ⟨#[112, 117, 98]⟩ := rfl
  rw [e0]
  clear e0
  go_enter Tryz.func147, Tryz.ntmps147
  go_wp2_with (go_at_call 165; refine (secret_no _ H.out _).mono ?_; rintro e w' ⟨rfl, rfl⟩)
  exact ⟨rfl, rfl, Still.refl _⟩

set_option maxRecDepth 100000 in
theorem build_dh (a b : Bs) (hgt : gt a b = false) (w : World) (B : Nat) (v : Value) (hv : Tms w B v [.atom a, .atom b]) :
    Calls Tryz.prog 147 #[str oDh, v] w fun e w' => e = .returned (val (.dh a b)) ∧ Still w w' := by
  obtain ⟨g, cap, rfl, c0, c1⟩ := hv.two
  have H := Lib.hid hgt
  clear hv hgt
  unfold oDh
  have e0 : str [100, 104] = .string ⟨#[100, 104]⟩ := rfl
  rw [e0]
  clear e0
  go_enter Tryz.func147, Tryz.ntmps147
  go_wp2_with fail
  go_quiet ((first | (go_at_call 165; exact Calls.quiet_of_same ((secret_atom _ _).mono fun e w' ⟨h1, h2⟩ => ⟨h1, h2.symm⟩)) | (go_at_call 166; exact Calls.quiet_of_same ((shared_yes _ _ H.out _).mono fun e w' ⟨h1, h2⟩ => ⟨h1, h2.symm⟩))))
  go_wp2
  go_ret
  exact ⟨rfl, Still.drewN _ _⟩

theorem Tms.len {w : World} {B : Nat} {v : Value} {ts : List Tm} (h : Tms w B v ts) : v = .slice none 0 0 ∧ ts = [] ∨ ∃ g cap, v = .slice (some ⟨g, 0, none⟩) ts.length cap := by
  rcases h.form with h | ⟨g, cap, e, _⟩
  · exact .inl h
  · exact .inr ⟨g, cap, e⟩

set_option maxRecDepth 100000 in
theorem build_len2 (op : Bs) (hop : op = oPair ∨ op = oMac ∨ op = oShut ∨ op = oDh) (ts : List Tm) (hn : ts.length ≠ 2) (w : World) (B : Nat) (v : Value) (hv : Tms w B v ts) :
    Calls Tryz.prog 147 #[str op, v] w fun e w' => e = fault 1 ∧ Still w w' := by
  have d2 : ((ts.length : Int) == 2) = false := by rw [beq_eq_false_iff_ne]; omega
  rcases hv.len with ⟨rfl, rfl⟩ | ⟨g, cap, rfl⟩
  all_goals
    clear hv hn
    rcases hop with rfl | rfl | rfl | rfl
  all_goals
    first | unfold oPair | unfold oMac | unfold oShut | unfold oDh
    go_enter Tryz.func147, Tryz.ntmps147
    go_wp2_with fail
    exact ⟨rfl, rfl, Still.refl _⟩

set_option maxRecDepth 100000 in
theorem build_len1 (op : Bs) (hop : op = oHash ∨ op = oPub) (ts : List Tm) (hn : ts.length ≠ 1) (w : World) (B : Nat) (v : Value) (hv : Tms w B v ts) :
    Calls Tryz.prog 147 #[str op, v] w fun e w' => e = fault 1 ∧ Still w w' := by
  have d2 : ((ts.length : Int) == 1) = false := by rw [beq_eq_false_iff_ne]; omega
  rcases hv.len with ⟨rfl, rfl⟩ | ⟨g, cap, rfl⟩
  all_goals
    clear hv hn
    rcases hop with rfl | rfl
  all_goals
    first | unfold oHash | unfold oPub
    go_enter Tryz.func147, Tryz.ntmps147
    go_wp2_with fail
    exact ⟨rfl, rfl, Still.refl _⟩

set_option maxRecDepth 100000 in
theorem build_op (op : Bs) (h1 : op ≠ oPair) (h2 : op ≠ oHash) (h3 : op ≠ oMac) (h4 : op ≠ oShut) (h5 : op ≠ oPub) (h6 : op ≠ oDh) (w : World) (v : Value) :
    Calls Tryz.prog 147 #[str op, v] w fun e w' => e = fault 1 ∧ Still w w' := by
  have e1 : (op == [112, 97, 105, 114]) = false := by rw [beq_eq_false_iff_ne]; exact h1
  have e2 : (op == [104, 97, 115, 104]) = false := by rw [beq_eq_false_iff_ne]; exact h2
  have e3 : (op == [109, 97, 99]) = false := by rw [beq_eq_false_iff_ne]; exact h3
  have e4 : (op == [115, 104, 117, 116]) = false := by rw [beq_eq_false_iff_ne]; exact h4
  have e5 : (op == [112, 117, 98]) = false := by rw [beq_eq_false_iff_ne]; exact h5
  have e6 : (op == [100, 104]) = false := by rw [beq_eq_false_iff_ne]; exact h6
  clear h1 h2 h3 h4 h5 h6
  go_enter Tryz.func147, Tryz.ntmps147
  go_wp2_with fail
  exact ⟨rfl, rfl, Still.refl _⟩

set_option maxHeartbeats 1000000 in
set_option maxRecDepth 100000 in
theorem build_dh_nn (x y : Tm) (hx : x.isAtom = false) (hy : y.isAtom = false) (w : World) (B : Nat) (v : Value) (hv : Tms w B v [x, y]) :
    Calls Tryz.prog 147 #[str oDh, v] w fun e w' => e = fault 1 ∧ Still w w' := by
  obtain ⟨g, cap, rfl, c0, c1⟩ := hv.two
  have HX := Lib.hid hx
  have HY := Lib.hid hy
  clear hv hx hy
  unfold oDh
  have e0 : str [100, 104] = .string ⟨#[100, 104]⟩ := rfl
  rw [e0]
  clear e0
  go_enter Tryz.func147, Tryz.ntmps147
  go_wp2_with fail
  refine wp_region_any (by kernel_rfl) ?_
  change wpAny _ _ _ _ _ _ _ (World.drew _)
  refine wpAny_take (i := 0) (v := ?_) rfl (by kernel_rfl) (by kernel_rfl) (by kernel_rfl) (fun _ _ _ h => h) (Or.inl ⟨by rfl, ?_⟩) ?_
  rotate_left
  · intro w; go_simp; first | done | with_reducible rfl
  refine wpAny_take (i := 1) (v := ?_) rfl (by kernel_rfl) (by kernel_rfl) (by kernel_rfl) (fun _ _ _ h => h) (Or.inl ⟨by rfl, ?_⟩) ?_
  rotate_left
  · intro w; go_simp; first | done | with_reducible rfl
  refine wpAny_take (i := 4) (v := ?_) rfl (by kernel_rfl) (by kernel_rfl) (by kernel_rfl) (fun _ _ _ h => h) (Or.inl ⟨by rfl, ?_⟩) ?_
  rotate_left
  · intro w; go_simp; first | done | with_reducible rfl
  refine wpAny_take (i := 5) (v := ?_) rfl (by kernel_rfl) (by kernel_rfl) (by kernel_rfl) (fun _ _ _ h => h) (Or.inl ⟨by rfl, ?_⟩) ?_
  rotate_left
  · intro w; go_simp; first | done | with_reducible rfl
  refine wpAny_ready (rs := [2, 6]) (by kernel_rfl) (by simp) ?_
  refine AllReady.cons rfl (fun K hK => ?_) ?_
  · go_simp
    refine hK _ _ ?_
    clear hK K
    refine wpAny_ready (rs := [3, 6]) (by kernel_rfl) (by simp) ?_
    refine AllReady.cons rfl (fun K hK => ?_) ?_
    · go_simp
      refine (secret_no x HX.out _).mono ?_
      rintro e w' ⟨rfl, rfl⟩
      exact ⟨rfl, rfl, rfl, rfl, rfl, rfl⟩
    refine AllReady.cons rfl (fun K hK => ?_) ?_
    · go_simp
      refine hK _ _ ?_
      clear hK K
      refine wpAny_ready (rs := [3]) (by kernel_rfl) (by simp) ?_
      refine AllReady.cons rfl (fun K hK => ?_) ?_
      · go_simp
        refine (secret_no x HX.out _).mono ?_
        rintro e w' ⟨rfl, rfl⟩
        exact ⟨rfl, rfl, rfl, rfl, rfl, rfl⟩
      exact AllReady.nil
    exact AllReady.nil
  refine AllReady.cons rfl (fun K hK => ?_) ?_
  · go_simp
    refine hK _ _ ?_
    clear hK K
    refine wpAny_ready (rs := [2]) (by kernel_rfl) (by simp) ?_
    refine AllReady.cons rfl (fun K hK => ?_) ?_
    · go_simp
      refine hK _ _ ?_
      clear hK K
      refine wpAny_ready (rs := [3]) (by kernel_rfl) (by simp) ?_
      refine AllReady.cons rfl (fun K hK => ?_) ?_
      · go_simp
        refine (secret_no x HX.out _).mono ?_
        rintro e w' ⟨rfl, rfl⟩
        exact ⟨rfl, rfl, rfl, rfl, rfl, rfl⟩
      exact AllReady.nil
    exact AllReady.nil
  exact AllReady.nil

set_option maxHeartbeats 1000000 in
set_option maxRecDepth 100000 in
theorem build_dh_na (x : Tm) (b : Bs) (hx : x.isAtom = false) (w : World) (B : Nat) (v : Value) (hv : Tms w B v [x, .atom b]) :
    Calls Tryz.prog 147 #[str oDh, v] w fun e w' => e = fault 1 ∧ Still w w' := by
  obtain ⟨g, cap, rfl, c0, c1⟩ := hv.two
  have HX := Lib.hid hx
  clear hv hx
  unfold oDh
  have e0 : str [100, 104] = .string ⟨#[100, 104]⟩ := rfl
  rw [e0]
  clear e0
  go_enter Tryz.func147, Tryz.ntmps147
  go_wp2_with fail
  refine wp_region_any (by kernel_rfl) ?_
  change wpAny _ _ _ _ _ _ _ (World.drew _)
  refine wpAny_take (i := 0) (v := ?_) rfl (by kernel_rfl) (by kernel_rfl) (by kernel_rfl) (fun _ _ _ h => h) (Or.inl ⟨by rfl, ?_⟩) ?_
  rotate_left
  · intro w; go_simp; first | done | with_reducible rfl
  refine wpAny_take (i := 1) (v := ?_) rfl (by kernel_rfl) (by kernel_rfl) (by kernel_rfl) (fun _ _ _ h => h) (Or.inl ⟨by rfl, ?_⟩) ?_
  rotate_left
  · intro w; go_simp; first | done | with_reducible rfl
  refine wpAny_take (i := 4) (v := ?_) rfl (by kernel_rfl) (by kernel_rfl) (by kernel_rfl) (fun _ _ _ h => h) (Or.inl ⟨by rfl, ?_⟩) ?_
  rotate_left
  · intro w; go_simp; first | done | with_reducible rfl
  refine wpAny_take (i := 5) (v := ?_) rfl (by kernel_rfl) (by kernel_rfl) (by kernel_rfl) (fun _ _ _ h => h) (Or.inl ⟨by rfl, ?_⟩) ?_
  rotate_left
  · intro w; go_simp; first | done | with_reducible rfl
  refine wpAny_ready (rs := [2, 6]) (by kernel_rfl) (by simp) ?_
  refine AllReady.cons rfl (fun K hK => ?_) ?_
  · go_simp
    refine hK _ _ ?_
    clear hK K
    refine wpAny_ready (rs := [3, 6]) (by kernel_rfl) (by simp) ?_
    refine AllReady.cons rfl (fun K hK => ?_) ?_
    · go_simp
      refine (secret_no x HX.out _).mono ?_
      rintro e w' ⟨rfl, rfl⟩
      exact ⟨rfl, rfl, rfl, rfl, rfl, rfl⟩
    refine AllReady.cons rfl (fun K hK => ?_) ?_
    · go_simp
      refine hK _ _ ?_
      clear hK K
      refine wpAny_ready (rs := [3]) (by kernel_rfl) (by simp) ?_
      refine AllReady.cons rfl (fun K hK => ?_) ?_
      · go_simp
        refine (secret_no x HX.out _).mono ?_
        rintro e w' ⟨rfl, rfl⟩
        exact ⟨rfl, rfl, rfl, rfl, rfl, rfl⟩
      exact AllReady.nil
    exact AllReady.nil
  refine AllReady.cons rfl (fun K hK => ?_) ?_
  · go_simp
    refine hK _ _ ?_
    clear hK K
    refine wpAny_ready (rs := [2]) (by kernel_rfl) (by simp) ?_
    refine AllReady.cons rfl (fun K hK => ?_) ?_
    · go_simp
      refine hK _ _ ?_
      clear hK K
      refine wpAny_ready (rs := [3]) (by kernel_rfl) (by simp) ?_
      refine AllReady.cons rfl (fun K hK => ?_) ?_
      · go_simp
        refine (secret_no x HX.out _).mono ?_
        rintro e w' ⟨rfl, rfl⟩
        exact ⟨rfl, rfl, rfl, rfl, rfl, rfl⟩
      exact AllReady.nil
    exact AllReady.nil
  exact AllReady.nil

set_option maxHeartbeats 1000000 in
set_option maxRecDepth 100000 in
theorem build_dh_an (a : Bs) (y : Tm) (hy : y.isAtom = false) (w : World) (B : Nat) (v : Value) (hv : Tms w B v [.atom a, y]) :
    Calls Tryz.prog 147 #[str oDh, v] w fun e w' => e = fault 1 ∧ Still w w' := by
  obtain ⟨g, cap, rfl, c0, c1⟩ := hv.two
  have HY := Lib.hid hy
  clear hv hy
  unfold oDh
  have e0 : str [100, 104] = .string ⟨#[100, 104]⟩ := rfl
  rw [e0]
  clear e0
  go_enter Tryz.func147, Tryz.ntmps147
  go_wp2_with fail
  refine wp_region_any (by kernel_rfl) ?_
  change wpAny _ _ _ _ _ _ _ (World.drew _)
  refine wpAny_take (i := 0) (v := ?_) rfl (by kernel_rfl) (by kernel_rfl) (by kernel_rfl) (fun _ _ _ h => h) (Or.inl ⟨by rfl, ?_⟩) ?_
  rotate_left
  · intro w; go_simp; first | done | with_reducible rfl
  refine wpAny_take (i := 1) (v := ?_) rfl (by kernel_rfl) (by kernel_rfl) (by kernel_rfl) (fun _ _ _ h => h) (Or.inl ⟨by rfl, ?_⟩) ?_
  rotate_left
  · intro w; go_simp; first | done | with_reducible rfl
  refine wpAny_take (i := 4) (v := ?_) rfl (by kernel_rfl) (by kernel_rfl) (by kernel_rfl) (fun _ _ _ h => h) (Or.inl ⟨by rfl, ?_⟩) ?_
  rotate_left
  · intro w; go_simp; first | done | with_reducible rfl
  refine wpAny_take (i := 5) (v := ?_) rfl (by kernel_rfl) (by kernel_rfl) (by kernel_rfl) (fun _ _ _ h => h) (Or.inl ⟨by rfl, ?_⟩) ?_
  rotate_left
  · intro w; go_simp; first | done | with_reducible rfl
  refine wpAny_ready (rs := [2, 6]) (by kernel_rfl) (by simp) ?_
  refine AllReady.cons rfl (fun K hK => ?_) ?_
  · go_simp
    refine hK _ _ ?_
    clear hK K
    refine wpAny_ready (rs := [3, 6]) (by kernel_rfl) (by simp) ?_
    refine AllReady.cons rfl (fun K hK => ?_) ?_
    · go_simp
      refine (secret_atom a _).mono ?_
      rintro e w' ⟨rfl, rfl⟩
      refine hK _ _ ?_
      clear hK K
      refine wpAny_ready (rs := [6]) (by kernel_rfl) (by simp) ?_
      refine AllReady.cons rfl (fun K hK => ?_) ?_
      · go_simp
        refine hK _ _ ?_
        clear hK K
        refine wpAny_ready (rs := [7]) (by kernel_rfl) (by simp) ?_
        refine AllReady.cons rfl (fun K hK => ?_) ?_
        · go_simp
          refine (secret_no y HY.out _).mono ?_
          rintro e w' ⟨rfl, rfl⟩
          exact ⟨rfl, rfl, rfl, rfl, rfl, rfl⟩
        exact AllReady.nil
      exact AllReady.nil
    refine AllReady.cons rfl (fun K hK => ?_) ?_
    · go_simp
      refine hK _ _ ?_
      clear hK K
      refine wpAny_ready (rs := [3]) (by kernel_rfl) (by simp) ?_
      refine AllReady.cons rfl (fun K hK => ?_) ?_
      · go_simp
        refine (secret_atom a _).mono ?_
        rintro e w' ⟨rfl, rfl⟩
        refine hK _ _ ?_
        clear hK K
        refine wpAny_ready (rs := [7]) (by kernel_rfl) (by simp) ?_
        refine AllReady.cons rfl (fun K hK => ?_) ?_
        · go_simp
          refine (secret_no y HY.out _).mono ?_
          rintro e w' ⟨rfl, rfl⟩
          exact ⟨rfl, rfl, rfl, rfl, rfl, rfl⟩
        exact AllReady.nil
      exact AllReady.nil
    exact AllReady.nil
  refine AllReady.cons rfl (fun K hK => ?_) ?_
  · go_simp
    refine hK _ _ ?_
    clear hK K
    refine wpAny_ready (rs := [2]) (by kernel_rfl) (by simp) ?_
    refine AllReady.cons rfl (fun K hK => ?_) ?_
    · go_simp
      refine hK _ _ ?_
      clear hK K
      refine wpAny_ready (rs := [3]) (by kernel_rfl) (by simp) ?_
      refine AllReady.cons rfl (fun K hK => ?_) ?_
      · go_simp
        refine (secret_atom a _).mono ?_
        rintro e w' ⟨rfl, rfl⟩
        refine hK _ _ ?_
        clear hK K
        refine wpAny_ready (rs := [7]) (by kernel_rfl) (by simp) ?_
        refine AllReady.cons rfl (fun K hK => ?_) ?_
        · go_simp
          refine (secret_no y HY.out _).mono ?_
          rintro e w' ⟨rfl, rfl⟩
          exact ⟨rfl, rfl, rfl, rfl, rfl, rfl⟩
        exact AllReady.nil
      exact AllReady.nil
    exact AllReady.nil
  exact AllReady.nil

set_option maxHeartbeats 1000000 in
set_option maxRecDepth 100000 in
theorem build_dh_gt (a b : Bs) (hgt : gt a b = true) (w : World) (B : Nat) (v : Value) (hv : Tms w B v [.atom a, .atom b]) :
    Calls Tryz.prog 147 #[str oDh, v] w fun e w' => e = fault 1 ∧ Still w w' := by
  obtain ⟨g, cap, rfl, c0, c1⟩ := hv.two
  have HGT := Lib.hid hgt
  clear hv hgt
  unfold oDh
  have e0 : str [100, 104] = .string ⟨#[100, 104]⟩ := rfl
  rw [e0]
  clear e0
  go_enter Tryz.func147, Tryz.ntmps147
  go_wp2_with fail
  refine wp_region_any (by kernel_rfl) ?_
  change wpAny _ _ _ _ _ _ _ (World.drew _)
  refine wpAny_take (i := 0) (v := ?_) rfl (by kernel_rfl) (by kernel_rfl) (by kernel_rfl) (fun _ _ _ h => h) (Or.inl ⟨by rfl, ?_⟩) ?_
  rotate_left
  · intro w; go_simp; first | done | with_reducible rfl
  refine wpAny_take (i := 1) (v := ?_) rfl (by kernel_rfl) (by kernel_rfl) (by kernel_rfl) (fun _ _ _ h => h) (Or.inl ⟨by rfl, ?_⟩) ?_
  rotate_left
  · intro w; go_simp; first | done | with_reducible rfl
  refine wpAny_take (i := 4) (v := ?_) rfl (by kernel_rfl) (by kernel_rfl) (by kernel_rfl) (fun _ _ _ h => h) (Or.inl ⟨by rfl, ?_⟩) ?_
  rotate_left
  · intro w; go_simp; first | done | with_reducible rfl
  refine wpAny_take (i := 5) (v := ?_) rfl (by kernel_rfl) (by kernel_rfl) (by kernel_rfl) (fun _ _ _ h => h) (Or.inl ⟨by rfl, ?_⟩) ?_
  rotate_left
  · intro w; go_simp; first | done | with_reducible rfl
  refine wpAny_ready (rs := [2, 6]) (by kernel_rfl) (by simp) ?_
  refine AllReady.cons rfl (fun K hK => ?_) ?_
  · go_simp
    refine hK _ _ ?_
    clear hK K
    refine wpAny_ready (rs := [3, 6]) (by kernel_rfl) (by simp) ?_
    refine AllReady.cons rfl (fun K hK => ?_) ?_
    · go_simp
      refine (secret_atom a _).mono ?_
      rintro e w' ⟨rfl, rfl⟩
      refine hK _ _ ?_
      clear hK K
      refine wpAny_ready (rs := [6]) (by kernel_rfl) (by simp) ?_
      refine AllReady.cons rfl (fun K hK => ?_) ?_
      · go_simp
        refine hK _ _ ?_
        clear hK K
        refine wpAny_ready (rs := [7]) (by kernel_rfl) (by simp) ?_
        refine AllReady.cons rfl (fun K hK => ?_) ?_
        · go_simp
          refine (secret_atom b _).mono ?_
          rintro e w' ⟨rfl, rfl⟩
          refine hK _ _ ?_
          clear hK K
          refine wpAny_ready (rs := [8]) (by kernel_rfl) (by simp) ?_
          refine AllReady.cons rfl (fun K hK => ?_) ?_
          · go_simp
            refine (shared_no a b HGT.out _).mono ?_
            rintro e w' ⟨rfl, rfl⟩
            exact ⟨rfl, rfl, rfl, rfl, rfl, rfl⟩
          exact AllReady.nil
        exact AllReady.nil
      exact AllReady.nil
    refine AllReady.cons rfl (fun K hK => ?_) ?_
    · go_simp
      refine hK _ _ ?_
      clear hK K
      refine wpAny_ready (rs := [3]) (by kernel_rfl) (by simp) ?_
      refine AllReady.cons rfl (fun K hK => ?_) ?_
      · go_simp
        refine (secret_atom a _).mono ?_
        rintro e w' ⟨rfl, rfl⟩
        refine hK _ _ ?_
        clear hK K
        refine wpAny_ready (rs := [7]) (by kernel_rfl) (by simp) ?_
        refine AllReady.cons rfl (fun K hK => ?_) ?_
        · go_simp
          refine (secret_atom b _).mono ?_
          rintro e w' ⟨rfl, rfl⟩
          refine hK _ _ ?_
          clear hK K
          refine wpAny_ready (rs := [8]) (by kernel_rfl) (by simp) ?_
          refine AllReady.cons rfl (fun K hK => ?_) ?_
          · go_simp
            refine (shared_no a b HGT.out _).mono ?_
            rintro e w' ⟨rfl, rfl⟩
            exact ⟨rfl, rfl, rfl, rfl, rfl, rfl⟩
          exact AllReady.nil
        exact AllReady.nil
      exact AllReady.nil
    exact AllReady.nil
  refine AllReady.cons rfl (fun K hK => ?_) ?_
  · go_simp
    refine hK _ _ ?_
    clear hK K
    refine wpAny_ready (rs := [2]) (by kernel_rfl) (by simp) ?_
    refine AllReady.cons rfl (fun K hK => ?_) ?_
    · go_simp
      refine hK _ _ ?_
      clear hK K
      refine wpAny_ready (rs := [3]) (by kernel_rfl) (by simp) ?_
      refine AllReady.cons rfl (fun K hK => ?_) ?_
      · go_simp
        refine (secret_atom a _).mono ?_
        rintro e w' ⟨rfl, rfl⟩
        refine hK _ _ ?_
        clear hK K
        refine wpAny_ready (rs := [7]) (by kernel_rfl) (by simp) ?_
        refine AllReady.cons rfl (fun K hK => ?_) ?_
        · go_simp
          refine (secret_atom b _).mono ?_
          rintro e w' ⟨rfl, rfl⟩
          refine hK _ _ ?_
          clear hK K
          refine wpAny_ready (rs := [8]) (by kernel_rfl) (by simp) ?_
          refine AllReady.cons rfl (fun K hK => ?_) ?_
          · go_simp
            refine (shared_no a b HGT.out _).mono ?_
            rintro e w' ⟨rfl, rfl⟩
            exact ⟨rfl, rfl, rfl, rfl, rfl, rfl⟩
          exact AllReady.nil
        exact AllReady.nil
      exact AllReady.nil
    exact AllReady.nil
  exact AllReady.nil

/-- What build makes: the term, if there is one. -/
theorem build_yes (op : Bs) (ts : List Tm) (T : Tm) (h : build op ts = some T) (w : World) (B : Nat) (v : Value) (hv : Tms w B v ts) :
    Calls Tryz.prog 147 #[str op, v] w fun e w' => e = .returned (val T) ∧ Still w w' := by
  obtain ⟨h1, h2, h3, h4⟩ := build_some h
  subst h2
  subst h3
  cases T with
  | atom a => cases h1
  | pair x y => exact build_pair x y w B v hv
  | hash x => exact build_hash x w B v hv
  | mac x y => exact build_mac x y w B v hv
  | shut x y => exact build_shut x y w B v hv
  | pub a => exact build_pub a w B v hv
  | dh a b => exact build_dh a b h4 w B v hv

theorem isAtom_cases (x : Tm) : x.isAtom = false ∨ ∃ a, x = .atom a := by
  cases x <;> first | exact .inl rfl | exact .inr ⟨_, rfl⟩

theorem build_no (op : Bs) (ts : List Tm) (h : build op ts = none) (w : World) (B : Nat) (v : Value) (hv : Tms w B v ts) :
    Calls Tryz.prog 147 #[str op, v] w fun e w' => e = fault 1 ∧ Still w w' := by
  by_cases h1 : op = oPair
  · subst h1
    refine build_len2 _ (.inl rfl) ts (fun e => ?_) w B v hv
    match ts, e with
    | [x, y], _ => simp [build] at h
  by_cases h2 : op = oHash
  · subst h2
    refine build_len1 _ (.inl rfl) ts (fun e => ?_) w B v hv
    match ts, e with
    | [x], _ => simp [build, oHash, oPair] at h
  by_cases h3 : op = oMac
  · subst h3
    refine build_len2 _ (.inr (.inl rfl)) ts (fun e => ?_) w B v hv
    match ts, e with
    | [x, y], _ => simp [build, oMac, oHash, oPair] at h
  by_cases h4 : op = oShut
  · subst h4
    refine build_len2 _ (.inr (.inr (.inl rfl))) ts (fun e => ?_) w B v hv
    match ts, e with
    | [x, y], _ => simp [build, oShut, oMac, oHash, oPair] at h
  by_cases h5 : op = oPub
  · subst h5
    by_cases hl : ts.length = 1
    · match ts, hl with
      | [x], _ =>
        rcases isAtom_cases x with hx | ⟨a, rfl⟩
        · exact build_pub_no x hx w B v hv
        · simp [build, oPub, oShut, oMac, oHash, oPair] at h
    · exact build_len1 _ (.inr rfl) ts hl w B v hv
  by_cases h6 : op = oDh
  · subst h6
    by_cases hl : ts.length = 2
    · match ts, hl with
      | [x, y], _ =>
        rcases isAtom_cases x with hx | ⟨a, rfl⟩
        · rcases isAtom_cases y with hy | ⟨b, rfl⟩
          · exact build_dh_nn x y hx hy w B v hv
          · exact build_dh_na x b hx w B v hv
        · rcases isAtom_cases y with hy | ⟨b, rfl⟩
          · exact build_dh_an a y hy w B v hv
          · refine build_dh_gt a b ?_ w B v hv
            cases hg : gt a b
            · simp [build, oDh, oPub, oShut, oMac, oHash, oPair, hg] at h
            · rfl
    · exact build_len2 _ (.inr (.inr (.inr rfl))) ts hl w B v hv
  · exact build_op op h1 h2 h3 h4 h5 h6 w v
end Go.Proofs.YtonjohlecomeoaaGreat.bld

/- append of one new element to a row of the call's own: of terms, of strings. -/
namespace Go.Proofs.YtonjohlecomeoaaGreat.app
open Go.RowKit Go.Proofs.YtonjohlecomeoaaGreat.tm Go.Proofs.YtonjohlecomeoaaGreat.lib Go.Proofs.YtonjohlecomeoaaGreat.rdr Go.Proofs.YtonjohlecomeoaaGreat.bld
set_option linter.unusedVariables false

theorem infoT : (Tryz.prog.info? 122).map (fun i => (i.zero, i.size, i.bytes)) = some (some .nilIface, 1, 16) := by kernel_rfl
theorem infoS : (Tryz.prog.info? 9).map (fun i => (i.zero, i.size, i.bytes)) = some (some (.string ⟨#[]⟩), 1, 16) := by kernel_rfl

/-- A slice of texts that the call itself made. -/
def Strs (w : World) (B : Nat) (v : Value) (ls : List Bs) : Prop := w.ownsRow B 9 1 v ls.length (ls.map str)

theorem val_one (T : Tm) : (val T).oneCell' = true := by cases T <;> rfl

section
variable {w : World} {ops : Array Oper} {rest : List Oper} {o : Oper} {a : Act} {Q : Exit → Act → World → Prop}

set_option maxRecDepth 100000 in
theorem wp_putT (s x : Operand) (T : Tm) (u : Value) (hu : u = val T) (B : Nat) (v : Value) (ts : List Tm) (hgd : o.guard = none)
    (ho : o.op = .call { callee := .builtin .append, args := #[s, x], argTypes := #[166, 166] })
    (hs : a.eval s = v) (hown : Tms w B v ts)
    (hx : a.eval x = .slice (some ⟨w.heap.size, 0, none⟩) 1 1)
    (hl : ts.length + 1 ≤ 1000000) (hB : B ≤ w.heap.size)
    (h : ∀ v' w', Tms w' B v' (ts ++ [T]) → Below B w w' → wpList Tryz.prog ops Q rest (a.put o.dst v') w') :
    wpList Tryz.prog ops Q (o :: rest) a (w.alloc (.cells #[u] 122)) := by
  subst hu
  obtain ⟨i0, hi, hz0, hz1, hz2⟩ := info_parts infoT
  refine wpList_append_own (w.alloc (.cells #[val T] 122)) hgd s x 166 ho B 122 i0 .nilIface 1 16 Tryz.underlying166 hi hz0 hz1 hz2 rfl (by decide) v ts.length _ hs (World.ownsRow.alloc hown _) ⟨w.heap.size, 0, none⟩ 1 1 [val T] hx (by simp) ?_ ?_ ?_ ?_ ?_ ?_
  · intro j u hj
    match j, hj with
    | 0, hj => simp at hj; subst hj; simp [Addr.add]
    | j + 1, hj => simp at hj
  · intro u hu
    simp at hu
    subst hu
    exact val_one T
  · unfold maxLen; omega
  · omega
  · simp; omega
  · intro v' w' h1 h2 _
    refine h v' w' ?_ (((Below.refl B w).alloc hB _).trans ((Below.refl B _).grown h2 (by simp; omega) fun k hk => (World.ownsRow.lt hown k hk).1))
    unfold Tms
    rw [List.map_append, List.length_append]
    exact h1

set_option maxRecDepth 100000 in
theorem wp_putS (s x : Operand) (l : Bs) (B : Nat) (v : Value) (ls : List Bs) (hgd : o.guard = none)
    (ho : o.op = .call { callee := .builtin .append, args := #[s, x], argTypes := #[22, 22] })
    (hs : a.eval s = v) (hown : Strs w B v ls)
    (hx : a.eval x = .slice (some ⟨w.heap.size, 0, none⟩) 1 1)
    (hl : ls.length + 1 ≤ 1000000) (hB : B ≤ w.heap.size)
    (h : ∀ v' w', Strs w' B v' (ls ++ [l]) → Below B w w' → wpList Tryz.prog ops Q rest (a.put o.dst v') w') :
    wpList Tryz.prog ops Q (o :: rest) a (w.alloc (.cells #[str l] 9)) := by
  obtain ⟨i0, hi, hz0, hz1, hz2⟩ := info_parts infoS
  refine wpList_append_own (w.alloc (.cells #[str l] 9)) hgd s x 22 ho B 9 i0 (.string ⟨#[]⟩) 1 16 Tryz.underlying22 hi hz0 hz1 hz2 rfl (by decide) v ls.length _ hs (World.ownsRow.alloc hown _) ⟨w.heap.size, 0, none⟩ 1 1 [str l] hx (by simp) ?_ ?_ ?_ ?_ ?_ ?_
  · intro j u hj
    match j, hj with
    | 0, hj => simp at hj; subst hj; simp [Addr.add]
    | j + 1, hj => simp at hj
  · intro u hu
    simp at hu
    subst hu
    rfl
  · unfold maxLen; omega
  · omega
  · simp; omega
  · intro v' w' h1 h2 _
    refine h v' w' ?_ (((Below.refl B w).alloc hB _).trans ((Below.refl B _).grown h2 (by simp; omega) fun k hk => (World.ownsRow.lt hown k hk).1))
    unfold Strs
    rw [List.map_append, List.length_append]
    exact h1
end

/-- What the call owns is kept where its block is kept. -/
theorem own_kept {w w' : World} {B : Nat} {e : TypeId} {v : Value} {n : Nat} {xs : List Value} (h : w.ownsRow B e 1 v n xs) (hk : ∀ g, B ≤ g → g < w.heap.size → w'.heap[g]? = w.heap[g]?) : w'.ownsRow B e 1 v n xs := by
  obtain ⟨hl, h⟩ := h
  refine ⟨hl, ?_⟩
  rcases h with h | ⟨g, cap, cur, hv, hg, hh, r⟩
  · exact .inl h
  · refine .inr ⟨g, cap, cur, hv, hg, ?_, r⟩
    have : g < w.heap.size := by
      rcases Nat.lt_or_ge g w.heap.size with h' | h'
      · exact h'
      · rw [Array.getElem?_eq_none h'] at hh; cases hh
    rw [hk g hg this]
    exact hh

theorem Tms.only {w w' : World} {B b : Nat} {v : Value} {ts : List Tm} (h : Tms w B v ts) (k : Only b w w') (hb : b < B) : Tms w' B v ts :=
  own_kept h fun g h1 h2 => k.block g h2 (by omega)
theorem Tms.below {w w' : World} {B : Nat} {v : Value} {ts : List Tm} (h : Tms w B v ts) (k : Below w.heap.size w w') : Tms w' B v ts :=
  own_kept h fun g _ h2 => k.block g h2
theorem Strs.below {w w' : World} {B : Nat} {v : Value} {ls : List Bs} (h : Strs w B v ls) (k : Below w.heap.size w w') : Strs w' B v ls :=
  own_kept h fun g _ h2 => k.block g h2
theorem Tms.nil (w : World) (B : Nat) : Tms w B (.slice none 0 0) [] := World.ownsRow_nil _ _ _ _
theorem Strs.nil (w : World) (B : Nat) : Strs w B (.slice none 0 0) [] := World.ownsRow_nil _ _ _ _
theorem Rdr.below {w w' : World} {b : Nat} {s : ByteArray} {p : Nat} (k : Rdr w b s p) (h : Below w.heap.size w w') : Rdr w' b s p := by
  unfold Rdr
  rw [h.block b (two k).2.2.2.2]
  exact k
theorem own_base {w : World} {B B' : Nat} {v : Value} {ls : List Bs} (h : Strs w B v ls) (hB : B' ≤ B) : Strs w B' v ls := by
  obtain ⟨hl, h⟩ := h
  refine ⟨hl, ?_⟩
  rcases h with h | ⟨g, cap, cur, hv, hg, r⟩
  · exact .inl h
  · exact .inr ⟨g, cap, cur, hv, Nat.le_trans hB hg, r⟩
theorem only_below {b : Nat} {w x y : World} (h : Only b w x) (k : Below w.heap.size x y) : Only b w y :=
  ⟨k.os.trans h.os, k.tape.trans h.tape, k.output.trans h.output, Nat.le_trans h.size k.size, fun i hi hb => (k.block i hi).trans (h.block i hi hb)⟩
theorem rdr_below {B : Nat} {x y : World} {b : Nat} {s : ByteArray} {p : Nat} (h : Rdr x b s p) (k : Below B x y) (hb : b < B) : Rdr y b s p := by
  unfold Rdr
  rw [k.block b hb]
  exact h
end Go.Proofs.YtonjohlecomeoaaGreat.app

/- Slices of texts, as they lie in memory: read (Rds), written (Wrs); what stands beside one that is written (Aside, Marked). -/
namespace Go.Proofs.YtonjohlecomeoaaGreat.mrk
open Go.RowKit Go.Proofs.YtonjohlecomeoaaGreat.tm Go.Proofs.YtonjohlecomeoaaGreat.lib Go.Proofs.YtonjohlecomeoaaGreat.rdr Go.Proofs.YtonjohlecomeoaaGreat.bld Go.Proofs.YtonjohlecomeoaaGreat.app
set_option linter.unusedVariables false

/-- A slice of texts, as it lies in memory: nothing said of whose it is. -/
def Rds (w : World) (v : Value) (ls : List Bs) : Prop :=
  (ls = [] ∧ ∃ ad cap, v = .slice ad 0 cap) ∨ ∃ g off cap, v = .slice (some ⟨g, off, none⟩) ls.length cap ∧ g < w.heap.size ∧ ∀ j l, ls[j]? = some l → w.cell? ⟨g, off + j, none⟩ = some (str l)

theorem Rds.still {w w' : World} {v : Value} {ls : List Bs} (h : Rds w v ls) (k : Still w w') : Rds w' v ls := by
  rcases h with h | ⟨g, off, cap, e, hg, hc⟩
  · exact .inl h
  · refine .inr ⟨g, off, cap, e, by rw [k.heap]; exact hg, fun j l hj => ?_⟩
    rw [← hc j l hj]
    exact World.cell?_of_block (by rw [k.heap])
theorem Rds.below {w w' : World} {v : Value} {ls : List Bs} (h : Rds w v ls) (k : Below w.heap.size w w') : Rds w' v ls := by
  rcases h with h | ⟨g, off, cap, e, hg, hc⟩
  · exact .inl h
  · refine .inr ⟨g, off, cap, e, Nat.lt_of_lt_of_le hg k.size, fun j l hj => ?_⟩
    rw [← hc j l hj]
    exact k.cell (p := ⟨g, off + j, none⟩) hg

end Go.Proofs.YtonjohlecomeoaaGreat.mrk
namespace Go.Proofs.YtonjohlecomeoaaGreat.mrs
open Go.RowKit Go.Proofs.YtonjohlecomeoaaGreat.tm Go.Proofs.YtonjohlecomeoaaGreat.lib Go.Proofs.YtonjohlecomeoaaGreat.rdr Go.Proofs.YtonjohlecomeoaaGreat.bld Go.Proofs.YtonjohlecomeoaaGreat.app Go.Proofs.YtonjohlecomeoaaGreat.mrk
set_option linter.unusedVariables false

/-- A slice of texts that may be written, from block B on. -/
def Wrs (w : World) (B : Nat) (v : Value) (ls : List Bs) : Prop :=
  (ls = [] ∧ ∃ ad cap, v = .slice ad 0 cap) ∨ ∃ g off cap, v = .slice (some ⟨g, off, none⟩) ls.length cap ∧ B ≤ g ∧ g < w.heap.size ∧ (∀ j l, ls[j]? = some l → w.cell? ⟨g, off + j, none⟩ = some (str l)) ∧ ∀ j, j < ls.length → w.frozen? ⟨g, off + j, none⟩ = false

theorem Wrs.rds {w : World} {B : Nat} {v : Value} {ls : List Bs} (h : Wrs w B v ls) : Rds w v ls := by
  rcases h with h | ⟨g, off, cap, e, _, hg, hc, _⟩
  · exact .inl h
  · exact .inr ⟨g, off, cap, e, hg, hc⟩

theorem Strs.wrs {w : World} {B : Nat} {v : Value} {ls : List Bs} (h : Strs w B v ls) : Wrs w B v ls := by
  have h' := h
  obtain ⟨hl, h⟩ := h
  rcases h with ⟨rfl, h⟩ | ⟨g, cap, cur, rfl, hg, hh, hc1, hc2, hc3, hc4⟩
  · exact .inl ⟨List.eq_nil_of_length_eq_zero h, _, _, rfl⟩
  · refine .inr ⟨g, 0, cap, rfl, hg, (World.ownsRow.lt h' g rfl).2, fun j T hj => ?_, fun j hj => ?_⟩
    · have := World.ownsRow.cells h' (g := g) rfl j (str T) (by rw [List.getElem?_map, hj]; rfl)
      rw [Addr.add_lit] at this
      exact this
    · simp [World.frozen?, hh]

/-- All blocks that were there are as they were, but for that of the slice v. -/
structure Aside (v : Value) (w w' : World) : Prop where
  os : w'.os = w.os
  tape : w'.tape = w.tape
  output : w'.output = w.output
  size : w.heap.size ≤ w'.heap.size
  block : ∀ k, k < w.heap.size → v.ownBlock ≠ some k → w'.heap[k]? = w.heap[k]?

theorem Aside.below {v : Value} {w w' : World} {B : Nat} (h : Aside v w w') (hB : B ≤ w.heap.size) (hv : ∀ k, v.ownBlock = some k → B ≤ k) : Below B w w' :=
  ⟨h.os, h.tape, h.output, h.size, fun k hk => h.block k (by omega) (fun e => by have := hv k e; omega)⟩
theorem Aside.refl (v : Value) (w : World) : Aside v w w := ⟨rfl, rfl, rfl, Nat.le_refl _, fun _ _ _ => rfl⟩
theorem Aside.of_only {g : Nat} {v : Value} {w w' : World} (h : Only g w w') (hv : v.ownBlock = some g) : Aside v w w' :=
  ⟨h.os, h.tape, h.output, h.size, fun k hk hne => h.block k hk (fun e => hne (by rw [hv, e]))⟩
theorem Aside.after {v : Value} {w w1 w2 : World} (h : Below w.heap.size w w1) (k : Aside v w1 w2) : Aside v w w2 :=
  ⟨k.os.trans h.os, k.tape.trans h.tape, k.output.trans h.output, Nat.le_trans h.size k.size, fun i hi hne => (k.block i (Nat.lt_of_lt_of_le hi h.size) hne).trans (h.block i hi)⟩

/-- What the marking leaves: of no texts nothing turned. -/
def Marked (v : Value) (ls : List Bs) (w w' : World) : Prop := (ls = [] ∧ Below w.heap.size w w') ∨ (ls ≠ [] ∧ Aside v w w')
theorem Marked.after {v : Value} {ls : List Bs} {w w1 w2 : World} (h : Below w.heap.size w w1) (k : Marked v ls w1 w2) : Marked v ls w w2 := by
  rcases k with ⟨e, k⟩ | ⟨e, k⟩
  · exact .inl ⟨e, h.trans (k.mono h.size)⟩
  · exact .inr ⟨e, Aside.after h k⟩
end Go.Proofs.YtonjohlecomeoaaGreat.mrs

/- For the frames of laws: the knob, the layout, a text's cells. -/
namespace Go.Proofs.YtonjohlecomeoaaGreat.frm
open Go.ChangeShapes Go.WideShapes Go.ChangeAt Go.RowKit
open Go.ChangeMaps (open_string shut_string)
open Go.Proofs.YtonjohlecomeoaaGreat.tm Go.Proofs.YtonjohlecomeoaaGreat.bld
set_option linter.unusedVariables false

theorem own : ownKnob Tryz.prog.godebug = none := by kernel_rfl
theorem laidOut : laidOutB Tryz.prog = true := by kernel_rfl
theorem cellsS : Tryz.prog.cellsOf 9 = 1 := by kernel_rfl
end Go.Proofs.YtonjohlecomeoaaGreat.frm

/- A slice of texts that came in, read: for the frames of laws. -/
namespace Go.Proofs.YtonjohlecomeoaaGreat.frm
open Go.ChangeShapes Go.WideShapes Go.ChangeAt Go.RowKit
open Go.ChangeMaps (open_string shut_string)
open Go.Proofs.YtonjohlecomeoaaGreat.tm Go.Proofs.YtonjohlecomeoaaGreat.bld Go.Proofs.YtonjohlecomeoaaGreat.mrk
set_option linter.unusedVariables false

theorem rds_len {w : World} {v : Value} {ls : List Bs} (h : Rds w v ls) : ∃ a c, v = .slice a ls.length c := by
  rcases h with ⟨rfl, a, c, e⟩ | ⟨g, off, cap, e, _⟩
  · exact ⟨a, c, e⟩
  · exact ⟨_, _, e⟩

theorem open_rds {H : Type} {enc : TypeId × Value → H} {W : World} {ad : Option Addr} {len cap : Nat} {d : DataW H} {p : List MemPlace} (h : DataW.Trod enc Tryz.prog W 0 (fun _ => true) true 22 (.slice ad len cap) d p) :
    ∃ ls : List Bs, len = ls.length ∧ Rds W (.slice ad len cap) ls ∧ len ≤ maxLen ∧ ∀ x ∈ ls, x.length ≤ maxLen := by
  obtain ⟨fuel, hf⟩ := h
  rcases open_strings Tryz.underlying22 Tryz.underlying9 cellsS hf with ⟨hcs, hx⟩ | ⟨a, len', cap', ss, hcs, _, hl, hm, hz, hx, hcell, hws⟩
  · simp [Value.cells] at hcs
    obtain ⟨rfl, rfl, rfl⟩ := hcs
    exact ⟨[], rfl, .inl ⟨rfl, _, _, rfl⟩, Nat.zero_le _, by simp⟩
  · simp [Value.cells] at hcs
    obtain ⟨rfl, rfl, rfl⟩ := hcs
    simp only [if_true] at hz
    have hr : Rds W (.slice (some a) len cap) ((ss.take len).map fun s => s.data.toList) := by
      by_cases hl0 : len = 0
      · subst hl0
        exact .inl ⟨by simp, _, _, rfl⟩
      · obtain ⟨b, off, spot⟩ := a
        have hspot : spot = none := by simpa [Addr.add] using World.cell?_spot (hcell 0 (by omega))
        subst hspot
        have c0 := hcell 0 (by omega)
        have hbW : b < W.heap.size := block_lt_of_cell (by simpa [Addr.add] using c0)
        have hlen : ((ss.take len).map fun s => s.data.toList).length = len := by simp; omega
        refine .inr ⟨b, off, cap, by rw [hlen], hbW, fun j l hj => ?_⟩
        have hj' : j < len := by
          rcases Nat.lt_or_ge j len with h | h
          · exact h
          · rw [List.getElem?_eq_none (by rw [hlen]; exact h)] at hj; cases hj
        have c1 := hcell j (by omega)
        rw [add_plain] at c1
        rw [c1]
        rw [List.getElem?_map, List.getElem?_take_of_lt hj'] at hj
        cases hs : ss[j]? with
        | none => rw [hs] at hj; cases hj
        | some s =>
          rw [hs] at hj
          simp only [Option.map_some, Option.some.injEq] at hj
          subst hj
          have : ss.getD j ByteArray.empty = s := by simp [List.getD, hs]
          rw [this]
    refine ⟨_, by simp; omega, hr, by omega, fun x hx => ?_⟩
    obtain ⟨s, hs, rfl⟩ := List.mem_map.1 hx
    exact hws s (List.mem_of_mem_take hs)
end Go.Proofs.YtonjohlecomeoaaGreat.frm

/- Letters as plain data (Lt), and as values. -/
namespace Go.Proofs.YtonjohlecomeoaaGreat.ltv
open Go.RowKit Go.Proofs.YtonjohlecomeoaaGreat.tm Go.Proofs.YtonjohlecomeoaaGreat.bld
set_option linter.unusedVariables false

/-- A letter: kind, from, to, count, parts, macs. -/
structure Lt where
  k : Int
  f : Int
  t : Int
  c : Int
  ps : List Bs
  a : Bs
  b : Bs

def letA (m : Lt) (v : Value) : Array Value := #[.int .i64 m.k, .int .i64 m.f, .int .i64 m.t, .int .i64 m.c, v, str m.a, str m.b]
end Go.Proofs.YtonjohlecomeoaaGreat.ltv
