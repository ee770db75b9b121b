/- Contracts of the reader of terms: next, skip, readWord; AtomRight; refuse. -/
import Derived.Test.YtonjohlecomeoaaTm
import Derived.Test.YtonjohlecomeoaaChecked
import Derived.Test.YtonjohlecomeoaaLib
import Derived.Test.YtonjohlecomeoaaRd0
import Derived.Below
import Derived.BigQuiet
import Derived.Deep.QuietTactic
import Derived.Outline
import Derived.WalkLawsBesides
namespace Go.Proofs.Ytonjohlecomeoaa.rdr
open Go.RowKit Go.Proofs.Ytonjohlecomeoaa.tm Go.Proofs.Ytonjohlecomeoaa.lib
set_option linter.unusedVariables false

/-- The reader's block: the text, and the place. -/
def Rdr (w : World) (b : Nat) (s : ByteArray) (p : Nat) : Prop := w.heap[b]? = some (.cells #[.string s, .int .i64 (p : Int)] 129 (0, 0))

theorem Still.rdr {w w' : World} {b : Nat} {s : ByteArray} {p : Nat} (h : Still w w') (k : Rdr w b s p) : Rdr w' b s p := by unfold Rdr; rw [h.heap]; exact k

theorem two {w : World} {b : Nat} {v0 v1 : Value} {t : TypeId} (h : w.heap[b]? = some (.cells #[v0, v1] t (0, 0))) :
    w.cell? ⟨b, 0, none⟩ = some v0 ∧ w.cell? ⟨b, 1, none⟩ = some v1 ∧ w.frozen? ⟨b, 0, none⟩ = false ∧ w.frozen? ⟨b, 1, none⟩ = false ∧ b < w.heap.size := by
  have hb : b < w.heap.size := by
    rcases Nat.lt_or_ge b w.heap.size with h' | h'
    · exact h'
    · rw [Array.getElem?_eq_none h'] at h; cases h
  refine ⟨?_, ?_, ?_, ?_, hb⟩
  · rw [cell_of_row w b 0 _ t (0, 0) h]; rfl
  · rw [cell_of_row w b 1 _ t (0, 0) h]; rfl
  · simp [World.frozen?, h]
  · simp [World.frozen?, h]

/-- The byte that stands at a place; 0 at the end. -/
def nx (l : Bs) : UInt8 := l.head?.getD 0

theorem nx_lt (s : ByteArray) (p : Nat) (h : p < s.size) : nx (s.data.toList.drop p) = s[p] := by
  have h' : p < s.data.toList.length := by simpa using h
  unfold nx
  rw [List.head?_drop, List.getElem?_eq_getElem h']
  rfl
theorem nx_end (s : ByteArray) (p : Nat) (h : s.size ≤ p) : nx (s.data.toList.drop p) = 0 := by
  unfold nx
  rw [List.drop_of_length_le (by simpa using h)]
  rfl

abbrev fault (c : Int) : Ending := .panicked [{ v := .iface 117 (.agg #[.int .i64 c]), recovered := false }]

theorem ret_u8 {a b : UInt8} (h : a = b) : Ending.returned (.int .u8 (a.toNat : Int)) = .returned (.int .u8 (b.toNat : Int)) := by rw [h]

set_option maxRecDepth 100000 in
theorem next_calls (w : World) (b : Nat) (s : ByteArray) (p : Nat) (h : Rdr w b s p) (hp : p ≤ s.size) (hs : s.size ≤ 4000000000) :
    Calls Try.prog 99 #[.pointer (some ⟨b, 0, none⟩)] w fun e w' => e = .returned (.int .u8 ((nx (s.data.toList.drop p)).toNat : Int)) ∧ Still w w' := by
  obtain ⟨c0, c1, f0, f1, hb⟩ := two h
  clear h
  by_cases hlt : p < s.size
  · have HX := Lib.hid (nx_lt s p hlt)
    have d0 : decide ((s.size : Int) ≤ p) = false := by simp; omega
    go_enter Try.func99, Try.ntmps99
    go_wp2
    go_quiet (fail)
    go_wp2
    go_quiet (fail)
    go_wp2
    go_ret
    exact ⟨ret_u8 HX.out.symm, rfl, rfl, rfl, rfl⟩
  · have HX := Lib.hid (nx_end s p (by omega))
    have d0 : decide ((s.size : Int) ≤ p) = true := by simp; omega
    go_enter Try.func99, Try.ntmps99
    go_wp2
    go_quiet (fail)
    go_wp2
    go_ret
    exact ⟨ret_u8 (a := 0) HX.out.symm, rfl, rfl, rfl, rfl⟩

theorem refuse_calls (c : Int) (w : World) : Calls Try.prog 74 #[.int .i64 c] w fun e w' => e = fault c ∧ w = w' := by
  go_enter Try.func74, Try.ntmps74
  go_wp2
  exact ⟨rfl, rfl, rfl⟩

/-- What is known of the world behind a step of the reader. -/
theorem Rdr.only {w w' : World} {b : Nat} {s : ByteArray} {p : Nat} (k : Rdr w b s p) {b' : Nat} (h : Only b' w w') (hne : b ≠ b') : Rdr w' b s p := by
  unfold Rdr
  rw [h.block b (two k).2.2.2.2 hne]
  exact k

theorem Rdr.set {w : World} {b : Nat} {s : ByteArray} {p : Nat} (k : Rdr w b s p) (q : Nat) : Rdr (w.setCell ⟨b, 1, none⟩ (.int .i64 (q : Int))) b s q := by
  unfold Rdr at k ⊢
  simp only [World.setCell, Array.getElem?_modify, if_true, k]
  rfl

set_option maxRecDepth 100000 in
theorem skip_yes (w : World) (b : Nat) (s : ByteArray) (p : Nat) (c : UInt8) (h : Rdr w b s p) (hp : p < s.size) (hs : s.size ≤ 4000000000) (hc : nx (s.data.toList.drop p) = c) :
    Calls Try.prog 110 #[.pointer (some ⟨b, 0, none⟩), .int .u8 (c.toNat : Int)] w fun e w' => e = .returned (.tuple #[]) ∧ Only b w w' ∧ Rdr w' b s (p + 1) := by
  go_enter Try.func110, Try.ntmps110
  have H := Lib.hid h
  have HC := Lib.hid hc
  clear h hc
  go_wp2_with fail
  refine (next_calls _ _ _ _ H.out (by omega) hs).mono ?_
  rintro e w1 ⟨rfl, h1⟩
  have hr := h1.rdr H.out
  obtain ⟨c0, c1, f0, f1, hb⟩ := two hr
  rw [HC.out]
  have HR := Lib.hid hr
  have H1 := Lib.hid h1
  clear hr h1
  go_wp2_with fail
  go_end0
  exact ⟨rfl, (H1.out.only b).trans (Only.setCell _ _), HR.out.set (p + 1)⟩

set_option maxRecDepth 100000 in
theorem skip_no (w : World) (b : Nat) (s : ByteArray) (p : Nat) (c : UInt8) (h : Rdr w b s p) (hp : p ≤ s.size) (hs : s.size ≤ 4000000000) (hc : nx (s.data.toList.drop p) ≠ c) :
    Calls Try.prog 110 #[.pointer (some ⟨b, 0, none⟩), .int .u8 (c.toNat : Int)] w fun e w' => e = fault 1 ∧ Only b w w' := by
  have d0 : (((nx (s.data.toList.drop p)).toNat : Int) != (c.toNat : Int)) = true := by simp; intro e; exact hc (UInt8.toNat_inj.1 (by omega))
  go_enter Try.func110, Try.ntmps110
  have H := Lib.hid h
  clear h hc
  go_wp2_with fail
  refine (next_calls _ _ _ _ H.out (by omega) hs).mono ?_
  rintro e w1 ⟨rfl, h1⟩
  have H1 := Lib.hid h1
  clear h1
  go_wp2_with fail
  refine (refuse_calls _ _).mono ?_
  rintro e w2 ⟨rfl, rfl⟩
  exact ⟨rfl, rfl, H1.out.only b⟩

/-! ### readWord -/

def atOf (w : World) (b : Nat) : Nat := match w.cell? ⟨b, 1, none⟩ with | some (.int _ q) => q.toNat | _ => 0
theorem atOf_rdr {w : World} {b : Nat} {s : ByteArray} {p : Nat} (h : Rdr w b s p) : atOf w b = p := by
  unfold atOf
  rw [(two h).2.1]
  simp

theorem drop_lt (s : ByteArray) (p : Nat) (h : p < s.size) : s.data.toList.drop p = s[p] :: s.data.toList.drop (p + 1) := by
  rw [List.drop_eq_getElem_cons (by simpa using h)]; rfl

theorem size_lt {l : Bs} {s : ByteArray} {p : Nat} (h : s.data.toList.drop p = l) (hp : p ≤ s.size) : l.length = s.size - p := by
  rw [← h, List.length_drop]; rfl

theorem nx_isAt {s : ByteArray} {p : Nat} (h : isAt (nx (s.data.toList.drop p)) = true) : p < s.size := by
  rcases Nat.lt_or_ge p s.size with h' | h'
  · exact h'
  · rw [nx_end s p h'] at h; exact absurd h (by decide)

/-- One byte more of a word. -/
theorem word_step {s : ByteArray} {p : Nat} (h : isAt (nx (s.data.toList.drop p)) = true) : word (s.data.toList.drop p) = s[p]'(nx_isAt h) :: word (s.data.toList.drop (p + 1)) := by
  have hp := nx_isAt h
  rw [nx_lt s p hp] at h
  rw [drop_lt s p hp]
  unfold word
  rw [List.takeWhile_cons, if_pos h]

theorem word_end {s : ByteArray} {p : Nat} (h : isAt (nx (s.data.toList.drop p)) = false) : word (s.data.toList.drop p) = [] := by
  rcases Nat.lt_or_ge p s.size with h' | h'
  · rw [nx_lt s p h'] at h
    rw [drop_lt s p h']
    unfold word
    rw [List.takeWhile_cons, if_neg (by simp [h])]
  · rw [List.drop_of_length_le (by simpa using h')]; rfl

theorem word_le (l : Bs) : (word l).length ≤ l.length := List.Sublist.length_le (List.takeWhile_sublist _)

/-- The word, as it lies in the text. -/
theorem word_cut (s : ByteArray) (p : Nat) (hp : p ≤ s.size) : s.extract p (p + (word (s.data.toList.drop p)).length) = ⟨(word (s.data.toList.drop p)).toArray⟩ := by
  have h : (s.data.toList.drop p).take (word (s.data.toList.drop p)).length = word (s.data.toList.drop p) := by
    unfold word
    exact List.prefix_iff_eq_take.1 (List.takeWhile_prefix _) |>.symm
  apply ByteArray.ext
  apply Array.ext'
  rw [ByteArray.data_extract]
  simp only [Array.toList_extract]
  show List.extract s.data.toList p _ = _
  rw [List.extract_eq_take_drop]
  simpa using h

theorem past_drop (s : ByteArray) (p : Nat) : past (s.data.toList.drop p) = s.data.toList.drop (p + (word (s.data.toList.drop p)).length) := by
  have h := word_past (s.data.toList.drop p)
  have : (word (s.data.toList.drop p) ++ past (s.data.toList.drop p)).drop (word (s.data.toList.drop p)).length = past (s.data.toList.drop p) := List.drop_left' rfl
  rw [h, List.drop_drop] at this
  exact this.symm

set_option maxRecDepth 100000 in
theorem readWord_calls (w : World) (b : Nat) (s : ByteArray) (p : Nat) (h : Rdr w b s p) (hp : p ≤ s.size) (hs : s.size ≤ 4000000000) :
    Calls Try.prog 111 #[.pointer (some ⟨b, 0, none⟩)] w fun e w' =>
      e = .returned (.string ⟨(word (s.data.toList.drop p)).toArray⟩) ∧ Only b w w' ∧ Rdr w' b s (p + (word (s.data.toList.drop p)).length) := by
  obtain ⟨c0, c1, f0, f1, hb⟩ := two h
  have H := Lib.hid h
  clear h
  go_enter Try.func111, Try.ntmps111
  go_wp2
  clear c0 c1 f0 f1
  go_loopw [8, 9, 10, 11, 12, 13, 14, 15, 16, 17] (fun _ _ _ _ _ _ _ _ _ _ wr => ∃ k : Nat, p + k ≤ s.size ∧ Only b w wr ∧ Rdr wr b s (p + k) ∧ k + (word (s.data.toList.drop (p + k))).length = (word (s.data.toList.drop p)).length) (fun _ _ _ _ _ _ _ _ _ _ wr => s.size - atOf wr b)
  case atStart => exact ⟨0, by omega, Only.refl _ _, H.out, by simp⟩
  case round =>
    obtain ⟨k, hk, ho, hr, hl⟩ := hrel
    have HO := Lib.hid ho
    have HR := Lib.hid hr
    have HL := Lib.hid hl
    clear ho hr hl
    have hat := atOf_rdr HR.out
    have HAT := Lib.hid hat
    clear hat
    cases hx : isAt (nx (s.data.toList.drop (p + k)))
    · have HX := Lib.hid hx
      have a1 := isAtomByte_calls (nx (s.data.toList.drop (p + k)))
      rw [hx] at a1
      clear hx
      go_wp2_with (first | (go_at_call 99; refine (next_calls _ _ _ _ HR.out hk hs).mono ?_; rintro e w1 ⟨rfl, h1⟩) | (go_at_call 46; refine (a1 _).mono ?_; rintro e w2 ⟨rfl, rfl⟩))
      have hr1 := h1.rdr HR.out
      have HO1 := Lib.hid (HO.out.trans (h1.only b))
      obtain ⟨c0, c1, f0, f1, hb1⟩ := two hr1
      have HR1 := Lib.hid hr1
      clear h1 hr1
      have hcut := word_cut s p hp
      have hkk : k = (word (s.data.toList.drop p)).length := by have := HL.out; rw [word_end HX.out] at this; simpa using this
      rw [← hkk] at hcut
      have HC := Lib.hid hcut
      have HK := Lib.hid hkk
      have hcut2 := fun w => run_cut s p k (by omega) w
      rw [HC.out] at hcut2
      clear hcut hkk
      have e1 : (((p + k : Nat) : Int)) = (p : Int) + (k : Int) := by omega
      rw [e1] at c1
      clear e1
      go_wp2
      go_quiet (fail)
      go_wp2
      go_ret
      exact ⟨rfl, HO1.out.trans ((Still.drewN _ _).only b), by rw [← HK.out]; exact HR1.out⟩
    · have HX := Lib.hid hx
      have a1 := isAtomByte_calls (nx (s.data.toList.drop (p + k)))
      rw [hx] at a1
      clear hx
      have hlt := nx_isAt HX.out
      go_wp2_with fail
      refine (next_calls _ _ _ _ HR.out hk hs).mono ?_
      rintro e w1 ⟨rfl, h1⟩
      have hr1 := h1.rdr HR.out
      have HO1 := Lib.hid (HO.out.trans (h1.only b))
      obtain ⟨c0, c1, f0, f1, hb1⟩ := two hr1
      have HR1 := Lib.hid hr1
      clear h1 hr1
      have e1 : (((p + k : Nat) : Int)) = (p : Int) + (k : Int) := by omega
      rw [e1] at c1
      clear e1
      go_wp2_with (go_at_call 46; refine (a1 _).mono ?_; rintro e w2 ⟨rfl, rfl⟩)
      go_roundw
      case rel =>
        refine ⟨k + 1, by omega, HO1.out.trans (Only.setCell _ _), ?_, ?_⟩
        · have := HR1.out.set (p + (k + 1))
          simpa [Int.add_assoc] using this
        · have := HL.out
          rw [word_step HX.out] at this
          simp only [List.length_cons] at this
          rw [show p + (k + 1) = p + k + 1 from rfl]
          omega
      case measure =>
        have e2 := atOf_rdr (HR1.out.set (p + (k + 1)))
        rw [show (((p + (k + 1) : Nat)) : Int) = (p : Int) + (k : Int) + 1 by omega] at e2
        rw [HAT.out, e2]
        omega
end Go.Proofs.Ytonjohlecomeoaa.rdr
