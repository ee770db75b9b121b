/- Several small texts, one behind the other. -/
import Derived.Test.YtnlinlodgpbnlaaGreatBldq
import Derived.Test.YtnlinlodgpbnlaaGreatQa
import Derived.OwnWalk
import Derived.ProofKit
import Derived.OpenShut
import Derived.ShutString
import Derived.SliceStrings
import Derived.ChangeOld
import Derived.Below

/- append of one new element to a row of the call's own: of terms, of strings. -/
namespace Go.Proofs.YtnlinlodgpbnlaaGreat.app
open Go.RowKit Go.Proofs.YtnlinlodgpbnlaaGreat.tm Go.Proofs.YtnlinlodgpbnlaaGreat.lib Go.Proofs.YtnlinlodgpbnlaaGreat.rdr Go.Proofs.YtnlinlodgpbnlaaGreat.bld
set_option linter.unusedVariables false

theorem infoT : (Tryz.prog.info? 78).map (fun i => (i.zero, i.size, i.bytes)) = some (some .nilIface, 1, 16) := by kernel_rfl
theorem infoS : (Tryz.prog.info? 9).map (fun i => (i.zero, i.size, i.bytes)) = some (some (.string ⟨#[]⟩), 1, 16) := by kernel_rfl

/-- A slice of texts that the call itself made. -/
def Strs (w : World) (B : Nat) (v : Value) (ls : List Bs) : Prop := w.ownsRow B 9 1 v ls.length (ls.map str)

theorem val_one (T : Tm) : (val T).oneCell' = true := by cases T <;> rfl

section
variable {w : World} {ops : Array Oper} {rest : List Oper} {o : Oper} {a : Act} {Q : Exit → Act → World → Prop}

set_option maxRecDepth 100000 in
theorem wp_putT (s x : Operand) (T : Tm) (u : Value) (hu : u = val T) (B : Nat) (v : Value) (ts : List Tm) (hgd : o.guard = none)
    (ho : o.op = .call { callee := .builtin .append, args := #[s, x], argTypes := #[81, 81] })
    (hs : a.eval s = v) (hown : Tms w B v ts)
    (hx : a.eval x = .slice (some ⟨w.heap.size, 0, none⟩) 1 1)
    (hl : ts.length + 1 ≤ 1000000) (hB : B ≤ w.heap.size)
    (h : ∀ v' w', Tms w' B v' (ts ++ [T]) → Below B w w' → wpList Tryz.prog ops Q rest (a.put o.dst v') w') :
    wpList Tryz.prog ops Q (o :: rest) a (w.alloc (.cells #[u] 78)) := by
  subst hu
  obtain ⟨i0, hi, hz0, hz1, hz2⟩ := info_parts infoT
  refine wpList_append_own (w.alloc (.cells #[val T] 78)) hgd s x 81 ho B 78 i0 .nilIface 1 16 Tryz.underlying81 hi hz0 hz1 hz2 rfl (by decide) v ts.length _ hs (World.ownsRow.alloc hown _) ⟨w.heap.size, 0, none⟩ 1 1 [val T] hx (by simp) ?_ ?_ ?_ ?_ ?_ ?_
  · intro j u hj
    match j, hj with
    | 0, hj => simp at hj; subst hj; simp [Addr.add]
    | j + 1, hj => simp at hj
  · intro u hu
    simp at hu
    subst hu
    exact val_one T
  · unfold maxLen; omega
  · omega
  · simp; omega
  · intro v' w' h1 h2 _
    refine h v' w' ?_ (((Below.refl B w).alloc hB _).trans ((Below.refl B _).grown h2 (by simp; omega) fun k hk => (World.ownsRow.lt hown k hk).1))
    unfold Tms
    rw [List.map_append, List.length_append]
    exact h1

set_option maxRecDepth 100000 in
theorem wp_putS (s x : Operand) (l : Bs) (B : Nat) (v : Value) (ls : List Bs) (hgd : o.guard = none)
    (ho : o.op = .call { callee := .builtin .append, args := #[s, x], argTypes := #[23, 23] })
    (hs : a.eval s = v) (hown : Strs w B v ls)
    (hx : a.eval x = .slice (some ⟨w.heap.size, 0, none⟩) 1 1)
    (hl : ls.length + 1 ≤ 1000000) (hB : B ≤ w.heap.size)
    (h : ∀ v' w', Strs w' B v' (ls ++ [l]) → Below B w w' → wpList Tryz.prog ops Q rest (a.put o.dst v') w') :
    wpList Tryz.prog ops Q (o :: rest) a (w.alloc (.cells #[str l] 9)) := by
  obtain ⟨i0, hi, hz0, hz1, hz2⟩ := info_parts infoS
  refine wpList_append_own (w.alloc (.cells #[str l] 9)) hgd s x 23 ho B 9 i0 (.string ⟨#[]⟩) 1 16 Tryz.underlying23 hi hz0 hz1 hz2 rfl (by decide) v ls.length _ hs (World.ownsRow.alloc hown _) ⟨w.heap.size, 0, none⟩ 1 1 [str l] hx (by simp) ?_ ?_ ?_ ?_ ?_ ?_
  · intro j u hj
    match j, hj with
    | 0, hj => simp at hj; subst hj; simp [Addr.add]
    | j + 1, hj => simp at hj
  · intro u hu
    simp at hu
    subst hu
    rfl
  · unfold maxLen; omega
  · omega
  · simp; omega
  · intro v' w' h1 h2 _
    refine h v' w' ?_ (((Below.refl B w).alloc hB _).trans ((Below.refl B _).grown h2 (by simp; omega) fun k hk => (World.ownsRow.lt hown k hk).1))
    unfold Strs
    rw [List.map_append, List.length_append]
    exact h1
end

/-- What the call owns is kept where its block is kept. -/
theorem own_kept {w w' : World} {B : Nat} {e : TypeId} {v : Value} {n : Nat} {xs : List Value} (h : w.ownsRow B e 1 v n xs) (hk : ∀ g, B ≤ g → g < w.heap.size → w'.heap[g]? = w.heap[g]?) : w'.ownsRow B e 1 v n xs := by
  obtain ⟨hl, h⟩ := h
  refine ⟨hl, ?_⟩
  rcases h with h | ⟨g, cap, cur, hv, hg, hh, r⟩
  · exact .inl h
  · refine .inr ⟨g, cap, cur, hv, hg, ?_, r⟩
    have : g < w.heap.size := by
      rcases Nat.lt_or_ge g w.heap.size with h' | h'
      · exact h'
      · rw [Array.getElem?_eq_none h'] at hh; cases hh
    rw [hk g hg this]
    exact hh

theorem Tms.only {w w' : World} {B b : Nat} {v : Value} {ts : List Tm} (h : Tms w B v ts) (k : Only b w w') (hb : b < B) : Tms w' B v ts :=
  own_kept h fun g h1 h2 => k.block g h2 (by omega)
theorem Tms.below {w w' : World} {B : Nat} {v : Value} {ts : List Tm} (h : Tms w B v ts) (k : Below w.heap.size w w') : Tms w' B v ts :=
  own_kept h fun g _ h2 => k.block g h2
theorem Strs.below {w w' : World} {B : Nat} {v : Value} {ls : List Bs} (h : Strs w B v ls) (k : Below w.heap.size w w') : Strs w' B v ls :=
  own_kept h fun g _ h2 => k.block g h2
theorem Tms.nil (w : World) (B : Nat) : Tms w B (.slice none 0 0) [] := World.ownsRow_nil _ _ _ _
theorem Strs.nil (w : World) (B : Nat) : Strs w B (.slice none 0 0) [] := World.ownsRow_nil _ _ _ _
theorem Rdr.below {w w' : World} {b : Nat} {s : ByteArray} {p : Nat} (k : Rdr w b s p) (h : Below w.heap.size w w') : Rdr w' b s p := by
  unfold Rdr
  rw [h.block b (two k).2.2.2.2]
  exact k
theorem own_base {w : World} {B B' : Nat} {v : Value} {ls : List Bs} (h : Strs w B v ls) (hB : B' ≤ B) : Strs w B' v ls := by
  obtain ⟨hl, h⟩ := h
  refine ⟨hl, ?_⟩
  rcases h with h | ⟨g, cap, cur, hv, hg, r⟩
  · exact .inl h
  · exact .inr ⟨g, cap, cur, hv, Nat.le_trans hB hg, r⟩
theorem only_below {b : Nat} {w x y : World} (h : Only b w x) (k : Below w.heap.size x y) : Only b w y :=
  ⟨k.os.trans h.os, k.tape.trans h.tape, k.output.trans h.output, Nat.le_trans h.size k.size, fun i hi hb => (k.block i hi).trans (h.block i hi hb)⟩
theorem rdr_below {B : Nat} {x y : World} {b : Nat} {s : ByteArray} {p : Nat} (h : Rdr x b s p) (k : Below B x y) (hb : b < B) : Rdr y b s p := by
  unfold Rdr
  rw [k.block b hb]
  exact h
end Go.Proofs.YtnlinlodgpbnlaaGreat.app

/- Slices of texts, as they lie in memory: read (Rds), written (Wrs); what stands beside one that is written (Aside, Marked). -/
namespace Go.Proofs.YtnlinlodgpbnlaaGreat.mrk
open Go.RowKit Go.Proofs.YtnlinlodgpbnlaaGreat.tm Go.Proofs.YtnlinlodgpbnlaaGreat.lib Go.Proofs.YtnlinlodgpbnlaaGreat.rdr Go.Proofs.YtnlinlodgpbnlaaGreat.bld Go.Proofs.YtnlinlodgpbnlaaGreat.app
set_option linter.unusedVariables false

/-- A slice of texts, as it lies in memory: nothing said of whose it is. -/
def Rds (w : World) (v : Value) (ls : List Bs) : Prop :=
  (ls = [] ∧ ∃ ad cap, v = .slice ad 0 cap) ∨ ∃ g off cap, v = .slice (some ⟨g, off, none⟩) ls.length cap ∧ g < w.heap.size ∧ ∀ j l, ls[j]? = some l → w.cell? ⟨g, off + j, none⟩ = some (str l)

theorem Rds.still {w w' : World} {v : Value} {ls : List Bs} (h : Rds w v ls) (k : Still w w') : Rds w' v ls := by
  rcases h with h | ⟨g, off, cap, e, hg, hc⟩
  · exact .inl h
  · refine .inr ⟨g, off, cap, e, by rw [k.heap]; exact hg, fun j l hj => ?_⟩
    rw [← hc j l hj]
    exact World.cell?_of_block (by rw [k.heap])
theorem Rds.below {w w' : World} {v : Value} {ls : List Bs} (h : Rds w v ls) (k : Below w.heap.size w w') : Rds w' v ls := by
  rcases h with h | ⟨g, off, cap, e, hg, hc⟩
  · exact .inl h
  · refine .inr ⟨g, off, cap, e, Nat.lt_of_lt_of_le hg k.size, fun j l hj => ?_⟩
    rw [← hc j l hj]
    exact k.cell (p := ⟨g, off + j, none⟩) hg

end Go.Proofs.YtnlinlodgpbnlaaGreat.mrk
namespace Go.Proofs.YtnlinlodgpbnlaaGreat.mrs
open Go.RowKit Go.Proofs.YtnlinlodgpbnlaaGreat.tm Go.Proofs.YtnlinlodgpbnlaaGreat.lib Go.Proofs.YtnlinlodgpbnlaaGreat.rdr Go.Proofs.YtnlinlodgpbnlaaGreat.bld Go.Proofs.YtnlinlodgpbnlaaGreat.app Go.Proofs.YtnlinlodgpbnlaaGreat.mrk
set_option linter.unusedVariables false

/-- A slice of texts that may be written, from block B on. -/
def Wrs (w : World) (B : Nat) (v : Value) (ls : List Bs) : Prop :=
  (ls = [] ∧ ∃ ad cap, v = .slice ad 0 cap) ∨ ∃ g off cap, v = .slice (some ⟨g, off, none⟩) ls.length cap ∧ B ≤ g ∧ g < w.heap.size ∧ (∀ j l, ls[j]? = some l → w.cell? ⟨g, off + j, none⟩ = some (str l)) ∧ ∀ j, j < ls.length → w.frozen? ⟨g, off + j, none⟩ = false

theorem Wrs.rds {w : World} {B : Nat} {v : Value} {ls : List Bs} (h : Wrs w B v ls) : Rds w v ls := by
  rcases h with h | ⟨g, off, cap, e, _, hg, hc, _⟩
  · exact .inl h
  · exact .inr ⟨g, off, cap, e, hg, hc⟩

theorem Strs.wrs {w : World} {B : Nat} {v : Value} {ls : List Bs} (h : Strs w B v ls) : Wrs w B v ls := by
  have h' := h
  obtain ⟨hl, h⟩ := h
  rcases h with ⟨rfl, h⟩ | ⟨g, cap, cur, rfl, hg, hh, hc1, hc2, hc3, hc4⟩
  · exact .inl ⟨List.eq_nil_of_length_eq_zero h, _, _, rfl⟩
  · refine .inr ⟨g, 0, cap, rfl, hg, (World.ownsRow.lt h' g rfl).2, fun j T hj => ?_, fun j hj => ?_⟩
    · have := World.ownsRow.cells h' (g := g) rfl j (str T) (by rw [List.getElem?_map, hj]; rfl)
      rw [Addr.add_lit] at this
      exact this
    · simp [World.frozen?, hh]

/-- All blocks that were there are as they were, but for that of the slice v. -/
structure Aside (v : Value) (w w' : World) : Prop where
  os : w'.os = w.os
  tape : w'.tape = w.tape
  output : w'.output = w.output
  size : w.heap.size ≤ w'.heap.size
  block : ∀ k, k < w.heap.size → v.ownBlock ≠ some k → w'.heap[k]? = w.heap[k]?

theorem Aside.below {v : Value} {w w' : World} {B : Nat} (h : Aside v w w') (hB : B ≤ w.heap.size) (hv : ∀ k, v.ownBlock = some k → B ≤ k) : Below B w w' :=
  ⟨h.os, h.tape, h.output, h.size, fun k hk => h.block k (by omega) (fun e => by have := hv k e; omega)⟩
theorem Aside.refl (v : Value) (w : World) : Aside v w w := ⟨rfl, rfl, rfl, Nat.le_refl _, fun _ _ _ => rfl⟩
theorem Aside.of_only {g : Nat} {v : Value} {w w' : World} (h : Only g w w') (hv : v.ownBlock = some g) : Aside v w w' :=
  ⟨h.os, h.tape, h.output, h.size, fun k hk hne => h.block k hk (fun e => hne (by rw [hv, e]))⟩
theorem Aside.after {v : Value} {w w1 w2 : World} (h : Below w.heap.size w w1) (k : Aside v w1 w2) : Aside v w w2 :=
  ⟨k.os.trans h.os, k.tape.trans h.tape, k.output.trans h.output, Nat.le_trans h.size k.size, fun i hi hne => (k.block i (Nat.lt_of_lt_of_le hi h.size) hne).trans (h.block i hi)⟩

/-- What the marking leaves: of no texts nothing turned. -/
def Marked (v : Value) (ls : List Bs) (w w' : World) : Prop := (ls = [] ∧ Below w.heap.size w w') ∨ (ls ≠ [] ∧ Aside v w w')
theorem Marked.after {v : Value} {ls : List Bs} {w w1 w2 : World} (h : Below w.heap.size w w1) (k : Marked v ls w1 w2) : Marked v ls w w2 := by
  rcases k with ⟨e, k⟩ | ⟨e, k⟩
  · exact .inl ⟨e, h.trans (k.mono h.size)⟩
  · exact .inr ⟨e, Aside.after h k⟩
end Go.Proofs.YtnlinlodgpbnlaaGreat.mrs

/- Contracts of the laws' helpers on []string: toStringS, szStringS. -/
namespace Go.Proofs.YtnlinlodgpbnlaaGreat.tsz
open Go.RowKit Go.Proofs.YtnlinlodgpbnlaaGreat.tm Go.Proofs.YtnlinlodgpbnlaaGreat.lib Go.Proofs.YtnlinlodgpbnlaaGreat.rdr Go.Proofs.YtnlinlodgpbnlaaGreat.bld Go.Proofs.YtnlinlodgpbnlaaGreat.app Go.Proofs.YtnlinlodgpbnlaaGreat.mrk
set_option linter.unusedVariables false

structure Cp (b n : Nat) (ls : List Bs) (w wr : World) (k : Nat) : Prop where
  bel : Below w.heap.size w wr
  lt : b < wr.heap.size
  told : ∀ j l, j < k → ls[j]? = some l → wr.cell? ⟨b, j, none⟩ = some (str l)
  cell : ∀ j, j < n → ∃ l, wr.cell? ⟨b, j, none⟩ = some (str l)
  free : ∀ j, j < n → wr.frozen? ⟨b, j, none⟩ = false

theorem Cp.put {b n : Nat} {ls : List Bs} {w wr : World} {k : Nat} {x : Bs} (h : Cp b n ls w wr k) (hk : k < n) (hb : w.heap.size ≤ b) (hx : ls[k]? = some x) : Cp b n ls w (wr.setCell ⟨b, k, none⟩ (str x)) (k + 1) := by
  obtain ⟨l0, ck⟩ := h.cell k hk
  refine ⟨h.bel.setCell hb _, by simpa [World.setCell] using h.lt, fun j l hj hl => ?_, fun j hj => ?_, fun j hj => ?_⟩
  · by_cases e : j = k
    · subst e
      rw [hx] at hl
      cases hl
      exact World.cell?_setCell_same wr _ _ (by rw [ck])
    · rw [World.cell?_setCell_other _ _ _ _ (by intro e'; first | (simp at e'; done) | (simp at e'; omega))]
      exact h.told j l (by omega) hl
  · by_cases e : j = k
    · subst e
      exact ⟨x, World.cell?_setCell_same wr _ _ (by rw [ck])⟩
    · obtain ⟨l, h1⟩ := h.cell j hj
      refine ⟨l, ?_⟩
      rw [World.cell?_setCell_other _ _ _ _ (by intro e'; first | (simp at e'; done) | (simp at e'; omega))]
      exact h1
  · rw [World.frozen?_setCell]
    exact h.free j hj

theorem made_row {w w1 : World} {n : Nat} (h : w1.ownsRow w.heap.size 9 1 (.slice (some ⟨w.heap.size, 0, none⟩) n n) n (madeCells (Value.string ⟨#[]⟩).cells (n * 1)).toList) (hg : w.grownBy w1 none) (ls : List Bs) :
    Cp w.heap.size n ls w w1 0 := by
  have e : (madeCells (Value.string ⟨#[]⟩).cells (n * 1)).toList = (List.replicate n ([] : Bs)).map str := by
    show (madeCells #[Value.string ⟨#[]⟩] (n * 1)).toList = _
    rw [Nat.mul_one, toList_madeCells_one]
    simp
  rw [e] at h
  have hlt := (World.ownsRow.lt h w.heap.size rfl).2
  refine ⟨(Below.refl _ _).grown hg (Nat.le_refl _) (fun k e => by cases e), hlt, fun j l hj => by omega, fun j hj => ⟨[], ?_⟩, fun j hj => ?_⟩
  · have := World.ownsRow.cells h (g := w.heap.size) rfl j (str []) (by rw [List.getElem?_map, List.getElem?_replicate, if_pos hj]; rfl)
    rw [Addr.add_lit, Nat.zero_add] at this
    exact this
  · obtain ⟨_, h2⟩ := h
    rcases h2 with ⟨h0, _⟩ | ⟨g, cap, cur, e', hg', hh, _⟩
    · cases h0
    · cases e'
      simp [World.frozen?, hh]

set_option maxHeartbeats 1000000 in
set_option maxRecDepth 100000 in
theorem toStringS_calls (ad : Option Addr) (n cap : Nat) (ls : List Bs) (w : World) (hn : n = ls.length) (h : Rds w (.slice ad n cap) ls) (hl : ls.length ≤ 2000000) :
    Calls Tryz.prog 107 #[.slice ad n cap] w fun e w' => ∃ v, e = .returned v ∧ Below w.heap.size w w' ∧ mrs.Wrs w' w.heap.size v ls := by
  obtain ⟨i0, hi, hz0, hz1, hz2⟩ := info_parts infoS
  have hn2 : n ≤ 2000000 := by omega
  have H := Lib.hid h
  have HN := Lib.hid hn
  clear h hn hl
  go_enter Tryz.func107, Tryz.ntmps107
  go_wp2_with (at_make; refine wpList_make_full _ rfl (.tmp 6) (.tmp 6) 23 rfl w.heap.size 9 i0 (.string ⟨#[]⟩) 1 Tryz.underlying23 hi hz0 hz1 .i64 .i64 _ _ n rfl rfl rfl rfl (by rw [hz2]; omega) (by unfold maxLen; omega) (Nat.le_refl _) ?_; intro w1 hr1 hg1)
  have C1 := Lib.hid (made_row hr1 hg1 ls)
  clear hr1 hg1 hi hz0 hz1 hz2
  go_loopw [4, 8, 9, 10, 11, 12, 13, 14, 15, 16, 17, 18, 19, 20] (fun vi _ _ _ _ _ _ _ _ _ _ _ _ _ wr => ∃ k : Nat, k ≤ n ∧ vi = .int .i64 k ∧ Cp w.heap.size n ls w wr k) (fun vi _ _ _ _ _ _ _ _ _ _ _ _ _ _ => n - (intOf vi).toNat)
  case atStart => exact ⟨0, Nat.zero_le _, rfl, C1.out⟩
  case round =>
    obtain ⟨k, hk, rfl, hm⟩ := hrel
    have HM := Lib.hid hm
    clear hm
    by_cases hlt : k < n
    · have hk' : k < ls.length := by have := HN.out; omega
      obtain ⟨x, hx⟩ : ∃ x, ls[k]? = some x := ⟨_, List.getElem?_eq_getElem hk'⟩
      rcases H.out with ⟨h0, _⟩ | ⟨g, off, cap', e, hg, hc⟩
      · rw [h0] at hx; simp at hx
      cases e
      have c1 : wr.cell? ⟨g, off + k, none⟩ = some (str x) := by rw [← hc k x hx]; exact HM.out.bel.cell (p := ⟨g, off + k, none⟩) hg
      obtain ⟨l0, c2⟩ := HM.out.cell k hlt
      have f2 := HM.out.free k hlt
      have HX := Lib.hid hx
      clear hx hc hg
      go_wp2_with fail
      go_roundw
      case rel => exact ⟨k + 1, by omega, by go_num, HM.out.put hlt (Nat.le_refl _) HX.out⟩
      case measure => simp [intOf]; omega
    · obtain rfl : k = n := by omega
      go_wp2_with fail
      go_ret
      have hN := HN.out
      have f1 : ∀ j l, ls[j]? = some l → wr.cell? ⟨w.heap.size, 0 + j, none⟩ = some (str l) := fun j l hj => by
        rw [Nat.zero_add]
        refine HM.out.told j l ?_ hj
        rcases Nat.lt_or_ge j ls.length with h | h
        · omega
        · rw [List.getElem?_eq_none h] at hj; cases hj
      have f2 : ∀ j, j < ls.length → wr.frozen? ⟨w.heap.size, 0 + j, none⟩ = false := fun j hj => by
        rw [Nat.zero_add]; exact HM.out.free j (by omega)
      have e : Value.slice (some ⟨w.heap.size, 0, none⟩) k k = .slice (some ⟨w.heap.size, 0, none⟩) ls.length k := by rw [← hN]
      exact ⟨_, rfl, HM.out.bel, .inr ⟨w.heap.size, 0, k, e, Nat.le_refl _, HM.out.lt, f1, f2⟩⟩

def SzEnd (ls : List Bs) (w : World) (e : Ending) (w' : World) : Prop :=
  w = w' ∧ (e = .returned (.int .i64 (-1)) ∨ ∃ L : Nat, L ≤ 1048576 ∧ e = .returned (.int .i64 L) ∧ ls.length ≤ 1048576 ∧ ∀ x ∈ ls, x.length ≤ 1048576)

set_option maxHeartbeats 1000000 in
set_option maxRecDepth 100000 in
theorem szStringS_calls (ad : Option Addr) (n cap : Nat) (ls : List Bs) (w : World) (hn : n = ls.length) (h : Rds w (.slice ad n cap) ls) (hm : n ≤ maxLen) (hw : ∀ x ∈ ls, x.length ≤ maxLen) :
    Calls Tryz.prog 102 #[.slice ad n cap, .int .i64 1048576] w (SzEnd ls w) := by
  unfold maxLen at hm hw
  by_cases hbig : 1048576 < n
  · have d1 : decide ((1048576 : Int) - (n : Int) < 0) = true := by simp; omega
    clear hn h hw
    go_enter Tryz.func102, Tryz.ntmps102
    go_wp2_with fail
    go_ret
    exact ⟨rfl, .inl rfl⟩
  · have d1 : decide ((1048576 : Int) - (n : Int) < 0) = false := by simp; omega
    have H := Lib.hid h
    have HN := Lib.hid hn
    have HW := Lib.hid hw
    clear hn h hw
    go_enter Tryz.func102, Tryz.ntmps102
    go_wp2_with fail
    go_loopw [1, 5, 12, 13, 14, 15, 16, 17, 18, 19, 20, 21, 22, 23, 24, 25, 26] (fun vL vi _ _ _ _ _ _ _ _ _ _ _ _ _ _ _ wr => ∃ k L : Nat, k ≤ n ∧ L ≤ 1048576 ∧ vi = .int .i64 k ∧ vL = .int .i64 L ∧ wr = w ∧ Hid (∀ j x, j < k → ls[j]? = some x → x.length ≤ 1048576)) (fun _ vi _ _ _ _ _ _ _ _ _ _ _ _ _ _ _ _ => n - (intOf vi).toNat)
    case atStart => exact ⟨0, 1048576 - n, Nat.zero_le _, by omega, rfl, by congr 1; omega, rfl, Lib.hid fun j x hj => by omega⟩
    case round =>
      obtain ⟨k, L, hk, hL, rfl, rfl, rfl, HA⟩ := hrel
      by_cases hlt : k < n
      · have hk' : k < ls.length := by have := HN.out; omega
        obtain ⟨x, hx⟩ : ∃ x, ls[k]? = some x := ⟨_, List.getElem?_eq_getElem hk'⟩
        rcases H.out with ⟨h0, _⟩ | ⟨g, off, cap', e, hg, hc⟩
        · rw [h0] at hx; simp at hx
        cases e
        have c1 := hc k x hx
        have hxl := HW.out x (List.mem_of_getElem? hx)
        have HX := Lib.hid hx
        clear hx hc hg
        by_cases hLx : x.length ≤ L
        · have d2 : decide ((L : Int) - (x.length : Int) < 0) = false := by simp; omega
          go_wp2_with fail
          go_roundw
          case rel =>
            refine ⟨k + 1, L - x.length, by omega, by omega, by go_num, by congr 1; omega, by first | trivial | rfl, Lib.hid fun j y hj hy => ?_⟩
            by_cases e : j = k
            · subst e; rw [HX.out] at hy; cases hy; omega
            · exact HA.out j y (by omega) hy
          case measure => simp [intOf]; omega
        · have d2 : decide ((L : Int) - (x.length : Int) < 0) = true := by simp; omega
          go_wp2_with fail
          go_ret
          exact ⟨rfl, .inl rfl⟩
      · obtain rfl : k = n := by omega
        go_wp2_with fail
        go_ret
        refine ⟨rfl, .inr ⟨L, hL, rfl, by have := HN.out; omega, fun x hx => ?_⟩⟩
        obtain ⟨j, hj⟩ := List.getElem?_of_mem hx
        refine HA.out j x ?_ hj
        rcases Nat.lt_or_ge j ls.length with h | h
        · have := HN.out; omega
        · rw [List.getElem?_eq_none h] at hj; cases hj
end Go.Proofs.YtnlinlodgpbnlaaGreat.tsz

/- A slice of texts that came in, read: for the frames of laws. -/
namespace Go.Proofs.YtnlinlodgpbnlaaGreat.frm
open Go.ChangeShapes Go.WideShapes Go.ChangeAt Go.RowKit
open Go.ChangeMaps (open_string shut_string)
open Go.Proofs.YtnlinlodgpbnlaaGreat.tm Go.Proofs.YtnlinlodgpbnlaaGreat.bld Go.Proofs.YtnlinlodgpbnlaaGreat.mrk
set_option linter.unusedVariables false

theorem own : ownKnob Tryz.prog.godebug = none := by kernel_rfl
theorem laidOut : laidOutB Tryz.prog = true := by kernel_rfl
theorem cellsS : Tryz.prog.cellsOf 9 = 1 := by kernel_rfl

theorem rds_len {w : World} {v : Value} {ls : List Bs} (h : Rds w v ls) : ∃ a c, v = .slice a ls.length c := by
  rcases h with ⟨rfl, a, c, e⟩ | ⟨g, off, cap, e, _⟩
  · exact ⟨a, c, e⟩
  · exact ⟨_, _, e⟩

theorem open_rds {H : Type} {enc : TypeId × Value → H} {W : World} {ad : Option Addr} {len cap : Nat} {d : DataW H} {p : List MemPlace} (h : DataW.Trod enc Tryz.prog W 0 (fun _ => true) true 23 (.slice ad len cap) d p) :
    ∃ ls : List Bs, len = ls.length ∧ Rds W (.slice ad len cap) ls ∧ len ≤ maxLen ∧ ∀ x ∈ ls, x.length ≤ maxLen := by
  obtain ⟨fuel, hf⟩ := h
  rcases open_strings Tryz.underlying23 Tryz.underlying9 cellsS hf with ⟨hcs, hx⟩ | ⟨a, len', cap', ss, hcs, _, hl, hm, hz, hx, hcell, hws⟩
  · simp [Value.cells] at hcs
    obtain ⟨rfl, rfl, rfl⟩ := hcs
    exact ⟨[], rfl, .inl ⟨rfl, _, _, rfl⟩, Nat.zero_le _, by simp⟩
  · simp [Value.cells] at hcs
    obtain ⟨rfl, rfl, rfl⟩ := hcs
    simp only [if_true] at hz
    have hr : Rds W (.slice (some a) len cap) ((ss.take len).map fun s => s.data.toList) := by
      by_cases hl0 : len = 0
      · subst hl0
        exact .inl ⟨by simp, _, _, rfl⟩
      · obtain ⟨b, off, spot⟩ := a
        have hspot : spot = none := by simpa [Addr.add] using World.cell?_spot (hcell 0 (by omega))
        subst hspot
        have c0 := hcell 0 (by omega)
        have hbW : b < W.heap.size := block_lt_of_cell (by simpa [Addr.add] using c0)
        have hlen : ((ss.take len).map fun s => s.data.toList).length = len := by simp; omega
        refine .inr ⟨b, off, cap, by rw [hlen], hbW, fun j l hj => ?_⟩
        have hj' : j < len := by
          rcases Nat.lt_or_ge j len with h | h
          · exact h
          · rw [List.getElem?_eq_none (by rw [hlen]; exact h)] at hj; cases hj
        have c1 := hcell j (by omega)
        rw [add_plain] at c1
        rw [c1]
        rw [List.getElem?_map, List.getElem?_take_of_lt hj'] at hj
        cases hs : ss[j]? with
        | none => rw [hs] at hj; cases hj
        | some s =>
          rw [hs] at hj
          simp only [Option.map_some, Option.some.injEq] at hj
          subst hj
          have : ss.getD j ByteArray.empty = s := by simp [List.getD, hs]
          rw [this]
    refine ⟨_, by simp; omega, hr, by omega, fun x hx => ?_⟩
    obtain ⟨s, hs, rfl⟩ := List.mem_map.1 hx
    exact hws s (List.mem_of_mem_take hs)
end Go.Proofs.YtnlinlodgpbnlaaGreat.frm

/- Letters as plain data (Lt), and as values. -/
namespace Go.Proofs.YtnlinlodgpbnlaaGreat.ltv
open Go.RowKit Go.Proofs.YtnlinlodgpbnlaaGreat.tm Go.Proofs.YtnlinlodgpbnlaaGreat.bld
set_option linter.unusedVariables false

/-- A letter: kind, from, to, count, parts, macs. -/
structure Lt where
  k : Int
  f : Int
  t : Int
  c : Int
  ps : List Bs
  a : Bs
  b : Bs

def letA (m : Lt) (v : Value) : Array Value := #[.int .i64 m.k, .int .i64 m.f, .int .i64 m.t, .int .i64 m.c, v, str m.a, str m.b]
end Go.Proofs.YtnlinlodgpbnlaaGreat.ltv
