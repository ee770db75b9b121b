/- partsLastFirst of the program: the parts of a letter, the last one first, as an iterator. -/
import Derived.RangeFuncBox
import Derived.RangeFuncLeaves
import Derived.RangeFuncWrites
import Derived.Shelf.Abstract
import Derived.WalkKit
import Derived.OwnWalkIn
import Derived.TacticsInMore
import Derived.LoopNIn
import Derived.LoopIn
import Derived.Maps.AppendAt
import Derived.Test.YtnlinlodgpbnlaaRds
namespace Go.Proofs.Ytnlinlodgpbnlaa.plf
open Go.RowKit Go.Shelf Go.Proofs.Ytnlinlodgpbnlaa.tm Go.Proofs.Ytnlinlodgpbnlaa.bld Go.Proofs.Ytnlinlodgpbnlaa.app Go.Proofs.Ytnlinlodgpbnlaa.mrk
set_option linter.unusedVariables false

section
attribute [local go_sem] Oper.semAt_some

/-- What a round keeps: whatever lay below n₀, and the letter's box. -/
def Keep (n₀ Bx : Nat) (A B : World) : Prop := Below n₀ A B ∧ (Bx < A.heap.size → B.heap[Bx]? = A.heap[Bx]?)
theorem Keep.t {n₀ Bx : Nat} {A B C : World} (h : Keep n₀ Bx A B) (k : Keep n₀ Bx B C) : Keep n₀ Bx A C := ⟨h.1.trans k.1, fun hb => (k.2 (Nat.lt_of_lt_of_le hb h.1.size)).trans (h.2 hb)⟩
theorem Keep.b {n₀ Bx : Nat} {w : World} (hn : n₀ ≤ w.heap.size) (hB : Bx < w.heap.size) (W : World) (l : Nat) (o o' : Obj) (hl : w.heap.size ≤ l) (h : W.heap[l]? = some o) (h1 : o.isCells = false) (h2 : o.isWalk = false) : Keep n₀ Bx W (W.putObj l o') :=
  ⟨belowK_b hn W l o o' hl h h1 h2, fun hb => (grownBy_putObj' W l o').block Bx hb (by intro e; cases e; omega)⟩
theorem Keep.refl (n₀ Bx : Nat) (W : World) : Keep n₀ Bx W W := ⟨Below.refl _ _, fun _ => rfl⟩

/-- Texts of which something is known. -/
abbrev Sx (M : Bs → Prop) := { x : Bs // M x }

def wireV (k f t c : Int) (v : Value) (a b : Bs) : Array Value := #[.int .i64 k, .int .i64 f, .int .i64 t, .int .i64 c, v, str a, str b]

theorem cell4 {W : World} {Bx : Nat} {k f t c : Int} {v : Value} {a b : Bs} {ty : TypeId} (h : W.heap[Bx]? = some (.cells (wireV k f t c v a b) ty (0, 0))) : W.cell? ⟨Bx, 4, none⟩ = some v := by
  rw [cell_of_row W Bx 4 _ ty (0, 0) h]; rfl

set_option maxRecDepth 100000 in
set_option maxHeartbeats 2000000 in
theorem plf1_in (F : Fence) (n : Nat) (h7 : F.fn 36) (hro : F.round = none) (hn : 1 ≤ n) (l Bx n₀ b off cap : Nat) (k f t c : Int) (ma mb : Bs) (M : Bs → Prop) (zs : List (Sx M)) (hreach : zs.length ≤ 2000000) (hb : b < n₀) (J Jx : List (Sx M) → World → Prop)
    (hY : ∀ pre x W, J pre W → pre.length < zs.length → YieldAt F (n - 1) Try.prog l #[str x.1] W fun e W' =>
      (e = .returned (.bool true) ∧ J (pre ++ [x]) W' ∧ Keep n₀ Bx W W') ∨ (e = .returned (.bool false) ∧ Jx (pre ++ [x]) W'))
    (W : World) (hBs : W.heap[Bx]? = some (.cells (wireV k f t c (.slice (some ⟨b, off, none⟩) zs.length cap) ma mb) 43 (0, 0))) (hc : ∀ j x, zs[j]? = some x → W.cell? ⟨b, off + j, none⟩ = some (str x.1)) (h0 : J [] W) :
    CallsIn F n Try.prog 36 #[.func (.yield l) #[] #[], .pointer (some ⟨Bx, 0, none⟩)] W fun e W' => (∃ v, e = .returned v) ∧
      ((∃ ys, ys = zs.reverse ∧ J ys W') ∨ (∃ pre, pre <+: zs.reverse ∧ Jx pre W')) := by
  have hBl : Bx < W.heap.size := (Array.getElem?_eq_some_iff.1 hBs).1
  have c4 := cell4 hBs
  obtain ⟨m, hm⟩ : ∃ m, m = zs.length := ⟨_, rfl⟩
  rw [← hm] at hreach c4 hBs
  have HB := Lib.hid hBs
  have HM := Lib.hid hm
  have HC := Lib.hid hc
  have HY := Lib.hid hY
  clear hBs hm hc hY
  refine callsIn_of_wp Try.func36 rfl h7 ?_ hro
  simp only [Try.ntmps36, List.size_toArray, List.length_cons, List.length_nil, Nat.reduceAdd, Nat.reduceSub, Array.replicate_succ, Array.replicate_zero, List.push_toArray, List.append_toArray, List.nil_append, List.cons_append]
  gi_wp2
  gi_loopw [3] (fun i wr => ∃ r : Nat, r ≤ m ∧ i = .int .i64 ((r : Int) - 1) ∧ J ((zs.drop r).reverse) wr ∧ Keep n₀ Bx W wr)
    (fun i _ => ((intOf i) + 1).toNat)
  case atStart => exact ⟨m, Nat.le_refl _, rfl, by rw [HM.out, List.drop_length]; exact h0, Keep.refl _ _ _⟩
  case round =>
    obtain ⟨r, hr, rfl, hJs, hk⟩ := hrel
    have HK := Lib.hid hk
    cases r with
    | zero =>
      clear hk
      have d0 : ((0 : Nat) : Int) - 1 = -1 := rfl
      rw [d0]
      gi_wp2
      go_end0
      exact ⟨⟨_, rfl⟩, .inl ⟨_, rfl, by simpa using hJs⟩⟩
    | succ r =>
      have e0 : ((r + 1 : Nat) : Int) - 1 = (r : Int) := by omega
      rw [e0]
      obtain ⟨x, hx⟩ : ∃ x, zs[r]? = some x := ⟨_, List.getElem?_eq_getElem (by have := HM.out; omega)⟩
      have hlen : ((zs.drop (r + 1)).reverse).length < zs.length := by have := HM.out; simp; omega
      have k4 : wr.cell? ⟨Bx, 4, none⟩ = some (.slice (some ⟨b, off, none⟩) m cap) := cell4 ((hk.2 hBl).trans HB.out)
      have kc : wr.cell? ⟨b, off + r, none⟩ = some (str x.1) := by rw [← HC.out r x hx]; exact hk.1.cell (p := ⟨b, off + r, none⟩) hb
      have hsn : (zs.drop (r + 1)).reverse ++ [x] = (zs.drop r).reverse := by
        have e1 := (List.getElem?_eq_some_iff.1 hx).2
        have e2 := List.drop_eq_getElem_cons (i := r) (l := zs) (by have := HM.out; omega)
        rw [e2, List.reverse_cons, e1]
      have HSN := Lib.hid hsn
      obtain ⟨fn, tmps, assign, body, hy, hR⟩ := HY.out _ x wr hJs hlen
      clear hk hx hlen hsn e0
      gi_wp2
      refine hR.mono ?_
      rintro e W3 (⟨rfl, hJ3, hk3⟩ | ⟨rfl, hJx3⟩)
      · gi_wp2
        go_roundw
        case rel => exact ⟨r, by omega, rfl, by rw [← HSN.out]; exact hJ3, HK.out.t hk3⟩
        case measure => simp [intOf]
      · gi_wp2
        refine bodyPost_ret (results_none rfl _ _ _) rfl ?_
        refine ⟨⟨_, rfl⟩, .inr ⟨_, ?_, hJx3⟩⟩
        rw [HSN.out]
        exact ⟨(zs.take r).reverse, by rw [← List.reverse_append, List.take_append_drop]⟩

theorem plf_stops (F : Fence) (n : Nat) (h7 : F.fn 36) (hro : F.round = none) (hn : 1 ≤ n) (Bx n₀ b off cap : Nat) (k f t c : Int) (ma mb : Bs) (M : Bs → Prop) (zs : List (Sx M)) (hreach : zs.length ≤ 2000000) (w : World) (hn₀ : n₀ ≤ w.heap.size) (hb : b < n₀)
    (hBs : w.heap[Bx]? = some (.cells (wireV k f t c (.slice (some ⟨b, off, none⟩) zs.length cap) ma mb) 43 (0, 0))) (hc : ∀ j x, zs[j]? = some x → w.cell? ⟨b, off + j, none⟩ = some (str x.1)) :
    SeqStopsK F n Try.prog 36 #[.pointer (some ⟨Bx, 0, none⟩)] (fun x : Sx M => #[str x.1]) (Keep n₀ Bx) (fun ys => ys = zs.reverse) (fun pre => pre <+: zs.reverse) zs.length w := fun l J Jx W hW _ _ hY h0 => by
  have hBl : Bx < w.heap.size := (Array.getElem?_eq_some_iff.1 hBs).1
  exact plf1_in F n h7 hro hn l Bx n₀ b off cap k f t c ma mb M zs hreach hb J Jx hY W ((hW.block Bx hBl).trans hBs) (fun j x hx => (hW.cell (p := ⟨b, off + j, none⟩) (Nat.lt_of_lt_of_le hb hn₀)).trans (hc j x hx)) h0
end

set_option maxRecDepth 100000 in
theorem plf_calls (vs : Array Value) (k f t c : Int) (v : Value) (ma mb : Bs) (w : World) (hv : vs = wireV k f t c v ma mb) :
    Calls Try.prog 27 #[.agg vs] w fun e w' => e = .returned (.func (.func 36) #[] #[.pointer (some ⟨w.heap.size, 0, none⟩)]) ∧ w' = w.alloc (.cells (wireV k f t c v ma mb) 43) := by
  have hmf : ∀ (fn : Fn) (first cap : Array Value) (w : World), (Instr.makeFunc fn first cap).run Try.prog w = .ok (.func fn first cap) w := fun _ _ _ _ => rfl
  subst hv
  unfold wireV
  go_enter Try.func27, Try.ntmps27
  go_wp2_with fail
  go_ret
  exact ⟨rfl, rfl⟩
end Go.Proofs.Ytnlinlodgpbnlaa.plf
