/- Several small texts, one behind the other. -/
import Derived.Test.YtonjohlecomeoaaGreatQc
import Derived.Test.YtonjohlecomeoaaGreatQa
import Derived.Laws.Concat
import Derived.IntWalk
import Derived.StillTailTactics
import Derived.Lib.QuietBelow
import Derived.Test.YtonjohlecomeoaaGreatQd
import Derived.RangeFuncBox
import Derived.RangeFuncLeaves
import Derived.RangeFuncWrites
import Derived.Shelf.Abstract
import Derived.WalkKit
import Derived.OwnWalkIn
import Derived.TacticsInMore
import Derived.LoopNIn
import Derived.LoopIn
import Derived.Maps.AppendAt
import Derived.RangeFuncCalls
import Derived.Test.YtonjohlecomeoaaGreatQf
import Derived.Laws.EntriesVeiled

/- Contract of l02Is of the model; a text that is empty, or is not. -/
namespace Go.Proofs.YtonjohlecomeoaaGreat.lsm
open Go.RowKit Go.Sort Go.Proofs.YtonjohlecomeoaaGreat.tm Go.Proofs.YtonjohlecomeoaaGreat.lib Go.Proofs.YtonjohlecomeoaaGreat.rdr Go.Proofs.YtonjohlecomeoaaGreat.bld
set_option linter.unusedVariables false

theorem l02Is_calls (n lo hi : Int) (w : World) : Calls Tryz.prog 93 #[.int .i64 n, .int .i64 lo, .int .i64 hi] w fun e w' => e = .returned (.bool (decide (lo ≤ n) && decide (n ≤ hi))) ∧ w = w' := by
  go_enter Tryz.func93, Tryz.ntmps93
  go_wp2
  all_goals go_ret
  all_goals exact ⟨by congr 2; simp [*] <;> omega, rfl⟩

theorem e_yes {a : Bs} (h : a = []) : (a == []) = true ∧ a.isEmpty = true ∧ (a != []) = false := by subst h; exact ⟨rfl, rfl, rfl⟩
theorem e_no {a : Bs} (h : a ≠ []) : (a == []) = false ∧ a.isEmpty = false ∧ (a != []) = true := by cases a with | nil => exact absurd rfl h | cons x l => exact ⟨rfl, rfl, rfl⟩
end Go.Proofs.YtonjohlecomeoaaGreat.lsm

/- What BodyOf answers. -/
namespace Go.Proofs.YtonjohlecomeoaaGreat.bdr
open Go Go.Proofs.YtonjohlecomeoaaGreat.tm Go.Proofs.YtonjohlecomeoaaGreat.ltv Go.Proofs.YtonjohlecomeoaaGreat.ltp
def bodyR (m : Lt) : Bs := if right m then body m.ps else []
end Go.Proofs.YtonjohlecomeoaaGreat.bdr

/- append of texts to a row of the call's own. -/
namespace Go.Proofs.YtonjohlecomeoaaGreat.spt
open Go.RowKit Go.Proofs.YtonjohlecomeoaaGreat.tm Go.Proofs.YtonjohlecomeoaaGreat.lib Go.Proofs.YtonjohlecomeoaaGreat.rdr Go.Proofs.YtonjohlecomeoaaGreat.bld Go.Proofs.YtonjohlecomeoaaGreat.app Go.Proofs.YtonjohlecomeoaaGreat.ato
set_option linter.unusedVariables false

section
variable {w : World} {ops : Array Oper} {rest : List Oper} {o : Oper} {a : Act} {Q : Exit → Act → World → Prop}

set_option maxRecDepth 100000 in
/-- append of texts that lie somewhere to a row of the call's own. -/
theorem wp_putN (s x : Operand) (ad : Addr) (m c : Nat) (new : List Bs) (B : Nat) (v : Value) (ls : List Bs) (hgd : o.guard = none)
    (ho : o.op = .call { callee := .builtin .append, args := #[s, x], argTypes := #[22, 22] })
    (hs : a.eval s = v) (hown : Strs w B v ls)
    (hx : a.eval x = .slice (some ad) m c) (hm : new.length = m) (hnews : ∀ j l, new[j]? = some l → w.cell? (ad.add j) = some (str l))
    (hl : ls.length + m ≤ 1000000) (hB : B ≤ w.heap.size)
    (h : ∀ v' w', Strs w' B v' (ls ++ new) → Below B w w' → wpList Tryz.prog ops Q rest (a.put o.dst v') w') :
    wpList Tryz.prog ops Q (o :: rest) a w := by
  obtain ⟨i0, hi, hz0, hz1, hz2⟩ := info_parts infoS
  refine wpList_append_own w hgd s x 22 ho B 9 i0 (.string ⟨#[]⟩) 1 16 Tryz.underlying22 hi hz0 hz1 hz2 rfl (by decide) v ls.length _ hs hown ad m c (new.map str) hx (by simpa using hm) ?_ ?_ ?_ ?_ hB ?_
  · intro j u hj
    rw [List.getElem?_map] at hj
    cases hq : new[j]? with
    | none => rw [hq] at hj; cases hj
    | some l => rw [hq] at hj; cases hj; exact hnews j l hq
  · intro u hu
    obtain ⟨l, _, rfl⟩ := List.mem_map.1 hu
    rfl
  · unfold maxLen; omega
  · omega
  · intro v' w' h1 h2 _
    refine h v' w' ?_ ((Below.refl B _).grown h2 hB fun k hk => (World.ownsRow.lt hown k hk).1)
    unfold Strs
    rw [List.map_append, List.length_append, hm]
    exact h1
end
end Go.Proofs.YtonjohlecomeoaaGreat.spt

/- partsLastFirst of the program: the parts of a letter, the last one first, as an iterator. -/
namespace Go.Proofs.YtonjohlecomeoaaGreat.plf
open Go.RowKit Go.Shelf Go.Proofs.YtonjohlecomeoaaGreat.tm Go.Proofs.YtonjohlecomeoaaGreat.bld Go.Proofs.YtonjohlecomeoaaGreat.app Go.Proofs.YtonjohlecomeoaaGreat.mrk
set_option linter.unusedVariables false

section
attribute [local go_sem] Oper.semAt_some

/-- What a round keeps: whatever lay below n₀, and the letter's box. -/
def Keep (n₀ Bx : Nat) (A B : World) : Prop := Below n₀ A B ∧ (Bx < A.heap.size → B.heap[Bx]? = A.heap[Bx]?)
theorem Keep.t {n₀ Bx : Nat} {A B C : World} (h : Keep n₀ Bx A B) (k : Keep n₀ Bx B C) : Keep n₀ Bx A C := ⟨h.1.trans k.1, fun hb => (k.2 (Nat.lt_of_lt_of_le hb h.1.size)).trans (h.2 hb)⟩
theorem Keep.b {n₀ Bx : Nat} {w : World} (hn : n₀ ≤ w.heap.size) (hB : Bx < w.heap.size) (W : World) (l : Nat) (o o' : Obj) (hl : w.heap.size ≤ l) (h : W.heap[l]? = some o) (h1 : o.isCells = false) (h2 : o.isWalk = false) : Keep n₀ Bx W (W.putObj l o') :=
  ⟨belowK_b hn W l o o' hl h h1 h2, fun hb => (grownBy_putObj' W l o').block Bx hb (by intro e; cases e; omega)⟩
theorem Keep.refl (n₀ Bx : Nat) (W : World) : Keep n₀ Bx W W := ⟨Below.refl _ _, fun _ => rfl⟩

/-- Texts of which something is known. -/
abbrev Sx (M : Bs → Prop) := { x : Bs // M x }

def wireV (k f t c : Int) (v : Value) (a b : Bs) : Array Value := #[.int .i64 k, .int .i64 f, .int .i64 t, .int .i64 c, v, str a, str b]

theorem cell4 {W : World} {Bx : Nat} {k f t c : Int} {v : Value} {a b : Bs} {ty : TypeId} (h : W.heap[Bx]? = some (.cells (wireV k f t c v a b) ty (0, 0))) : W.cell? ⟨Bx, 4, none⟩ = some v := by
  rw [cell_of_row W Bx 4 _ ty (0, 0) h]; rfl

set_option maxRecDepth 100000 in
set_option maxHeartbeats 2000000 in
theorem plf1_in (F : Fence) (n : Nat) (h7 : F.fn 174) (hro : F.round = none) (hn : 1 ≤ n) (l Bx n₀ b off cap : Nat) (k f t c : Int) (ma mb : Bs) (M : Bs → Prop) (zs : List (Sx M)) (hreach : zs.length ≤ 2000000) (hb : b < n₀) (J Jx : List (Sx M) → World → Prop)
    (hY : ∀ pre x W, J pre W → pre.length < zs.length → YieldAt F (n - 1) Tryz.prog l #[str x.1] W fun e W' =>
      (e = .returned (.bool true) ∧ J (pre ++ [x]) W' ∧ Keep n₀ Bx W W') ∨ (e = .returned (.bool false) ∧ Jx (pre ++ [x]) W'))
    (W : World) (hBs : W.heap[Bx]? = some (.cells (wireV k f t c (.slice (some ⟨b, off, none⟩) zs.length cap) ma mb) 131 (0, 0))) (hc : ∀ j x, zs[j]? = some x → W.cell? ⟨b, off + j, none⟩ = some (str x.1)) (h0 : J [] W) :
    CallsIn F n Tryz.prog 174 #[.func (.yield l) #[] #[], .pointer (some ⟨Bx, 0, none⟩)] W fun e W' => (∃ v, e = .returned v) ∧
      ((∃ ys, ys = zs.reverse ∧ J ys W') ∨ (∃ pre, pre <+: zs.reverse ∧ Jx pre W')) := by
  have hBl : Bx < W.heap.size := (Array.getElem?_eq_some_iff.1 hBs).1
  have c4 := cell4 hBs
  obtain ⟨m, hm⟩ : ∃ m, m = zs.length := ⟨_, rfl⟩
  rw [← hm] at hreach c4 hBs
  have HB := Lib.hid hBs
  have HM := Lib.hid hm
  have HC := Lib.hid hc
  have HY := Lib.hid hY
  clear hBs hm hc hY
  refine callsIn_of_wp Tryz.func174 rfl h7 ?_ hro
  simp only [Tryz.ntmps174, List.size_toArray, List.length_cons, List.length_nil, Nat.reduceAdd, Nat.reduceSub, Array.replicate_succ, Array.replicate_zero, List.push_toArray, List.append_toArray, List.nil_append, List.cons_append]
  gi_wp2
  gi_loopw [3] (fun i wr => ∃ r : Nat, r ≤ m ∧ i = .int .i64 ((r : Int) - 1) ∧ J ((zs.drop r).reverse) wr ∧ Keep n₀ Bx W wr)
    (fun i _ => ((intOf i) + 1).toNat)
  case atStart => exact ⟨m, Nat.le_refl _, rfl, by rw [HM.out, List.drop_length]; exact h0, Keep.refl _ _ _⟩
  case round =>
    obtain ⟨r, hr, rfl, hJs, hk⟩ := hrel
    have HK := Lib.hid hk
    cases r with
    | zero =>
      clear hk
      have d0 : ((0 : Nat) : Int) - 1 = -1 := rfl
      rw [d0]
      gi_wp2
      go_end0
      exact ⟨⟨_, rfl⟩, .inl ⟨_, rfl, by simpa using hJs⟩⟩
    | succ r =>
      have e0 : ((r + 1 : Nat) : Int) - 1 = (r : Int) := by omega
      rw [e0]
      obtain ⟨x, hx⟩ : ∃ x, zs[r]? = some x := ⟨_, List.getElem?_eq_getElem (by have := HM.out; omega)⟩
      have hlen : ((zs.drop (r + 1)).reverse).length < zs.length := by have := HM.out; simp; omega
      have k4 : wr.cell? ⟨Bx, 4, none⟩ = some (.slice (some ⟨b, off, none⟩) m cap) := cell4 ((hk.2 hBl).trans HB.out)
      have kc : wr.cell? ⟨b, off + r, none⟩ = some (str x.1) := by rw [← HC.out r x hx]; exact hk.1.cell (p := ⟨b, off + r, none⟩) hb
      have hsn : (zs.drop (r + 1)).reverse ++ [x] = (zs.drop r).reverse := by
        have e1 := (List.getElem?_eq_some_iff.1 hx).2
        have e2 := List.drop_eq_getElem_cons (i := r) (l := zs) (by have := HM.out; omega)
        rw [e2, List.reverse_cons, e1]
      have HSN := Lib.hid hsn
      obtain ⟨fn, tmps, assign, body, hy, hR⟩ := HY.out _ x wr hJs hlen
      clear hk hx hlen hsn e0
      gi_wp2
      refine hR.mono ?_
      rintro e W3 (⟨rfl, hJ3, hk3⟩ | ⟨rfl, hJx3⟩)
      · gi_wp2
        go_roundw
        case rel => exact ⟨r, by omega, rfl, by rw [← HSN.out]; exact hJ3, HK.out.t hk3⟩
        case measure => simp [intOf]
      · gi_wp2
        refine bodyPost_ret (results_none rfl _ _ _) rfl ?_
        refine ⟨⟨_, rfl⟩, .inr ⟨_, ?_, hJx3⟩⟩
        rw [HSN.out]
        exact ⟨(zs.take r).reverse, by rw [← List.reverse_append, List.take_append_drop]⟩

theorem plf_stops (F : Fence) (n : Nat) (h7 : F.fn 174) (hro : F.round = none) (hn : 1 ≤ n) (Bx n₀ b off cap : Nat) (k f t c : Int) (ma mb : Bs) (M : Bs → Prop) (zs : List (Sx M)) (hreach : zs.length ≤ 2000000) (w : World) (hn₀ : n₀ ≤ w.heap.size) (hb : b < n₀)
    (hBs : w.heap[Bx]? = some (.cells (wireV k f t c (.slice (some ⟨b, off, none⟩) zs.length cap) ma mb) 131 (0, 0))) (hc : ∀ j x, zs[j]? = some x → w.cell? ⟨b, off + j, none⟩ = some (str x.1)) :
    SeqStopsK F n Tryz.prog 174 #[.pointer (some ⟨Bx, 0, none⟩)] (fun x : Sx M => #[str x.1]) (Keep n₀ Bx) (fun ys => ys = zs.reverse) (fun pre => pre <+: zs.reverse) zs.length w := fun l J Jx W hW _ _ hY h0 => by
  have hBl : Bx < w.heap.size := (Array.getElem?_eq_some_iff.1 hBs).1
  exact plf1_in F n h7 hro hn l Bx n₀ b off cap k f t c ma mb M zs hreach hb J Jx hY W ((hW.block Bx hBl).trans hBs) (fun j x hx => (hW.cell (p := ⟨b, off + j, none⟩) (Nat.lt_of_lt_of_le hb hn₀)).trans (hc j x hx)) h0
end

set_option maxRecDepth 100000 in
theorem plf_calls (vs : Array Value) (k f t c : Int) (v : Value) (ma mb : Bs) (w : World) (hv : vs = wireV k f t c v ma mb) :
    Calls Tryz.prog 154 #[.agg vs] w fun e w' => e = .returned (.func (.func 174) #[] #[.pointer (some ⟨w.heap.size, 0, none⟩)]) ∧ w' = w.alloc (.cells (wireV k f t c v ma mb) 131) := by
  have hmf : ∀ (fn : Fn) (first cap : Array Value) (w : World), (Instr.makeFunc fn first cap).run Tryz.prog w = .ok (.func fn first cap) w := fun _ _ _ _ => rfl
  subst hv
  unfold wireV
  go_enter Tryz.func154, Tryz.ntmps154
  go_wp2_with fail
  go_ret
  exact ⟨rfl, rfl⟩
end Go.Proofs.YtonjohlecomeoaaGreat.plf

/- partsRight of the program. -/
namespace Go.Proofs.YtonjohlecomeoaaGreat.prr
open Go.RowKit Go.Shelf Go.Proofs.YtonjohlecomeoaaGreat.tm Go.Proofs.YtonjohlecomeoaaGreat.bld Go.Proofs.YtonjohlecomeoaaGreat.app Go.Proofs.YtonjohlecomeoaaGreat.mrk Go.Proofs.YtonjohlecomeoaaGreat.plf Go.Proofs.YtonjohlecomeoaaGreat.ltq
set_option linter.unusedVariables false

theorem iright_any (l : Bs) (b : Bool) (h : okT l = b) (hl : l.length ≤ 4000000) (w : World) :
    Calls Tryz.prog 54 #[str l] w fun e w' => e = .returned (.bool b) ∧ Below w.heap.size w w' := by
  have := grd.implTermRight_calls ⟨l.toArray⟩ (by unfold maxLen; show l.toArray.size ≤ _; simp; omega) w
  rw [show (term (⟨l.toArray⟩ : ByteArray).data.toList).isSome = b from h] at this
  exact this

def kindV (kw : Bs) (kn : Nat) (ks : Bool) (f1 f2 f3 : Value) : Array Value := #[str kw, .int .i64 kn, .bool ks, f1, f2, f3]

theorem keepsO {W W' : World} (h : Below W.heap.size W W') : KeepsOthers W W' :=
  ⟨h.size, fun k o hk ho => (h.block k (Array.getElem?_eq_some_iff.1 hk).1).trans hk⟩

section
attribute [local go_sem] Oper.semAt_some

set_option maxRecDepth 100000 in
set_option maxHeartbeats 2000000 in
theorem partsRight_some (k f t c : Int) (g off cap : Nat) (ma mb : Bs) (M : Bs → Prop) (hM : ∀ x, M x → x.length ≤ 4000000) (zs : List (Sx M)) (hreach : zs.length ≤ 2000000) (kw : Bs) (ks : Bool) (f1 f2 f3 : Value) (w : World) (hg : g < w.heap.size)
    (hc : ∀ j x, zs[j]? = some x → w.cell? ⟨g, off + j, none⟩ = some (str x.1)) :
    Calls Tryz.prog 114 #[.agg (wireV k f t c (.slice (some ⟨g, off, none⟩) zs.length cap) ma mb), .agg (kindV kw zs.length ks f1 f2 f3)] w fun e w' =>
      e = .returned (.bool (zs.all fun x => okT x.1)) ∧ Below w.heap.size w w' := by
  obtain ⟨m, hm⟩ : ∃ m, m = zs.length := ⟨_, rfl⟩
  rw [← hm] at hreach ⊢
  have HM := Lib.hid hm
  have HC := Lib.hid hc
  clear hm hc
  refine (callsIn_wide (n := 4)).1 ?_
  refine callsIn_of_wp_marks Tryz.func114 rfl trivial ?_ rfl
  unfold wireV kindV
  simp only [Tryz.ntmps114, List.size_toArray, List.length_cons, List.length_nil, Nat.reduceAdd, Nat.reduceSub, Array.replicate_succ, Array.replicate_zero, List.push_toArray, List.append_toArray, List.nil_append, List.cons_append]
  gi_wp2_with (refine ⟨trivial, ?_⟩; gi_at_call 154; refine (callsIn_wide.2 (plf_calls _ k f t c (.slice (some ⟨g, off, none⟩) m cap) ma mb _ rfl)).mono ?_; rintro e w' ⟨rfl, rfl⟩)
  obtain ⟨W0, hW0⟩ : ∃ W0, ((((w.alloc (.cells #[.int .i64 k, .int .i64 f, .int .i64 t, .int .i64 c, .slice (some ⟨g, off, none⟩) m cap, str ma, str mb] 131)).alloc (.cells #[str kw, .int .i64 m, .bool ks, f1, f2, f3] 128)).alloc (.cells #[.bool false] 4)).alloc (.cells (wireV k f t c (.slice (some ⟨g, off, none⟩) m cap) ma mb) 131)) = W0 := ⟨_, rfl⟩
  have hs0 : W0.heap.size = w.heap.size + 1 + 1 + 1 + 1 := by rw [← hW0]; simp
  have hB0 : Below w.heap.size w W0 := by
    rw [← hW0]
    exact ((((Below.refl _ w).alloc (Nat.le_refl _) _).alloc (by simp) _).alloc (by simp; omega) _).alloc (by simp; omega) _
  have bR : Boxed W0 (w.heap.size + 1 + 1) 4 (.bool false) := by
    rw [← hW0]
    refine Boxed.alloc ?_ _
    have := Boxed.new ((w.alloc (.cells #[.int .i64 k, .int .i64 f, .int .i64 t, .int .i64 c, .slice (some ⟨g, off, none⟩) m cap, str ma, str mb] 131)).alloc (.cells #[str kw, .int .i64 m, .bool ks, f1, f2, f3] 128)) 4 (.bool false)
    simpa using this
  have bX : W0.heap[w.heap.size + 1 + 1 + 1]? = some (.cells (wireV k f t c (.slice (some ⟨g, off, none⟩) zs.length cap) ma mb) 131 (0, 0)) := by
    rw [← HM.out, ← hW0]
    have := heap_alloc_new (((w.alloc (.cells #[.int .i64 k, .int .i64 f, .int .i64 t, .int .i64 c, .slice (some ⟨g, off, none⟩) m cap, str ma, str mb] 131)).alloc (.cells #[str kw, .int .i64 m, .bool ks, f1, f2, f3] 128)).alloc (.cells #[.bool false] 4)) (.cells (wireV k f t c (.slice (some ⟨g, off, none⟩) m cap) ma mb) 131)
    simpa using this
  have hc0 : ∀ j x, zs[j]? = some x → W0.cell? ⟨g, off + j, none⟩ = some (str x.1) := fun j x hx => by rw [← HC.out j x hx]; exact hB0.cell (p := ⟨g, off + j, none⟩) hg
  rw [hW0]
  clear hW0
  have ST := plf_stops Fence.wide 3 trivial rfl (by omega) (w.heap.size + 1 + 1 + 1) w.heap.size g off cap k f t c ma mb M zs (by have := HM.out; omega) W0 hB0.size hg bX hc0
  have HB0 := Lib.hid hB0
  clear bX hc0 hB0
  refine wpIn_rangeFunc_ownG (F := Fence.wide) rfl (by omega) (gf := 174) (lb := #[.pointer (some ⟨w.heap.size + 1 + 1 + 1, 0, none⟩)]) rfl trivial (enters_of Tryz.func174 (by kernel_rfl) rfl)
    ST (fun h k => Keep.t h k) (Keep.b HB0.out.size (by omega)) (Below.refl _ _) (fun _ => rfl)
    (fun pre W => (pre.all (fun x => okT x.1) = true ∧ Boxed W (w.heap.size + 1 + 1) 4 (.bool false)) ∧ Below w.heap.size w W)
    (fun cc pre W => (cc = .ret ∧ pre.all (fun x => okT x.1) = false ∧ Boxed W (w.heap.size + 1 + 1) 4 (.bool false)) ∧ Below w.heap.size w W)
    (OwnFrom.and (Own.from (fun s A B row hs hgr hr => ⟨hs.1, hs.2.kept hgr (fun e => by obtain ⟨o, ho, hh⟩ := hr _ e.symm; rw [show A.heap[w.heap.size + 1 + 1]? = _ from hs.2] at ho; cases ho; cases hh)⟩) _) (ownFrom_below (Nat.le_refl _) (by omega)))
    (fun cc => OwnFrom.and (Own.from (fun s A B row hs hgr hr => ⟨hs.1, hs.2.1, hs.2.2.kept hgr (fun e => by obtain ⟨o, ho, hh⟩ := hr _ e.symm; rw [show A.heap[w.heap.size + 1 + 1]? = _ from hs.2.2] at ho; cases ho; cases hh)⟩) _) (ownFrom_below (Nat.le_refl _) (by omega)))
    ⟨⟨rfl, bR⟩, HB0.out⟩ ?a1 ?assign ?body ?done ?stop
  case a1 => exact fun x => { tmps := #[.agg #[.int .i64 k, .int .i64 f, .int .i64 t, .int .i64 c, .slice (some ⟨g, off, none⟩) m cap, str ma, str mb], .agg #[str kw, .int .i64 m, .bool ks, f1, f2, f3], .pointer (some ⟨w.heap.size, 0, none⟩), .pointer (some ⟨w.heap.size + 1, 0, none⟩), .pointer (some ⟨w.heap.size + 1 + 1, 0, none⟩), str x.1, .pointer (some ⟨w.heap.size, 4, none⟩), .slice (some ⟨g, off, none⟩) m cap, .int .i64 m, .pointer (some ⟨w.heap.size + 1, 1, none⟩), .int .i64 m, .bool false, .agg #[.int .i64 k, .int .i64 f, .int .i64 t, .int .i64 c, .slice (some ⟨g, off, none⟩) m cap, str ma, str mb], .func (.func 174) #[] #[.pointer (some ⟨w.heap.size + 1 + 1 + 1, 0, none⟩)], str x.1, undef, undef, undef], defers := [] }
  case assign =>
    intro l x W K hK
    gi_wp2
    exact hK
  case body =>
    rintro l pre x W ⟨⟨hp, hR⟩, hB⟩ hlt
    have HP := Lib.hid hp
    have HR := Lib.hid hR
    have HB := Lib.hid hB
    clear hp hB hlt ST
    cases hx : okT x.1 with
    | true =>
      have c1 := fun w => iright_any x.1 true hx (hM _ x.2) w
      have HX := Lib.hid hx
      clear hx hR
      gi_wp2_with fail
      refine ⟨trivial, ?_⟩
      gi_at_call 54
      refine (CallsIn.inRound l (callsIn_wide.2 (c1 _))).mono ?_
      rintro e W1 ⟨rfl, hb1⟩
      have HB1 := Lib.hid hb1
      clear hb1
      gi_wp2
      refine ⟨(keepsO HB1.out).from _, ⟨HB1.out.mono HB.out.size, fun hb => HB1.out.block _ hb⟩, ⟨?_, ?_⟩, HB.out.trans (HB1.out.mono HB.out.size)⟩
      · rw [List.all_append, HP.out]; simp [HX.out]
      · exact (HB1.out.block _ HR.out.lt).trans HR.out
    | false =>
      have c1 := fun w => iright_any x.1 false hx (hM _ x.2) w
      have HX := Lib.hid hx
      clear hx hR
      gi_wp2_with (refine ⟨trivial, ?_⟩; gi_at_call 54; refine (CallsIn.inRound l (callsIn_wide.2 (c1 _))).mono ?_; rintro e W1 ⟨rfl, hb1⟩; have b1 : Boxed W1 (w.heap.size + 1 + 1) 4 (.bool false) := (hb1.block _ HR.out.lt).trans HR.out; have q0 := b1.cell; have q1 := b1.frozen; have q2 := b1.lt; have HB1 := Lib.hid hb1; have HQ := Lib.hid b1; clear hb1 b1)
      refine ⟨((keepsO HB1.out).trans (KeepsOthers.setCell _ _ _)).from _, ⟨rfl, ?_, HQ.out.set _⟩, (HB.out.trans (HB1.out.mono HB.out.size)).setCell (by simp; omega) _⟩
      rw [List.all_append]; simp [HX.out]
  case done =>
    rintro D ys W hD rfl ⟨⟨hp, hR⟩, hB⟩ hK
    have q0 := hR.cell
    have q1 := hR.frozen
    have q2 := hR.lt
    have HP := Lib.hid hp
    have HB := Lib.hid hB
    have HK := Lib.hid hK
    clear hp hB hK ST
    gi_wp2
    have hK' := (KeepsOthers.setCell W ⟨w.heap.size + 1 + 1, 0, none⟩ (.bool true)).same D _ HK.out rfl
    refine ⟨by simp, .inl ⟨_, _, rfl, run_takeDeferred hK', ?_⟩⟩
    have hc5 := cell_kept (World.cell?_setCell_same' W ⟨w.heap.size + 1 + 1, 0, none⟩ (.bool true) (by rw [q0]; rfl)) (grownBy_putObj' _ D (.deferred none)) (fun r e => by cases e; exact ⟨_, hK', rfl⟩)
    refine ⟨.bool true, by simp [results, Tryz.f114, go_sem, hc5], ?_, ?_⟩
    · rw [List.all_reverse] at HP; rw [HP.out]
    · exact (HB.out.setCell (p := ⟨w.heap.size + 1 + 1, 0, none⟩) (by simp; omega) _).trans (belowK_b (w := W0) HB0.out.size _ D _ _ hD hK' rfl rfl)
  case stop =>
    rintro D cc pre W hD hpre ⟨⟨rfl, hp, hR⟩, hB⟩ hK
    have q0 := hR.cell
    gi_wp2
    refine ⟨by simp, .inl ⟨_, _, rfl, run_takeDeferred hK, ?_⟩⟩
    have hc5 := cell_kept q0 (grownBy_putObj' _ D (.deferred none)) (fun r e => by cases e; exact ⟨_, hK, rfl⟩)
    refine ⟨.bool false, by simp [results, Tryz.f114, go_sem, hc5], ?_, ?_⟩
    · have : (zs.all fun x => okT x.1) = false := by
        rw [← List.all_reverse, List.all_eq_false] 
        rw [List.all_eq_false] at hp
        obtain ⟨x, h1, h2⟩ := hp
        exact ⟨x, hpre.subset h1, h2⟩
      rw [this]
    · exact hB.trans (belowK_b (w := W0) HB0.out.size _ D _ _ hD hK rfl rfl)
end
end Go.Proofs.YtonjohlecomeoaaGreat.prr

/- kinds and kindOf of the program. -/
namespace Go.Proofs.YtonjohlecomeoaaGreat.kin
open Go.RowKit Go.Proofs.YtonjohlecomeoaaGreat.tm Go.Proofs.YtonjohlecomeoaaGreat.lib Go.Proofs.YtonjohlecomeoaaGreat.rdr Go.Proofs.YtonjohlecomeoaaGreat.bld Go.Proofs.YtonjohlecomeoaaGreat.app Go.Proofs.YtonjohlecomeoaaGreat.mrk Go.Proofs.YtonjohlecomeoaaGreat.plf Go.Proofs.YtonjohlecomeoaaGreat.ltq Go.Proofs.YtonjohlecomeoaaGreat.prr
set_option linter.unusedVariables false

def fv (n : Nat) : Value := .func (.func n) #[] #[]
def kV (k : Int) : Array Value :=
  if k = 1 then kindV [105, 110, 105, 116] 3 true (fv 168) (fv 169) (fv 170)
  else if k = 2 then kindV [114, 101, 115, 112] 2 true (fv 168) (fv 171) (fv 170)
  else if k = 3 then kindV [99, 111, 111, 107, 105, 101] 1 false (fv 172) (fv 171) (fv 170)
  else if k = 4 then kindV [100, 97, 116, 97] 1 false (fv 172) (fv 171) (fv 173)
  else kindV [] 0 false .nilFunc .nilFunc .nilFunc

def isK (k : Int) : Bool := decide (1 ≤ k) && decide (k ≤ 4)

def rows : Array Value := kV 0 ++ kV 1 ++ kV 2 ++ kV 3 ++ kV 4

set_option maxRecDepth 100000 in
theorem kinds_calls (w : World) : Calls Tryz.prog 153 #[] w fun e w' => e = .returned (.slice (some ⟨w.heap.size, 0, none⟩) 5 5) ∧ w' = w.alloc (.cells rows 128) := by
  go_enter Tryz.func153, Tryz.ntmps153
  go_wp2_with fail
  go_ret
  exact ⟨rfl, rfl⟩

set_option maxHeartbeats 1000000 in
set_option maxRecDepth 100000 in
theorem kindOf_no (n : Int) (h : isK n = false) (w : World) :
    Calls Tryz.prog 112 #[.int .i64 n] w fun e w' => e = .returned (.tuple #[.agg (kV 0), .bool false]) ∧ Below w.heap.size w w' := by
  by_cases h1 : n < 1
  · clear h
    go_enter Tryz.func112, Tryz.ntmps112
    go_wp2_with fail
    refine (kinds_calls _).mono ?_
    rintro e w1 ⟨rfl, rfl⟩
    go_wp2_with fail
    refine bodyPost_ret (v := .tuple #[.agg (kV 0), .bool false]) (by simp [results, Tryz.results112, go_sem, kV, kindV]) rfl ⟨rfl, ?_⟩
    exact ((Below.refl _ _).alloc (Nat.le_refl _) _).alloc (by simp) _
  · have h2 : 5 ≤ n := by unfold isK at h; simp at h; omega
    have d1 : decide (5 ≤ n) = true := by simpa using h2
    clear h
    go_enter Tryz.func112, Tryz.ntmps112
    go_wp2_with fail
    refine (kinds_calls _).mono ?_
    rintro e w1 ⟨rfl, rfl⟩
    go_wp2_with fail
    refine bodyPost_ret (v := .tuple #[.agg (kV 0), .bool false]) (by simp [results, Tryz.results112, go_sem, kV, kindV]) rfl ⟨rfl, ?_⟩
    exact ((Below.refl _ _).alloc (Nat.le_refl _) _).alloc (by simp) _

theorem rows_eq : rows = #[str [], .int .i64 0, .bool false, Value.nilFunc, Value.nilFunc, Value.nilFunc, str [105, 110, 105, 116], .int .i64 3, .bool true, .func (.func 168) #[] #[], .func (.func 169) #[] #[], .func (.func 170) #[] #[], str [114, 101, 115, 112], .int .i64 2, .bool true, .func (.func 168) #[] #[], .func (.func 171) #[] #[], .func (.func 170) #[] #[], str [99, 111, 111, 107, 105, 101], .int .i64 1, .bool false, .func (.func 172) #[] #[], .func (.func 171) #[] #[], .func (.func 170) #[] #[], str [100, 97, 116, 97], .int .i64 1, .bool false, .func (.func 172) #[] #[], .func (.func 171) #[] #[], .func (.func 173) #[] #[]] := rfl

set_option maxHeartbeats 1000000 in
set_option maxRecDepth 100000 in
theorem kindOf_yes (n : Int) (h : isK n = true) (w : World) :
    Calls Tryz.prog 112 #[.int .i64 n] w fun e w' => e = .returned (.tuple #[.agg (kV n), .bool true]) ∧ Below w.heap.size w w' := by
  have hn : n = 1 ∨ n = 2 ∨ n = 3 ∨ n = 4 := by unfold isK at h; simp at h; omega
  clear h
  rcases hn with rfl | rfl | rfl | rfl
  · have kc := fun w => kinds_calls w
    rw [rows_eq] at kc
    have KC := Lib.hid kc
    clear kc
    go_enter Tryz.func112, Tryz.ntmps112
    go_wp2_with fail
    refine (KC.out _).mono ?_
    rintro e w1 ⟨rfl, rfl⟩
    go_wp2_with fail
    refine bodyPost_ret (v := .tuple #[.agg (kV 1), .bool true]) (by simp [results, Tryz.results112, go_sem, kV, kindV, fv]) rfl ⟨rfl, ?_⟩
    exact ((Below.refl _ _).alloc (Nat.le_refl _) _).alloc (by simp) _
  · have kc := fun w => kinds_calls w
    rw [rows_eq] at kc
    have KC := Lib.hid kc
    clear kc
    go_enter Tryz.func112, Tryz.ntmps112
    go_wp2_with fail
    refine (KC.out _).mono ?_
    rintro e w1 ⟨rfl, rfl⟩
    go_wp2_with fail
    refine bodyPost_ret (v := .tuple #[.agg (kV 2), .bool true]) (by simp [results, Tryz.results112, go_sem, kV, kindV, fv]) rfl ⟨rfl, ?_⟩
    exact ((Below.refl _ _).alloc (Nat.le_refl _) _).alloc (by simp) _
  · have kc := fun w => kinds_calls w
    rw [rows_eq] at kc
    have KC := Lib.hid kc
    clear kc
    go_enter Tryz.func112, Tryz.ntmps112
    go_wp2_with fail
    refine (KC.out _).mono ?_
    rintro e w1 ⟨rfl, rfl⟩
    go_wp2_with fail
    refine bodyPost_ret (v := .tuple #[.agg (kV 3), .bool true]) (by simp [results, Tryz.results112, go_sem, kV, kindV, fv]) rfl ⟨rfl, ?_⟩
    exact ((Below.refl _ _).alloc (Nat.le_refl _) _).alloc (by simp) _
  · have kc := fun w => kinds_calls w
    rw [rows_eq] at kc
    have KC := Lib.hid kc
    clear kc
    go_enter Tryz.func112, Tryz.ntmps112
    go_wp2_with fail
    refine (KC.out _).mono ?_
    rintro e w1 ⟨rfl, rfl⟩
    go_wp2_with fail
    refine bodyPost_ret (v := .tuple #[.agg (kV 4), .bool true]) (by simp [results, Tryz.results112, go_sem, kV, kindV, fv]) rfl ⟨rfl, ?_⟩
    exact ((Below.refl _ _).alloc (Nat.le_refl _) _).alloc (by simp) _
end Go.Proofs.YtonjohlecomeoaaGreat.kin

/- LetterRight of the program: the numbers, the macs; all of it. -/
namespace Go.Proofs.YtonjohlecomeoaaGreat.lri
open Go.RowKit Go.Proofs.YtonjohlecomeoaaGreat.tm Go.Proofs.YtonjohlecomeoaaGreat.lib Go.Proofs.YtonjohlecomeoaaGreat.rdr Go.Proofs.YtonjohlecomeoaaGreat.bld Go.Proofs.YtonjohlecomeoaaGreat.app Go.Proofs.YtonjohlecomeoaaGreat.mrk Go.Proofs.YtonjohlecomeoaaGreat.plf Go.Proofs.YtonjohlecomeoaaGreat.ltq Go.Proofs.YtonjohlecomeoaaGreat.ltv Go.Proofs.YtonjohlecomeoaaGreat.ltp Go.Proofs.YtonjohlecomeoaaGreat.prr Go.Proofs.YtonjohlecomeoaaGreat.kin
set_option linter.unusedVariables false

theorem new1 (w : World) (o : Obj) : Below w.heap.size w (w.alloc o) := (Below.refl _ _).alloc (Nat.le_refl _) _

theorem bcell {W w1 : World} (hb : Below W.heap.size W w1) : (∀ b o, b < W.heap.size → w1.cell? ⟨b, o, none⟩ = W.cell? ⟨b, o, none⟩) ∧ (∀ b o, b < W.heap.size → w1.frozen? ⟨b, o, none⟩ = W.frozen? ⟨b, o, none⟩) :=
  ⟨fun b o h => hb.cell (p := ⟨b, o, none⟩) h, fun b o h => hb.frozen (p := ⟨b, o, none⟩) h⟩

theorem isEnd_calls (n : Int) (w : World) : Calls Tryz.prog 51 #[.int .i64 n] w fun e w' => e = .returned (.bool (endR n)) ∧ w = w' := by
  unfold endR
  go_enter Tryz.func51, Tryz.ntmps51
  go_wp2
  all_goals go_ret
  all_goals exact ⟨by congr 2; simp [*] <;> omega, rfl⟩

section
variable (k f t c : Int) (v : Value) (a b : Bs) (w : World)
set_option maxRecDepth 100000 in
theorem fromEnd_calls : Calls Tryz.prog 168 #[.agg (wireV k f t c v a b)] w fun e w' => e = .returned (.bool (endR f)) ∧ Below w.heap.size w w' := by
  unfold wireV
  go_enter Tryz.func168, Tryz.ntmps168
  go_wp2_with (go_at_call 51; refine (isEnd_calls _ _).mono ?_; rintro e w' ⟨rfl, rfl⟩)
  go_ret
  exact ⟨rfl, new1 _ _⟩
set_option maxRecDepth 100000 in
theorem toEnd_calls : Calls Tryz.prog 171 #[.agg (wireV k f t c v a b)] w fun e w' => e = .returned (.bool (endR t)) ∧ Below w.heap.size w w' := by
  unfold wireV
  go_enter Tryz.func171, Tryz.ntmps171
  go_wp2_with (go_at_call 51; refine (isEnd_calls _ _).mono ?_; rintro e w' ⟨rfl, rfl⟩)
  go_ret
  exact ⟨rfl, new1 _ _⟩
set_option maxRecDepth 100000 in
theorem countTime_calls : Calls Tryz.prog 173 #[.agg (wireV k f t c v a b)] w fun e w' => e = .returned (.bool (timeR c)) ∧ Below w.heap.size w w' := by
  unfold wireV
  go_enter Tryz.func173, Tryz.ntmps173
  go_wp2_with (go_at_call 184; refine (isTime_calls _ _).mono ?_; rintro e w' ⟨rfl, rfl⟩)
  go_ret
  exact ⟨rfl, new1 _ _⟩
theorem eq0 (n : Int) : (n == 0) = decide (n = 0) := by rw [Bool.eq_iff_iff]; simp
set_option maxRecDepth 100000 in
theorem fromNone_calls : Calls Tryz.prog 172 #[.agg (wireV k f t c v a b)] w fun e w' => e = .returned (.bool (decide (f = 0))) ∧ Below w.heap.size w w' := by
  unfold wireV
  go_enter Tryz.func172, Tryz.ntmps172
  go_wp2_with fail
  go_ret
  exact ⟨by rw [← eq0]; rfl, new1 _ _⟩
set_option maxRecDepth 100000 in
theorem toNone_calls : Calls Tryz.prog 169 #[.agg (wireV k f t c v a b)] w fun e w' => e = .returned (.bool (decide (t = 0))) ∧ Below w.heap.size w w' := by
  unfold wireV
  go_enter Tryz.func169, Tryz.ntmps169
  go_wp2_with fail
  go_ret
  exact ⟨by rw [← eq0]; rfl, new1 _ _⟩
set_option maxRecDepth 100000 in
theorem countNone_calls : Calls Tryz.prog 170 #[.agg (wireV k f t c v a b)] w fun e w' => e = .returned (.bool (decide (c = 0))) ∧ Below w.heap.size w w' := by
  unfold wireV
  go_enter Tryz.func170, Tryz.ntmps170
  go_wp2_with fail
  go_ret
  exact ⟨by rw [← eq0]; rfl, new1 _ _⟩
end


set_option maxHeartbeats 1000000 in
set_option maxRecDepth 100000 in
theorem nums_of (n1 n2 n3 : Nat) (x y z : Bool) (k f t c : Int) (v : Value) (a b : Bs) (kw : Bs) (kn : Nat) (ks : Bool) (w : World)
    (h1 : ∀ w, Calls Tryz.prog n1 #[.agg (wireV k f t c v a b)] w fun e w' => e = .returned (.bool x) ∧ Below w.heap.size w w')
    (h2 : ∀ w, Calls Tryz.prog n2 #[.agg (wireV k f t c v a b)] w fun e w' => e = .returned (.bool y) ∧ Below w.heap.size w w')
    (h3 : ∀ w, Calls Tryz.prog n3 #[.agg (wireV k f t c v a b)] w fun e w' => e = .returned (.bool z) ∧ Below w.heap.size w w')
    (hc1 : ∀ (v : Value) (w : World), (callFunc n1 #[v]).run Tryz.prog w = .ok (.enter n1 #[v]) w)
    (hc2 : ∀ (v : Value) (w : World), (callFunc n2 #[v]).run Tryz.prog w = .ok (.enter n2 #[v]) w)
    (hc3 : ∀ (v : Value) (w : World), (callFunc n3 #[v]).run Tryz.prog w = .ok (.enter n3 #[v]) w) :
    Calls Tryz.prog 113 #[.agg (wireV k f t c v a b), .agg (kindV kw kn ks (.func (.func n1) #[] #[]) (.func (.func n2) #[] #[]) (.func (.func n3) #[] #[]))] w fun e w' =>
      e = .returned (.bool (x && y && z)) ∧ Below w.heap.size w w' := by
  unfold wireV kindV at *
  have H1 := Lib.hid h1
  have H2 := Lib.hid h2
  have H3 := Lib.hid h3
  clear h1 h2 h3
  have k0 : Below w.heap.size w ((w.alloc (.cells #[.int .i64 k, .int .i64 f, .int .i64 t, .int .i64 c, v, str a, str b] 131)).alloc (.cells #[str kw, .int .i64 kn, .bool ks, .func (.func n1) #[] #[], .func (.func n2) #[] #[], .func (.func n3) #[] #[]] 128)) := (new1 _ _).alloc (by simp) _
  have K0 := Lib.hid k0
  clear k0
  cases x with
  | false =>
    go_enter Tryz.func113, Tryz.ntmps113
    go_wp2_with fail
    refine (H1.out _).mono ?_
    rintro e w1 ⟨rfl, hb1⟩
    have HB1 := Lib.hid (K0.out.trans (hb1.mono K0.out.size))
    clear hb1
    go_wp2_with fail
    go_ret
    exact ⟨rfl, HB1.out⟩
  | true =>
    cases y with
    | false =>
      go_enter Tryz.func113, Tryz.ntmps113
      go_wp2_with fail
      refine (H1.out _).mono ?_
      rintro e w1 ⟨rfl, hb1⟩
      obtain ⟨hq, hf⟩ := bcell hb1
      have HB1 := Lib.hid (K0.out.trans (hb1.mono K0.out.size))
      have z1 := hb1.size
      simp at z1
      clear hb1
      go_wp2_with fail
      refine (H2.out _).mono ?_
      rintro e w2 ⟨rfl, hb2⟩
      have HB2 := Lib.hid (HB1.out.trans (hb2.mono HB1.out.size))
      clear hb2 hq hf
      go_wp2_with fail
      go_ret
      exact ⟨rfl, HB2.out⟩
    | true =>
      go_enter Tryz.func113, Tryz.ntmps113
      go_wp2_with fail
      refine (H1.out _).mono ?_
      rintro e w1 ⟨rfl, hb1⟩
      obtain ⟨hq, hf⟩ := bcell hb1
      have HB1 := Lib.hid (K0.out.trans (hb1.mono K0.out.size))
      have z1 := hb1.size
      simp at z1
      have HC1 := Lib.hid hb1
      clear hb1
      go_wp2_with fail
      refine (H2.out _).mono ?_
      rintro e w2 ⟨rfl, hb2⟩
      have hbb := HC1.out.trans (hb2.mono HC1.out.size)
      clear hq hf
      obtain ⟨hq, hf⟩ := bcell hbb
      have HB2 := Lib.hid (HB1.out.trans (hb2.mono HB1.out.size))
      have z2 := hbb.size
      simp at z2
      clear hb2 hbb
      go_wp2_with fail
      refine (H3.out _).mono ?_
      rintro e w3 ⟨rfl, hb3⟩
      have HB3 := Lib.hid (HB2.out.trans (hb3.mono HB2.out.size))
      clear hb3 hq hf
      go_wp2_with fail
      go_ret
      exact ⟨rfl, HB3.out⟩

/-- The question of a kind's numbers. -/
def numsK (k f t c : Int) : Bool :=
  if k = 1 then endR f && decide (t = 0) && decide (c = 0)
  else if k = 2 then endR f && endR t && decide (c = 0)
  else if k = 3 then decide (f = 0) && endR t && decide (c = 0)
  else decide (f = 0) && endR t && timeR c

theorem nums_calls (k f t c : Int) (v : Value) (a b : Bs) (w : World) (hk : isK k = true) :
    Calls Tryz.prog 113 #[.agg (wireV k f t c v a b), .agg (kV k)] w fun e w' => e = .returned (.bool (numsK k f t c)) ∧ Below w.heap.size w w' := by
  have hn : k = 1 ∨ k = 2 ∨ k = 3 ∨ k = 4 := by unfold isK at hk; simp at hk; omega
  rcases hn with rfl | rfl | rfl | rfl
  · exact nums_of _ _ _ _ _ _ _ _ _ _ _ _ _ _ 3 _ w (fromEnd_calls 1 f t c v a b) (toNone_calls 1 f t c v a b) (countNone_calls 1 f t c v a b) (fun _ _ => by kernel_rfl) (fun _ _ => by kernel_rfl) (fun _ _ => by kernel_rfl)
  · exact nums_of _ _ _ _ _ _ _ _ _ _ _ _ _ _ 2 _ w (fromEnd_calls 2 f t c v a b) (toEnd_calls 2 f t c v a b) (countNone_calls 2 f t c v a b) (fun _ _ => by kernel_rfl) (fun _ _ => by kernel_rfl) (fun _ _ => by kernel_rfl)
  · exact nums_of _ _ _ _ _ _ _ _ _ _ _ _ _ _ 1 _ w (fromNone_calls 3 f t c v a b) (toEnd_calls 3 f t c v a b) (countNone_calls 3 f t c v a b) (fun _ _ => by kernel_rfl) (fun _ _ => by kernel_rfl) (fun _ _ => by kernel_rfl)
  · exact nums_of _ _ _ _ _ _ _ _ _ _ _ _ _ _ 1 _ w (fromNone_calls 4 f t c v a b) (toEnd_calls 4 f t c v a b) (countTime_calls 4 f t c v a b) (fun _ _ => by kernel_rfl) (fun _ _ => by kernel_rfl) (fun _ _ => by kernel_rfl)
end Go.Proofs.YtonjohlecomeoaaGreat.lri

/- LetterRight of the program: the macs; all of it. -/
namespace Go.Proofs.YtonjohlecomeoaaGreat.lri
open Go.RowKit Go.Proofs.YtonjohlecomeoaaGreat.tm Go.Proofs.YtonjohlecomeoaaGreat.lib Go.Proofs.YtonjohlecomeoaaGreat.rdr Go.Proofs.YtonjohlecomeoaaGreat.bld Go.Proofs.YtonjohlecomeoaaGreat.app Go.Proofs.YtonjohlecomeoaaGreat.mrk Go.Proofs.YtonjohlecomeoaaGreat.plf Go.Proofs.YtonjohlecomeoaaGreat.ltq Go.Proofs.YtonjohlecomeoaaGreat.ltv Go.Proofs.YtonjohlecomeoaaGreat.ltp Go.Proofs.YtonjohlecomeoaaGreat.prr Go.Proofs.YtonjohlecomeoaaGreat.kin
set_option linter.unusedVariables false

/-- The question of the macs. -/
def macsK (s : Bool) (a b : Bs) : Bool := if s then macsR a b else decide (a = []) && decide (b = [])

theorem ret_b {x y : Bool} (h : x = y) : Ending.returned (.bool x) = .returned (.bool y) := by rw [h]

/-- Is it empty, in the walk's words. -/
theorem e_yes {a : Bs} (h : a = []) : (a == []) = true ∧ a.isEmpty = true := by subst h; exact ⟨rfl, rfl⟩
theorem e_no {a : Bs} (h : a ≠ []) : (a == []) = false ∧ a.isEmpty = false := by cases a with | nil => exact absurd rfl h | cons x l => exact ⟨rfl, rfl⟩

set_option maxHeartbeats 1000000 in
set_option maxRecDepth 100000 in
theorem macs_calls (k f t c : Int) (v : Value) (a b : Bs) (kw : Bs) (kn : Nat) (ks : Bool) (f1 f2 f3 : Value) (w : World) (ha : a.length ≤ 4000000) (hb : b.length ≤ 4000000) :
    Calls Tryz.prog 115 #[.agg (wireV k f t c v a b), .agg (kindV kw kn ks f1 f2 f3)] w fun e w' => e = .returned (.bool (macsK ks a b)) ∧ Below w.heap.size w w' := by
  unfold wireV kindV macsK macsR
  have k0 : Below w.heap.size w ((w.alloc (.cells #[.int .i64 k, .int .i64 f, .int .i64 t, .int .i64 c, v, str a, str b] 131)).alloc (.cells #[str kw, .int .i64 kn, .bool ks, f1, f2, f3] 128)) := (new1 _ _).alloc (by simp) _
  have K0 := Lib.hid k0
  clear k0
  by_cases h1 : a = []
  · subst h1
    by_cases h2 : b = []
    · subst h2
      simp only [decide_true, Bool.and_self, if_true, ite_self]
      cases ks
      all_goals
        go_enter Tryz.func115, Tryz.ntmps115
        go_wp2_with fail
        go_ret
        exact ⟨rfl, K0.out⟩
    · obtain ⟨d1, d2⟩ := e_no h2
      simp only [decide_true, if_true, Bool.true_and, ite_self, decide_eq_false h2]
      clear h2
      cases ks
      all_goals
        go_enter Tryz.func115, Tryz.ntmps115
        go_wp2_with fail
        go_ret
        exact ⟨rfl, K0.out⟩
  · obtain ⟨d1, d2⟩ := e_no h1
    simp only [if_neg h1, decide_eq_false h1, Bool.false_and]
    clear h1
    cases ks with
    | false =>
      simp only [Bool.false_eq_true, if_false]
      go_enter Tryz.func115, Tryz.ntmps115
      go_wp2_with fail
      go_ret
      exact ⟨rfl, K0.out⟩
    | true =>
      simp only [if_true]
      cases hA : okT a with
      | false =>
        have c1 := fun w => iright_any a false hA ha w
        have C1 := Lib.hid c1
        simp only [Bool.false_and]
        clear c1 hA
        go_enter Tryz.func115, Tryz.ntmps115
        go_wp2_with fail
        refine (C1.out _).mono ?_
        rintro e w1 ⟨rfl, hb1⟩
        have HB1 := Lib.hid (K0.out.trans (hb1.mono K0.out.size))
        clear hb1
        go_wp2_with fail
        go_ret
        exact ⟨rfl, HB1.out⟩
      | true =>
        have c1 := fun w => iright_any a true hA ha w
        have C1 := Lib.hid c1
        simp only [Bool.true_and]
        clear c1 hA
        by_cases h2 : b = []
        · subst h2
          simp only [decide_true, Bool.true_or]
          go_enter Tryz.func115, Tryz.ntmps115
          go_wp2_with fail
          refine (C1.out _).mono ?_
          rintro e w1 ⟨rfl, hb1⟩
          obtain ⟨hq, hf⟩ := bcell hb1
          have HB1 := Lib.hid (K0.out.trans (hb1.mono K0.out.size))
          have z1 := hb1.size
          simp at z1
          clear hb1
          go_wp2_with fail
          go_ret
          exact ⟨rfl, HB1.out⟩
        · obtain ⟨d3, d4⟩ := e_no h2
          have c2 := fun w => iright_any b (okT b) rfl hb w
          have C2 := Lib.hid c2
          simp only [decide_eq_false h2, Bool.false_or]
          clear c2 h2
          obtain ⟨ob, hob⟩ : ∃ x, x = okT b := ⟨_, rfl⟩
          rw [← hob] at C2 ⊢
          clear hob
          go_enter Tryz.func115, Tryz.ntmps115
          go_wp2_with fail
          refine (C1.out _).mono ?_
          rintro e w1 ⟨rfl, hb1⟩
          obtain ⟨hq, hf⟩ := bcell hb1
          have HB1 := Lib.hid (K0.out.trans (hb1.mono K0.out.size))
          have z1 := hb1.size
          simp at z1
          clear hb1
          go_wp2_with fail
          refine (C2.out _).mono ?_
          rintro e w2 ⟨rfl, hb2⟩
          have HB2 := Lib.hid (HB1.out.trans (hb2.mono HB1.out.size))
          clear hb2 hq hf
          go_wp2_with fail
          go_ret
          exact ⟨rfl, HB2.out⟩

set_option maxHeartbeats 1000000 in
set_option maxRecDepth 100000 in
theorem parts_calls (k f t c : Int) (v : Value) (ps : List Bs) (a b : Bs) (kw : Bs) (kn : Nat) (ks : Bool) (f1 f2 f3 : Value) (w : World) (h : Rds w v ps) (hl : ps.length ≤ 2000000) (hx : ∀ x ∈ ps, x.length ≤ 4000000) (hkn : 1 ≤ kn) (hkm : kn ≤ 1000) :
    Calls Tryz.prog 114 #[.agg (wireV k f t c v a b), .agg (kindV kw kn ks f1 f2 f3)] w fun e w' => e = .returned (.bool (decide (ps.length = kn) && ps.all okT)) ∧ Below w.heap.size w w' := by
  by_cases he : ps.length = kn
  · subst he
    rcases h with ⟨rfl, _⟩ | ⟨g, off, cap, rfl, hg, hc⟩
    · simp at hkn
    · obtain ⟨zs, hz⟩ : ∃ zs : List (Sx fun x => x.length ≤ 4000000), zs.map Subtype.val = ps := ⟨ps.attachWith _ hx, by simp⟩
      subst hz
      rw [List.length_map] at hl ⊢
      have := partsRight_some k f t c g off cap a b _ (fun x h => h) zs hl kw ks f1 f2 f3 w hg (fun j x hj => hc j x.1 (by rw [List.getElem?_map, hj]; rfl))
      simp only [decide_true, Bool.true_and, List.all_map]
      exact this
  · have hv : ∃ ad cap, v = .slice ad ps.length cap := by
      rcases h with ⟨rfl, ad, cap, e⟩ | ⟨g, off, cap, e, _⟩
      · exact ⟨_, _, e⟩
      · exact ⟨_, _, e⟩
    obtain ⟨ad, cap, rfl⟩ := hv
    simp only [decide_eq_false he, Bool.false_and]
    obtain ⟨n, hn⟩ : ∃ n, n = ps.length := ⟨_, rfl⟩
    rw [← hn] at he hl ⊢
    have d1 : ((n : Int) == (kn : Int)) = false := by rw [beq_eq_false_iff_ne]; omega
    have d2 : ((n : Int) != (kn : Int)) = true := by rw [bne_iff_ne]; omega
    clear h hx hn he
    unfold wireV kindV
    go_enter Tryz.func114, Tryz.ntmps114
    go_wp2_with fail
    refine bodyPost_ret (v := .bool false) (by simp [results, Tryz.results114, go_sem]) rfl ⟨rfl, ?_⟩
    first | exact ((new1 _ _).alloc (by simp) _).alloc (by simp; omega) _ | exact (((new1 _ _).alloc (by simp) _).alloc (by simp; omega) _).setCell (by simp; omega) _

theorem kV_form (k : Int) (h : isK k = true) : ∃ kw n1 n2 n3, kV k = kindV kw (parts k) (signed k) (.func (.func n1) #[] #[]) (.func (.func n2) #[] #[]) (.func (.func n3) #[] #[]) := by
  have hn : k = 1 ∨ k = 2 ∨ k = 3 ∨ k = 4 := by unfold isK at h; simp at h; omega
  rcases hn with rfl | rfl | rfl | rfl <;> exact ⟨_, _, _, _, rfl⟩

theorem seven {w : World} {b : Nat} {v0 v1 v2 v3 v4 v5 v6 : Value} {t : TypeId} (h : w.heap[b]? = some (.cells #[v0, v1, v2, v3, v4, v5, v6] t (0, 0))) :
    w.cell? ⟨b, 0, none⟩ = some v0 ∧ w.cell? ⟨b, 1, none⟩ = some v1 ∧ w.cell? ⟨b, 2, none⟩ = some v2 ∧ w.cell? ⟨b, 3, none⟩ = some v3 ∧ w.cell? ⟨b, 4, none⟩ = some v4 ∧ w.cell? ⟨b, 5, none⟩ = some v5 ∧ w.cell? ⟨b, 6, none⟩ = some v6 ∧ b < w.heap.size := by
  refine ⟨?_, ?_, ?_, ?_, ?_, ?_, ?_, (Array.getElem?_eq_some_iff.1 h).1⟩ <;> (rw [cell_of_row w b _ _ t (0, 0) h]; rfl)
theorem six {w : World} {b : Nat} {v0 v1 v2 v3 v4 v5 : Value} {t : TypeId} (h : w.heap[b]? = some (.cells #[v0, v1, v2, v3, v4, v5] t (0, 0))) :
    w.cell? ⟨b, 0, none⟩ = some v0 ∧ w.cell? ⟨b, 1, none⟩ = some v1 ∧ w.cell? ⟨b, 2, none⟩ = some v2 ∧ w.cell? ⟨b, 3, none⟩ = some v3 ∧ w.cell? ⟨b, 4, none⟩ = some v4 ∧ w.cell? ⟨b, 5, none⟩ = some v5 ∧ b < w.heap.size := by
  refine ⟨?_, ?_, ?_, ?_, ?_, ?_, (Array.getElem?_eq_some_iff.1 h).1⟩ <;> (rw [cell_of_row w b _ _ t (0, 0) h]; rfl)
theorem keptB {W W' : World} {b : Nat} {o : Obj} (h : W.heap[b]? = some o) (k : Below W.heap.size W W') : W'.heap[b]? = some o :=
  (k.block b (Array.getElem?_eq_some_iff.1 h).1).trans h

theorem rds_form {w : World} {v : Value} {ls : List Bs} (h : Rds w v ls) : ∃ ad cap, v = .slice ad ls.length cap := by
  rcases h with ⟨rfl, ad, cap, e⟩ | ⟨g, off, cap, e, _⟩ <;> exact ⟨_, _, e⟩
theorem alloc2 (w : World) (a b : Obj) : ((w.alloc a).alloc b).heap[w.heap.size]? = some a ∧ ((w.alloc a).alloc b).heap[w.heap.size + 1]? = some b := by
  refine ⟨(Below.heap_alloc _ _ _ (by simp)).trans (heap_alloc_new w a), ?_⟩
  have := heap_alloc_new (w.alloc a) b
  rw [World.size_alloc] at this
  exact this

theorem right_eq (m : Lt) : right m = (isK m.k && numsK m.k m.f m.t m.c && (decide (m.ps.length = parts m.k) && m.ps.all okT) && macsK (signed m.k) m.a m.b) := rfl

def letV (m : Lt) (v : Value) : Array Value := wireV m.k m.f m.t m.c v m.a m.b

set_option maxHeartbeats 2000000 in
set_option maxRecDepth 100000 in
theorem implRight_calls (m : Lt) (v : Value) (w : World) (h : Rds w v m.ps) (hl : m.ps.length ≤ 2000000) (hx : ∀ x ∈ m.ps, x.length ≤ 4000000) (ha : m.a.length ≤ 4000000) (hb : m.b.length ≤ 4000000) :
    Calls Tryz.prog 67 #[.agg (letV m v)] w fun e w' => e = .returned (.bool (right m)) ∧ Below w.heap.size w w' := by
  obtain ⟨k, f, t, c, ps, a, b⟩ := m
  simp only at h hl hx ha hb
  rw [right_eq]
  unfold letV
  simp only
  cases hk : isK k with
  | false =>
    have c1 := fun w => kindOf_no k hk w
    unfold kV kindV at c1
    simp only [show ¬ (0 : Int) = 1 by decide, show ¬ (0 : Int) = 2 by decide, show ¬ (0 : Int) = 3 by decide, show ¬ (0 : Int) = 4 by decide, if_false] at c1
    have C1 := Lib.hid c1
    simp only [Bool.false_and]
    clear c1 hk h hl hx ha hb
    unfold wireV
    go_enter Tryz.func67, Tryz.ntmps67
    go_wp2_with fail
    refine (C1.out _).mono ?_
    rintro e w1 ⟨rfl, hb1⟩
    have HB1 := Lib.hid ((new1 _ _).trans (hb1.mono (by simp)))
    clear hb1
    go_wp2_with fail
    go_ret
    exact ⟨rfl, HB1.out.alloc HB1.out.size _⟩
  | true =>
    have c1 := fun w => kindOf_yes k hk w
    have c2 := fun w => nums_calls k f t c v a b w hk
    have hp := parts_pos k
    obtain ⟨kw, n1, n2, n3, hkv⟩ := kV_form k hk
    rw [hkv] at c1 c2
    have c3 := fun (w' : World) (hb' : Below w.heap.size w w') => parts_calls k f t c v ps a b kw (parts k) (signed k) (.func (.func n1) #[] #[]) (.func (.func n2) #[] #[]) (.func (.func n3) #[] #[]) w' (Rds.below h hb') hl hx hp.1 (by omega)
    have c4 := fun w => macs_calls k f t c v a b kw (parts k) (signed k) (.func (.func n1) #[] #[]) (.func (.func n2) #[] #[]) (.func (.func n3) #[] #[]) w ha hb
    simp only [Bool.true_and]
    obtain ⟨x, hxx⟩ : ∃ x, x = numsK k f t c := ⟨_, rfl⟩
    obtain ⟨y, hyy⟩ : ∃ y, y = (decide (ps.length = parts k) && ps.all okT) := ⟨_, rfl⟩
    obtain ⟨z, hzz⟩ : ∃ z, z = macsK (signed k) a b := ⟨_, rfl⟩
    simp only [← hxx] at c2 ⊢
    simp only [← hyy] at c3 ⊢
    simp only [← hzz] at c4 ⊢
    obtain ⟨kn, hkn⟩ : ∃ n, n = parts k := ⟨_, rfl⟩
    obtain ⟨ks, hks⟩ : ∃ n, n = signed k := ⟨_, rfl⟩
    rw [← hkn, ← hks] at c1 c2
    simp only [← hkn, ← hks] at c3 c4
    have C1 := Lib.hid c1
    have C2 := Lib.hid c2
    have C3 := Lib.hid c3
    have C4 := Lib.hid c4
    unfold wireV kindV at C2 C3 C4
    unfold kindV at C1
    clear c1 c2 c3 c4 hp hkv hxx hyy hzz hkn hks h hl hx ha hb hk
    unfold wireV
    cases x with
    | false =>
      go_enter Tryz.func67, Tryz.ntmps67
      go_wp2_with fail
      refine (C1.out _).mono ?_
      rintro e w1 ⟨rfl, hb1⟩
      have X1 := Lib.hid (keptB (heap_alloc_new w _) hb1)
      obtain ⟨p0, p1, p2, p3, p4, p5, p6, pz⟩ := seven X1.out
      have HB1 := Lib.hid ((new1 _ _).trans (hb1.mono (by simp)))
      clear hb1
      go_wp2_with fail
      refine (C2.out _).mono ?_
      rintro e w2 ⟨rfl, hb2⟩
      have X2 := Lib.hid (keptB (keptB X1.out (new1 w1 _)) hb2)
      have Y2 := Lib.hid (keptB (heap_alloc_new w1 (.cells #[str kw, .int .i64 kn, .bool ks, .func (.func n1) #[] #[], .func (.func n2) #[] #[], .func (.func n3) #[] #[]] 128)) hb2)
      have HB2 := Lib.hid ((HB1.out.alloc HB1.out.size (.cells #[str kw, .int .i64 kn, .bool ks, .func (.func n1) #[] #[], .func (.func n2) #[] #[], .func (.func n3) #[] #[]] 128)).trans (hb2.mono (by have := HB1.out.size; simp; omega)))
      clear hb2 p0 p1 p2 p3 p4 p5 p6 pz
      go_wp2_with fail
      go_ret
      exact ⟨rfl, HB2.out⟩
    | true =>
      cases y with
      | false =>
        go_enter Tryz.func67, Tryz.ntmps67
        go_wp2_with fail
        refine (C1.out _).mono ?_
        rintro e w1 ⟨rfl, hb1⟩
        have X1 := Lib.hid (keptB (heap_alloc_new w _) hb1)
        obtain ⟨p0, p1, p2, p3, p4, p5, p6, pz⟩ := seven X1.out
        have HB1 := Lib.hid ((new1 _ _).trans (hb1.mono (by simp)))
        clear hb1
        go_wp2_with fail
        refine (C2.out _).mono ?_
        rintro e w2 ⟨rfl, hb2⟩
        have X2 := Lib.hid (keptB (keptB X1.out (new1 w1 _)) hb2)
        have Y2 := Lib.hid (keptB (heap_alloc_new w1 (.cells #[str kw, .int .i64 kn, .bool ks, .func (.func n1) #[] #[], .func (.func n2) #[] #[], .func (.func n3) #[] #[]] 128)) hb2)
        have HB2 := Lib.hid ((HB1.out.alloc HB1.out.size (.cells #[str kw, .int .i64 kn, .bool ks, .func (.func n1) #[] #[], .func (.func n2) #[] #[], .func (.func n3) #[] #[]] 128)).trans (hb2.mono (by have := HB1.out.size; simp; omega)))
        clear hb2 p0 p1 p2 p3 p4 p5 p6 pz
        obtain ⟨p0, p1, p2, p3, p4, p5, p6, pz⟩ := seven X2.out
        obtain ⟨q0, q1, q2, q3, q4, q5, qz⟩ := six Y2.out
        go_wp2_with fail
        refine (C3.out _ HB2.out).mono ?_
        rintro e w3 ⟨rfl, hb3⟩
        have X3 := Lib.hid (keptB X2.out hb3)
        have Y3 := Lib.hid (keptB Y2.out hb3)
        have HB3 := Lib.hid (HB2.out.trans (hb3.mono HB2.out.size))
        clear hb3 p0 p1 p2 p3 p4 p5 p6 pz q0 q1 q2 q3 q4 q5 qz
        go_wp2_with fail
        go_ret
        exact ⟨rfl, HB3.out⟩
      | true =>
        go_enter Tryz.func67, Tryz.ntmps67
        go_wp2_with fail
        refine (C1.out _).mono ?_
        rintro e w1 ⟨rfl, hb1⟩
        have X1 := Lib.hid (keptB (heap_alloc_new w _) hb1)
        obtain ⟨p0, p1, p2, p3, p4, p5, p6, pz⟩ := seven X1.out
        have HB1 := Lib.hid ((new1 _ _).trans (hb1.mono (by simp)))
        clear hb1
        go_wp2_with fail
        refine (C2.out _).mono ?_
        rintro e w2 ⟨rfl, hb2⟩
        have X2 := Lib.hid (keptB (keptB X1.out (new1 w1 _)) hb2)
        have Y2 := Lib.hid (keptB (heap_alloc_new w1 (.cells #[str kw, .int .i64 kn, .bool ks, .func (.func n1) #[] #[], .func (.func n2) #[] #[], .func (.func n3) #[] #[]] 128)) hb2)
        have HB2 := Lib.hid ((HB1.out.alloc HB1.out.size (.cells #[str kw, .int .i64 kn, .bool ks, .func (.func n1) #[] #[], .func (.func n2) #[] #[], .func (.func n3) #[] #[]] 128)).trans (hb2.mono (by have := HB1.out.size; simp; omega)))
        clear hb2 p0 p1 p2 p3 p4 p5 p6 pz
        obtain ⟨p0, p1, p2, p3, p4, p5, p6, pz⟩ := seven X2.out
        obtain ⟨q0, q1, q2, q3, q4, q5, qz⟩ := six Y2.out
        go_wp2_with fail
        refine (C3.out _ HB2.out).mono ?_
        rintro e w3 ⟨rfl, hb3⟩
        have X3 := Lib.hid (keptB X2.out hb3)
        have Y3 := Lib.hid (keptB Y2.out hb3)
        have HB3 := Lib.hid (HB2.out.trans (hb3.mono HB2.out.size))
        clear hb3 p0 p1 p2 p3 p4 p5 p6 pz q0 q1 q2 q3 q4 q5 qz
        obtain ⟨p0, p1, p2, p3, p4, p5, p6, pz⟩ := seven X3.out
        obtain ⟨q0, q1, q2, q3, q4, q5, qz⟩ := six Y3.out
        go_wp2_with fail
        refine (C4.out _).mono ?_
        rintro e w4 ⟨rfl, hb4⟩
        have HB4 := Lib.hid (HB3.out.trans (hb4.mono HB3.out.size))
        clear hb4 p0 p1 p2 p3 p4 p5 p6 pz q0 q1 q2 q3 q4 q5 qz
        go_wp2_with fail
        go_ret
        exact ⟨rfl, HB4.out⟩
end Go.Proofs.YtonjohlecomeoaaGreat.lri
