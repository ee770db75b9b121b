/- Several small texts, one behind the other. -/
import Derived.Test.YtonjohlecomeoaaGreatQg
import Derived.Test.YtonjohlecomeoaaGreatQe
import Derived.Test.YtonjohlecomeoaaGreatQd
import Derived.RegionTactic
import Derived.Test.YtonjohlecomeoaaGreatQc
import Derived.OwnWalk
import Derived.Deep.Fields
import Derived.Deep.QuietTactic
import Derived.BigQuiet
import Derived.Lib.QuietBelow
import Derived.Laws.Concat
import Derived.IntWalk

/- BodyOf of the program. -/
namespace Go.Proofs.YtonjohlecomeoaaGreat.bdo
open Go.RowKit Go.Shelf Go.Proofs.YtonjohlecomeoaaGreat.tm Go.Proofs.YtonjohlecomeoaaGreat.bld Go.Proofs.YtonjohlecomeoaaGreat.app Go.Proofs.YtonjohlecomeoaaGreat.mrk Go.Proofs.YtonjohlecomeoaaGreat.plf Go.Proofs.YtonjohlecomeoaaGreat.ltq Go.Proofs.YtonjohlecomeoaaGreat.ltv Go.Proofs.YtonjohlecomeoaaGreat.ltp Go.Proofs.YtonjohlecomeoaaGreat.prr Go.Proofs.YtonjohlecomeoaaGreat.kin Go.Proofs.YtonjohlecomeoaaGreat.lri Go.Proofs.YtonjohlecomeoaaGreat.txo Go.Proofs.YtonjohlecomeoaaGreat.bdr
set_option linter.unusedVariables false



theorem body_cons (x : Bs) (l : List Bs) : body (x :: l) = if l = [] then x else say oPair [x, body l] := by
  cases l with
  | nil => rfl
  | cons y l => rfl
theorem body_ne {l : List Bs} (h : ∀ x ∈ l, x ≠ []) (hl : l ≠ []) : body l ≠ [] := by
  cases l with
  | nil => exact absurd rfl hl
  | cons x l =>
    rw [body_cons]
    split
    · exact h x (by simp)
    · simp [say]
theorem body_le : ∀ (l : List Bs), (∀ x ∈ l, x.length ≤ 3000) → (body l).length ≤ l.length * 3010
  | [], _ => by simp [body]
  | x :: l, h => by
    have h1 := h x (by simp)
    have h2 := body_le l (fun y hy => h y (by simp [hy]))
    rw [body_cons]
    split
    · simp; omega
    · simp [say, oPair]; omega

/-- What the body holds behind some parts, the last one first. -/
def acc (pre : List Bs) : Bs := body pre.reverse
theorem acc_snoc (pre : List Bs) (x : Bs) : acc (pre ++ [x]) = if pre = [] then x else say oPair [x, acc pre] := by
  unfold acc
  rw [List.reverse_append]
  show body (x :: pre.reverse) = _
  rw [body_cons]
  cases pre with
  | nil => rfl
  | cons y l => simp

/-- The texts alone. -/
def vals {M : Bs → Prop} (l : List (Sx M)) : List Bs := l.map fun x => x.1
theorem vals_snoc {M : Bs → Prop} (l : List (Sx M)) (x : Sx M) : vals (l ++ [x]) = vals l ++ [x.1] := List.map_append
theorem vals_rev {M : Bs → Prop} (l : List (Sx M)) : vals l.reverse = (vals l).reverse := List.map_reverse
theorem vals_len {M : Bs → Prop} (l : List (Sx M)) : (vals l).length = l.length := List.length_map _
theorem vals_mem {M : Bs → Prop} {l : List (Sx M)} {y : Bs} (h : y ∈ vals l) : M y := by
  obtain ⟨z, _, rfl⟩ := List.mem_map.1 h
  exact z.2
theorem vals_ne {M : Bs → Prop} {l : List (Sx M)} (h : l ≠ []) : vals l ≠ [] := by cases l with | nil => exact absurd rfl h | cons x l => exact List.cons_ne_nil _ _

section
attribute [local go_sem] Oper.semAt_some

set_option maxRecDepth 100000 in
set_option maxHeartbeats 4000000 in
theorem body_yes (k f t c : Int) (g off cap : Nat) (ma mb : Bs) (zs : List (Sx fun x => okT x = true)) (hreach : zs.length ≤ 3) (w : World) (hg : g < w.heap.size)
    (hc : ∀ j x, zs[j]? = some x → w.cell? ⟨g, off + j, none⟩ = some (str x.1))
    (HR : Hid (∀ w', Below w.heap.size w w' → Calls Tryz.prog 67 #[.agg (wireV k f t c (.slice (some ⟨g, off, none⟩) zs.length cap) ma mb)] w' fun e w'' => e = .returned (.bool true) ∧ Below w'.heap.size w' w'')) :
    Calls Tryz.prog 151 #[.agg (wireV k f t c (.slice (some ⟨g, off, none⟩) zs.length cap) ma mb)] w fun e w' =>
      e = .returned (str (body (vals zs))) ∧ Below w.heap.size w w' := by
  obtain ⟨m, hm⟩ : ∃ m, m = zs.length := ⟨_, rfl⟩
  rw [← hm] at hreach HR ⊢
  have HM := Lib.hid hm
  have HC := Lib.hid hc
  clear hm hc
  refine (callsIn_wide (n := 4)).1 ?_
  refine callsIn_of_wp_marks Tryz.func151 rfl trivial ?_ rfl
  unfold wireV at HR ⊢
  simp only [Tryz.ntmps151, List.size_toArray, List.length_cons, List.length_nil, Nat.reduceAdd, Nat.reduceSub, Array.replicate_succ, Array.replicate_zero, List.push_toArray, List.append_toArray, List.nil_append, List.cons_append]
  gi_wp2_with fail
  refine ⟨trivial, ?_⟩
  gi_at_call 67
  refine (callsIn_wide.2 (HR.out _ (lri.new1 _ _))).mono ?_
  rintro e w1 ⟨rfl, hb1⟩
  have X1 := Lib.hid (keptB (heap_alloc_new w _) hb1)
  have HB1 := Lib.hid ((lri.new1 _ _).trans (hb1.mono (by simp)))
  obtain ⟨p0, p1, p2, p3, p4, p5, p6, pz⟩ := seven X1.out
  clear hb1
  gi_wp2_with (refine ⟨trivial, ?_⟩; gi_at_call 154; refine (callsIn_wide.2 (plf_calls _ k f t c (.slice (some ⟨g, off, none⟩) m cap) ma mb _ rfl)).mono ?_; rintro e w' ⟨rfl, rfl⟩)
  obtain ⟨W0, hW0⟩ : ∃ W0, ((w1.alloc (.cells #[.string ⟨#[]⟩] 9)).alloc (.cells (wireV k f t c (.slice (some ⟨g, off, none⟩) m cap) ma mb) 131)) = W0 := ⟨_, rfl⟩
  have hs0 : W0.heap.size = w1.heap.size + 1 + 1 := by rw [← hW0]; simp
  have hk0 : Below w1.heap.size w1 W0 := by rw [← hW0]; exact (lri.new1 _ _).alloc (by simp) _
  have hB0 : Below w.heap.size w W0 := HB1.out.trans (hk0.mono HB1.out.size)
  have bR : Boxed W0 w1.heap.size 9 (str []) := by
    rw [← hW0]
    exact Boxed.alloc (Boxed.new w1 9 (.string ⟨#[]⟩)) _
  have bX : W0.heap[w1.heap.size + 1]? = some (.cells (wireV k f t c (.slice (some ⟨g, off, none⟩) zs.length cap) ma mb) 131 (0, 0)) := by
    rw [← HM.out, ← hW0]
    have := heap_alloc_new (w1.alloc (.cells #[.string ⟨#[]⟩] 9)) (.cells (wireV k f t c (.slice (some ⟨g, off, none⟩) m cap) ma mb) 131)
    simpa using this
  have hc0 : ∀ j x, zs[j]? = some x → W0.cell? ⟨g, off + j, none⟩ = some (str x.1) := fun j x hx => by rw [← HC.out j x hx]; exact hB0.cell (p := ⟨g, off + j, none⟩) hg
  rw [hW0]
  clear hW0 p0 p1 p2 p3 p4 p5 p6 hk0
  have ST := plf_stops Fence.wide 3 trivial rfl (by omega) (w1.heap.size + 1) w.heap.size g off cap k f t c ma mb _ zs (by have := HM.out; omega) W0 hB0.size hg bX hc0
  have HB0 := Lib.hid hB0
  clear bX hc0 hB0
  refine wpIn_rangeFunc_ownG (F := Fence.wide) rfl (by omega) (gf := 174) (lb := #[.pointer (some ⟨w1.heap.size + 1, 0, none⟩)]) rfl trivial (enters_of Tryz.func174 (by kernel_rfl) rfl)
    ST (fun h k => Keep.t h k) (Keep.b HB0.out.size (by omega)) (Below.refl _ _) (fun _ => rfl)
    (fun pre W => Boxed W w1.heap.size 9 (str (acc (vals pre))) ∧ Below w.heap.size w W)
    (fun _ _ _ => False)
    (OwnFrom.and (Own.from (fun s A B row hs hgr hr => hs.kept hgr (fun e => by obtain ⟨o, ho, hh⟩ := hr _ e.symm; rw [show A.heap[w1.heap.size]? = _ from hs] at ho; cases ho; cases hh)) _) (ownFrom_below (Nat.le_refl _) (by omega)))
    (fun _ _ _ _ _ hs _ _ => hs)
    ⟨bR, HB0.out⟩ ?a1 ?assign ?body ?done ?stop
  case a1 => exact fun x => { tmps := #[.agg #[.int .i64 k, .int .i64 f, .int .i64 t, .int .i64 c, .slice (some ⟨g, off, none⟩) m cap, str ma, str mb], .pointer (some ⟨w.heap.size, 0, none⟩), .string ⟨#[]⟩, .pointer (some ⟨w1.heap.size, 0, none⟩), str x.1, .agg #[.int .i64 k, .int .i64 f, .int .i64 t, .int .i64 c, .slice (some ⟨g, off, none⟩) m cap, str ma, str mb], .bool true, .bool false, .agg #[.int .i64 k, .int .i64 f, .int .i64 t, .int .i64 c, .slice (some ⟨g, off, none⟩) m cap, str ma, str mb], .func (.func 174) #[] #[.pointer (some ⟨w1.heap.size + 1, 0, none⟩)], str x.1, undef, undef, undef, undef, undef, undef, undef, undef, undef], defers := [] }
  case assign =>
    intro l x W K hK
    gi_wp2
    exact hK
  case body =>
    rintro l pre x W ⟨hR, hB⟩ hlt
    have HR := Lib.hid hR
    have HB := Lib.hid hB
    have q0 := hR.cell
    have q1 := hR.frozen
    have q2 := hR.lt
    have hxl := okT_len x.2
    have HE := Lib.hid (acc_snoc (vals pre) x.1)
    have HNE := Lib.hid (show vals pre ≠ [] → acc (vals pre) ≠ [] from fun h => body_ne (fun y hy => okT_ne (vals_mem (List.mem_reverse.1 hy))) (by simpa using h))
    have hal : (acc (vals pre)).length ≤ 10000 := by
      have := body_le (vals pre).reverse (fun y hy => okT_len (vals_mem (List.mem_reverse.1 hy)))
      have h2 : pre.length ≤ 3 := by have := HM.out; omega
      have h3 := vals_len pre
      rw [List.length_reverse] at this
      show (body (vals pre).reverse).length ≤ _
      omega
    obtain ⟨A, hA⟩ : ∃ A, A = acc (vals pre) := ⟨_, rfl⟩
    rw [← hA] at q0 hal
    have HA := Lib.hid hA
    clear hR hB hlt ST hA
    by_cases hp : pre = []
    · have hA0 : A = [] := by rw [HA.out, hp]; rfl
      subst hA0
      have HP := Lib.hid hp
      clear hp
      have cl := fun w => clo.clone_calls ⟨x.1.toArray⟩ (by show x.1.toArray.size ≤ _; simp; omega) w
      have CL := Lib.hid cl
      clear cl
      gi_wp2_with (refine ⟨trivial, ?_⟩; gi_at_call 60; refine (CallsIn.inRound l (callsIn_wide.2 (CL.out _))).mono ?_; rintro e W1 ⟨rfl, hb1⟩; have b1 : Boxed W1 w1.heap.size 9 (str []) := (hb1.block _ HR.out.lt).trans (by rw [HA.out]; exact HR.out); have r0 := b1.cell; have r1 := b1.frozen; have r2 := b1.lt; have HB1 := Lib.hid hb1; have HQ := Lib.hid b1; clear hb1 b1)
      refine ⟨((keepsO HB1.out).trans (KeepsOthers.setCell _ _ _)).from _, ⟨(HB1.out.mono HB.out.size).setCell (by simp; omega) _, fun hb => ?_⟩, ?_, (HB.out.trans (HB1.out.mono HB.out.size)).setCell (by simp; omega) _⟩
      · rw [Below.heap_setCell _ _ _ _ (by simp)]
        exact HB1.out.block _ hb
      · have := HQ.out.set (str x.1)
        rw [vals_snoc, HE.out, if_pos (by rw [HP.out]; rfl)]
        exact this
    · have hne : A ≠ [] := by rw [HA.out]; exact HNE.out (vals_ne hp)
      have d1 : (A == []) = false := by rw [beq_eq_false_iff_ne]; exact hne
      have d2 : A.isEmpty = false := by cases A with | nil => exact absurd rfl hne | cons y l => rfl
      have HP := Lib.hid hp
      clear hp hne
      have ot := fun (w : World) (b : Nat) h0 h1 hb => opText_two oPair x.1 A b 2 w h0 h1 hb (by omega) (by decide) (by omega) (by omega)
      have OT := Lib.hid ot
      unfold oPair at OT
      clear ot
      gi_wp2_with (refine ⟨trivial, ?_⟩; gi_at_call 163; refine (CallsIn.inRound l (callsIn_wide.2 (OT.out _ _ (by simp [go_sem]) (by simp [go_sem]) (by simp)))).mono ?_; rintro e W1 ⟨rfl, hb1⟩; have b1 : Boxed W1 w1.heap.size 9 (str A) := (hb1.block _ (by have := HR.out.lt; simp; omega)).trans ((Below.heap_alloc _ _ _ HR.out.lt).trans (by rw [HA.out]; exact HR.out)); have r0 := b1.cell; have r1 := b1.frozen; have r2 := b1.lt; have HB1 := Lib.hid hb1; have HQ := Lib.hid b1; clear hb1 b1)
      have k1 : Below W.heap.size W W1 := (lri.new1 W (.cells #[str x.1, str A] 9)).trans (HB1.out.mono (by simp))
      refine ⟨((keepsO k1).trans (KeepsOthers.setCell _ _ _)).from _, ⟨(k1.mono HB.out.size).setCell (by simp; omega) _, fun hb => ?_⟩, ?_, (HB.out.trans (k1.mono HB.out.size)).setCell (by simp; omega) _⟩
      · rw [Below.heap_setCell _ _ _ _ (by simp)]
        exact k1.block _ hb
      · have := HQ.out.set (str (say oPair [x.1, A]))
        rw [vals_snoc, HE.out, if_neg (vals_ne HP.out), ← HA.out]
        exact this
  case done =>
    rintro D ys W hD rfl ⟨hR, hB⟩ hK
    have q0 := hR.cell
    have q1 := hR.frozen
    have q2 := hR.lt
    have HB := Lib.hid hB
    have HK := Lib.hid hK
    clear hR hB hK ST
    gi_wp2
    refine ⟨by simp, .inl ⟨_, _, rfl, run_takeDeferred HK.out, ?_⟩⟩
    refine ⟨_, results_tmp rfl _ _ _, ?_, ?_⟩
    · rw [vals_rev, acc, List.reverse_reverse]; rfl
    · exact HB.out.trans (belowK_b (w := W0) HB0.out.size _ D _ _ hD HK.out rfl rfl)
  case stop =>
    rintro D cc pre W hD hpre h hK
    exact h.elim
end

set_option maxHeartbeats 1000000 in
set_option maxRecDepth 100000 in
theorem body_no (m : Lt) (v : Value) (w : World) (HR : Hid (∀ w', Below w.heap.size w w' → Calls Tryz.prog 67 #[.agg (letA m v)] w' fun e w'' => e = .returned (.bool false) ∧ Below w'.heap.size w' w'')) :
    Calls Tryz.prog 151 #[.agg (letA m v)] w fun e w' => e = .returned (str []) ∧ Below w.heap.size w w' := by
  obtain ⟨k, f, t, c, ps, a, b⟩ := m
  unfold letA at HR ⊢
  simp only at HR ⊢
  go_enter Tryz.func151, Tryz.ntmps151
  go_wp2_with fail
  refine (HR.out _ (lri.new1 _ _)).mono ?_
  rintro e w1 ⟨rfl, hb1⟩
  have HB1 := Lib.hid ((lri.new1 _ _).trans (hb1.mono (by simp)))
  clear hb1
  go_wp2_with fail
  go_ret
  exact ⟨rfl, HB1.out⟩

theorem implBody_calls (m : Lt) (v : Value) (w : World) (h : Rds w v m.ps) (hl : m.ps.length ≤ 2000000) (hx : ∀ x ∈ m.ps, x.length ≤ 4000000) (ha : m.a.length ≤ 4000000) (hb : m.b.length ≤ 4000000) :
    Calls Tryz.prog 151 #[.agg (letA m v)] w fun e w' => e = .returned (str (bodyR m)) ∧ Below w.heap.size w w' := by
  have hr := fun w' (k : Below w.heap.size w w') => implRight_calls m v w' (Rds.below h k) hl hx ha hb
  unfold bodyR
  cases hm : right m with
  | false =>
    rw [hm] at hr
    exact body_no m v w (Lib.hid hr)
  | true =>
    rw [hm] at hr
    obtain ⟨h1, h2⟩ := right_ps hm
    have h3 := parts_pos m.k
    obtain ⟨k, f, t, c, ps, a, b⟩ := m
    simp only at h hl hx h1 h2 h3 hr ⊢
    rcases h with ⟨rfl, _⟩ | ⟨g, off, cap, rfl, hg, hc⟩
    · simp at h2; omega
    · obtain ⟨zs, hz⟩ : ∃ zs : List (Sx fun x => okT x = true), vals zs = ps := ⟨ps.attachWith _ (fun x hx => List.all_eq_true.1 h1 x hx), by unfold vals; simp⟩
      subst hz
      rw [vals_len] at h2 hl hr
      have := body_yes k f t c g off cap a b zs (by omega) w hg (fun j x hj => hc j x.1 (by unfold vals; rw [List.getElem?_map, hj]; rfl)) (Lib.hid hr)
      simp only [if_true]
      unfold letA
      simp only
      rw [vals_len]
      exact this
end Go.Proofs.YtonjohlecomeoaaGreat.bdo

/- What is left of a region, told once for each set of operations done. -/
namespace Go.Proofs.YtonjohlecomeoaaGreat.grt
open Go Go.RowKit

theorem split {P : Program} {md : Region.Mode} {ops : Array Oper} {Q : Exit → Act → World → Prop} {n : Nat} {l : Array Bool} {a : Act} {w : World} {α : Type} (l' : Array Bool) (a' : α → Act) (m : Nat) (C : World → α → Prop)
    (hT : ∀ X O, C X O → wpAny P md ops Q m l' (a' O) X) (h : (∀ X O, C X O → wpAny P md ops Q m l' (a' O) X) → wpAny P md ops Q n l a w) : wpAny P md ops Q n l a w := h hT
theorem relist {P : Program} {md : Region.Mode} {ops : Array Oper} {Q : Exit → Act → World → Prop} {n : Nat} {l : Array Bool} (l' : Array Bool) {a : Act} {w : World} (e : l = l') (h : wpAny P md ops Q n l' a w) : wpAny P md ops Q n l a w := by
  rw [e]; exact h
theorem newA {w : World} {o : Obj} {n : Nat} (hn : n = w.heap.size) : (w.alloc o).heap[n]? = some o := by subst hn; exact heap_alloc_new w o
end Go.Proofs.YtonjohlecomeoaaGreat.grt

/- Contracts of the laws' helpers on []string: toStringS, szStringS. -/
namespace Go.Proofs.YtonjohlecomeoaaGreat.tsz
open Go.RowKit Go.Proofs.YtonjohlecomeoaaGreat.tm Go.Proofs.YtonjohlecomeoaaGreat.lib Go.Proofs.YtonjohlecomeoaaGreat.rdr Go.Proofs.YtonjohlecomeoaaGreat.bld Go.Proofs.YtonjohlecomeoaaGreat.app Go.Proofs.YtonjohlecomeoaaGreat.mrk
set_option linter.unusedVariables false

structure Cp (b n : Nat) (ls : List Bs) (w wr : World) (k : Nat) : Prop where
  bel : Below w.heap.size w wr
  lt : b < wr.heap.size
  told : ∀ j l, j < k → ls[j]? = some l → wr.cell? ⟨b, j, none⟩ = some (str l)
  cell : ∀ j, j < n → ∃ l, wr.cell? ⟨b, j, none⟩ = some (str l)
  free : ∀ j, j < n → wr.frozen? ⟨b, j, none⟩ = false

theorem Cp.put {b n : Nat} {ls : List Bs} {w wr : World} {k : Nat} {x : Bs} (h : Cp b n ls w wr k) (hk : k < n) (hb : w.heap.size ≤ b) (hx : ls[k]? = some x) : Cp b n ls w (wr.setCell ⟨b, k, none⟩ (str x)) (k + 1) := by
  obtain ⟨l0, ck⟩ := h.cell k hk
  refine ⟨h.bel.setCell hb _, by simpa [World.setCell] using h.lt, fun j l hj hl => ?_, fun j hj => ?_, fun j hj => ?_⟩
  · by_cases e : j = k
    · subst e
      rw [hx] at hl
      cases hl
      exact World.cell?_setCell_same wr _ _ (by rw [ck])
    · rw [World.cell?_setCell_other _ _ _ _ (by intro e'; first | (simp at e'; done) | (simp at e'; omega))]
      exact h.told j l (by omega) hl
  · by_cases e : j = k
    · subst e
      exact ⟨x, World.cell?_setCell_same wr _ _ (by rw [ck])⟩
    · obtain ⟨l, h1⟩ := h.cell j hj
      refine ⟨l, ?_⟩
      rw [World.cell?_setCell_other _ _ _ _ (by intro e'; first | (simp at e'; done) | (simp at e'; omega))]
      exact h1
  · rw [World.frozen?_setCell]
    exact h.free j hj

theorem made_row {w w1 : World} {n : Nat} (h : w1.ownsRow w.heap.size 9 1 (.slice (some ⟨w.heap.size, 0, none⟩) n n) n (madeCells (Value.string ⟨#[]⟩).cells (n * 1)).toList) (hg : w.grownBy w1 none) (ls : List Bs) :
    Cp w.heap.size n ls w w1 0 := by
  have e : (madeCells (Value.string ⟨#[]⟩).cells (n * 1)).toList = (List.replicate n ([] : Bs)).map str := by
    show (madeCells #[Value.string ⟨#[]⟩] (n * 1)).toList = _
    rw [Nat.mul_one, toList_madeCells_one]
    simp
  rw [e] at h
  have hlt := (World.ownsRow.lt h w.heap.size rfl).2
  refine ⟨(Below.refl _ _).grown hg (Nat.le_refl _) (fun k e => by cases e), hlt, fun j l hj => by omega, fun j hj => ⟨[], ?_⟩, fun j hj => ?_⟩
  · have := World.ownsRow.cells h (g := w.heap.size) rfl j (str []) (by rw [List.getElem?_map, List.getElem?_replicate, if_pos hj]; rfl)
    rw [Addr.add_lit, Nat.zero_add] at this
    exact this
  · obtain ⟨_, h2⟩ := h
    rcases h2 with ⟨h0, _⟩ | ⟨g, cap, cur, e', hg', hh, _⟩
    · cases h0
    · cases e'
      simp [World.frozen?, hh]

set_option maxHeartbeats 1000000 in
set_option maxRecDepth 100000 in
theorem toStringS_calls (ad : Option Addr) (n cap : Nat) (ls : List Bs) (w : World) (hn : n = ls.length) (h : Rds w (.slice ad n cap) ls) (hl : ls.length ≤ 2000000) :
    Calls Tryz.prog 65 #[.slice ad n cap] w fun e w' => ∃ v, e = .returned v ∧ Below w.heap.size w w' ∧ mrs.Wrs w' w.heap.size v ls := by
  obtain ⟨i0, hi, hz0, hz1, hz2⟩ := info_parts infoS
  have hn2 : n ≤ 2000000 := by omega
  have H := Lib.hid h
  have HN := Lib.hid hn
  clear h hn hl
  go_enter Tryz.func65, Tryz.ntmps65
  go_wp2_with (at_make; refine wpList_make_full _ rfl (.tmp 6) (.tmp 6) 22 rfl w.heap.size 9 i0 (.string ⟨#[]⟩) 1 Tryz.underlying22 hi hz0 hz1 .i64 .i64 _ _ n rfl rfl rfl rfl (by rw [hz2]; omega) (by unfold maxLen; omega) (Nat.le_refl _) ?_; intro w1 hr1 hg1)
  have C1 := Lib.hid (made_row hr1 hg1 ls)
  clear hr1 hg1 hi hz0 hz1 hz2
  go_loopw [4, 8, 9, 10, 11, 12, 13, 14, 15, 16, 17, 18, 19, 20] (fun vi _ _ _ _ _ _ _ _ _ _ _ _ _ wr => ∃ k : Nat, k ≤ n ∧ vi = .int .i64 k ∧ Cp w.heap.size n ls w wr k) (fun vi _ _ _ _ _ _ _ _ _ _ _ _ _ _ => n - (intOf vi).toNat)
  case atStart => exact ⟨0, Nat.zero_le _, rfl, C1.out⟩
  case round =>
    obtain ⟨k, hk, rfl, hm⟩ := hrel
    have HM := Lib.hid hm
    clear hm
    by_cases hlt : k < n
    · have hk' : k < ls.length := by have := HN.out; omega
      obtain ⟨x, hx⟩ : ∃ x, ls[k]? = some x := ⟨_, List.getElem?_eq_getElem hk'⟩
      rcases H.out with ⟨h0, _⟩ | ⟨g, off, cap', e, hg, hc⟩
      · rw [h0] at hx; simp at hx
      cases e
      have c1 : wr.cell? ⟨g, off + k, none⟩ = some (str x) := by rw [← hc k x hx]; exact HM.out.bel.cell (p := ⟨g, off + k, none⟩) hg
      obtain ⟨l0, c2⟩ := HM.out.cell k hlt
      have f2 := HM.out.free k hlt
      have HX := Lib.hid hx
      clear hx hc hg
      go_wp2_with fail
      go_roundw
      case rel => exact ⟨k + 1, by omega, by go_num, HM.out.put hlt (Nat.le_refl _) HX.out⟩
      case measure => simp [intOf]; omega
    · obtain rfl : k = n := by omega
      go_wp2_with fail
      go_ret
      have hN := HN.out
      have f1 : ∀ j l, ls[j]? = some l → wr.cell? ⟨w.heap.size, 0 + j, none⟩ = some (str l) := fun j l hj => by
        rw [Nat.zero_add]
        refine HM.out.told j l ?_ hj
        rcases Nat.lt_or_ge j ls.length with h | h
        · omega
        · rw [List.getElem?_eq_none h] at hj; cases hj
      have f2 : ∀ j, j < ls.length → wr.frozen? ⟨w.heap.size, 0 + j, none⟩ = false := fun j hj => by
        rw [Nat.zero_add]; exact HM.out.free j (by omega)
      have e : Value.slice (some ⟨w.heap.size, 0, none⟩) k k = .slice (some ⟨w.heap.size, 0, none⟩) ls.length k := by rw [← hN]
      exact ⟨_, rfl, HM.out.bel, .inr ⟨w.heap.size, 0, k, e, Nat.le_refl _, HM.out.lt, f1, f2⟩⟩

def SzEnd (ls : List Bs) (w : World) (e : Ending) (w' : World) : Prop :=
  w = w' ∧ (e = .returned (.int .i64 (-1)) ∨ ∃ L : Nat, L ≤ 1048576 ∧ e = .returned (.int .i64 L) ∧ ls.length ≤ 1048576 ∧ ∀ x ∈ ls, x.length ≤ 1048576)

set_option maxHeartbeats 1000000 in
set_option maxRecDepth 100000 in
theorem szStringS_calls (ad : Option Addr) (n cap : Nat) (ls : List Bs) (w : World) (hn : n = ls.length) (h : Rds w (.slice ad n cap) ls) (hm : n ≤ maxLen) (hw : ∀ x ∈ ls, x.length ≤ maxLen) :
    Calls Tryz.prog 63 #[.slice ad n cap, .int .i64 1048576] w (SzEnd ls w) := by
  unfold maxLen at hm hw
  by_cases hbig : 1048576 < n
  · have d1 : decide ((1048576 : Int) - (n : Int) < 0) = true := by simp; omega
    clear hn h hw
    go_enter Tryz.func63, Tryz.ntmps63
    go_wp2_with fail
    go_ret
    exact ⟨rfl, .inl rfl⟩
  · have d1 : decide ((1048576 : Int) - (n : Int) < 0) = false := by simp; omega
    have H := Lib.hid h
    have HN := Lib.hid hn
    have HW := Lib.hid hw
    clear hn h hw
    go_enter Tryz.func63, Tryz.ntmps63
    go_wp2_with fail
    go_loopw [1, 5, 12, 13, 14, 15, 16, 17, 18, 19, 20, 21, 22, 23, 24, 25, 26] (fun vL vi _ _ _ _ _ _ _ _ _ _ _ _ _ _ _ wr => ∃ k L : Nat, k ≤ n ∧ L ≤ 1048576 ∧ vi = .int .i64 k ∧ vL = .int .i64 L ∧ wr = w ∧ Hid (∀ j x, j < k → ls[j]? = some x → x.length ≤ 1048576)) (fun _ vi _ _ _ _ _ _ _ _ _ _ _ _ _ _ _ _ => n - (intOf vi).toNat)
    case atStart => exact ⟨0, 1048576 - n, Nat.zero_le _, by omega, rfl, by congr 1; omega, rfl, Lib.hid fun j x hj => by omega⟩
    case round =>
      obtain ⟨k, L, hk, hL, rfl, rfl, rfl, HA⟩ := hrel
      by_cases hlt : k < n
      · have hk' : k < ls.length := by have := HN.out; omega
        obtain ⟨x, hx⟩ : ∃ x, ls[k]? = some x := ⟨_, List.getElem?_eq_getElem hk'⟩
        rcases H.out with ⟨h0, _⟩ | ⟨g, off, cap', e, hg, hc⟩
        · rw [h0] at hx; simp at hx
        cases e
        have c1 := hc k x hx
        have hxl := HW.out x (List.mem_of_getElem? hx)
        have HX := Lib.hid hx
        clear hx hc hg
        by_cases hLx : x.length ≤ L
        · have d2 : decide ((L : Int) - (x.length : Int) < 0) = false := by simp; omega
          go_wp2_with fail
          go_roundw
          case rel =>
            refine ⟨k + 1, L - x.length, by omega, by omega, by go_num, by congr 1; omega, by first | trivial | rfl, Lib.hid fun j y hj hy => ?_⟩
            by_cases e : j = k
            · subst e; rw [HX.out] at hy; cases hy; omega
            · exact HA.out j y (by omega) hy
          case measure => simp [intOf]; omega
        · have d2 : decide ((L : Int) - (x.length : Int) < 0) = true := by simp; omega
          go_wp2_with fail
          go_ret
          exact ⟨rfl, .inl rfl⟩
      · obtain rfl : k = n := by omega
        go_wp2_with fail
        go_ret
        refine ⟨rfl, .inr ⟨L, hL, rfl, by have := HN.out; omega, fun x hx => ?_⟩⟩
        obtain ⟨j, hj⟩ := List.getElem?_of_mem hx
        refine HA.out j x ?_ hj
        rcases Nat.lt_or_ge j ls.length with h | h
        · have := HN.out; omega
        · rw [List.getElem?_eq_none h] at hj; cases hj
end Go.Proofs.YtonjohlecomeoaaGreat.tsz

/- A letter that came in by value, read: for the frames of laws. -/
namespace Go.Proofs.YtonjohlecomeoaaGreat.fml
open Go.ChangeShapes Go.WideShapes Go.ChangeAt Go.RowKit
open Go.Proofs.YtonjohlecomeoaaGreat.tm Go.Proofs.YtonjohlecomeoaaGreat.bld Go.Proofs.YtonjohlecomeoaaGreat.mrk Go.Proofs.YtonjohlecomeoaaGreat.ltv
set_option linter.unusedVariables false

theorem cellsL : Tryz.prog.cellsOf 33 = 7 := by kernel_rfl

/-- What is told of a letter that came in. -/
structure LtIn (w : World) (m : Lt) (v : Value) : Prop where
  rds : Rds w v m.ps
  len : m.ps.length ≤ maxLen
  each : ∀ x ∈ m.ps, x.length ≤ maxLen
  a : m.a.length ≤ maxLen
  b : m.b.length ≤ maxLen

theorem LtIn.below {w w' : World} {m : Lt} {v : Value} (h : LtIn w m v) (k : Below w.heap.size w w') : LtIn w' m v := ⟨Rds.below h.rds k, h.len, h.each, h.a, h.b⟩

theorem bs_of (s : ByteArray) : Value.string s = str s.data.toList := by simp [str]

set_option maxRecDepth 100000 in
theorem open_letter {H : Type} {enc : TypeId × Value → H} {W : World} {base : Nat} {v : Value} {d : DataW H} {p : List MemPlace}
    (hv : Value.okWide Tryz.prog W .any base 33 v) (h : DataW.Trod enc Tryz.prog W 0 (fun _ => true) true 33 v d p) :
    ∃ (m : Lt) (sv : Value), v = .agg (letA m sv) ∧ LtIn W m sv := by
  obtain ⟨cs, rfl, hsz⟩ := okWide_struct Tryz.underlying33 hv
  obtain ⟨l⟩ := cs
  have hl : l.length = 7 := hsz.trans cellsL
  obtain ⟨fuel, hf⟩ := h
  obtain ⟨xs, n, _, hx, _, hlen, hg⟩ := DataW.trod_struct Tryz.underlying33 hf
  match l, hl with
  | [c0, c1, c2, c3, c4, c5, c6], _ =>
    match xs, hlen with
    | [y0, y1, y2, y3, y4, y5, y6], _ =>
      have k2 : Tryz.prog.cellsOf 2 = 1 := by kernel_rfl
      have k22 : Tryz.prog.cellsOf 22 = 1 := by kernel_rfl
      have h0 : DataW.trod enc Tryz.prog W 0 (fun _ => true) true n 2 [c0] = some y0 := by simpa [Value.cells, k2] using hg 0 _ rfl
      have h1 : DataW.trod enc Tryz.prog W 0 (fun _ => true) true n 2 [c1] = some y1 := by simpa [Value.cells, k2] using hg 1 _ rfl
      have h2 : DataW.trod enc Tryz.prog W 0 (fun _ => true) true n 2 [c2] = some y2 := by simpa [Value.cells, k2] using hg 2 _ rfl
      have h3 : DataW.trod enc Tryz.prog W 0 (fun _ => true) true n 2 [c3] = some y3 := by simpa [Value.cells, k2] using hg 3 _ rfl
      have h4 : DataW.trod enc Tryz.prog W 0 (fun _ => true) true n 22 [c4] = some y4 := by simpa [Value.cells, k22] using hg 4 _ rfl
      have h5 : DataW.trod enc Tryz.prog W 0 (fun _ => true) true n 9 [c5] = some y5 := by simpa [Value.cells, frm.cellsS] using hg 5 _ rfl
      have h6 : DataW.trod enc Tryz.prog W 0 (fun _ => true) true n 9 [c6] = some y6 := by simpa [Value.cells, frm.cellsS] using hg 6 _ rfl
      obtain ⟨n0, e0, _, _⟩ := DataW.trod_int Tryz.underlying2 h0
      obtain ⟨n1, e1, _, _⟩ := DataW.trod_int Tryz.underlying2 h1
      obtain ⟨n2, e2, _, _⟩ := DataW.trod_int Tryz.underlying2 h2
      obtain ⟨n3, e3, _, _⟩ := DataW.trod_int Tryz.underlying2 h3
      obtain ⟨s5, e5, _, w5⟩ := DataW.trod_string Tryz.underlying9 h5
      obtain ⟨s6, e6, _, w6⟩ := DataW.trod_string Tryz.underlying9 h6
      simp only [List.cons.injEq, and_true] at e0 e1 e2 e3 e5 e6
      have h4' : ∃ ad len cap, c4 = .slice ad len cap := by
        rcases open_strings Tryz.underlying22 Tryz.underlying9 frm.cellsS h4 with ⟨e, _⟩ | ⟨a, len, cap, ss, e, _⟩
        · simp only [List.cons.injEq, and_true] at e; exact ⟨_, _, _, e⟩
        · simp only [List.cons.injEq, and_true] at e; exact ⟨_, _, _, e⟩
      obtain ⟨ad, len, cap, e4⟩ := h4'
      subst e4
      obtain ⟨ls, hn, hr, hm, hw⟩ := frm.open_rds (W := W) (d := y4.1) (p := y4.2) ⟨n, by simpa [Value.cells] using h4⟩
      subst hn
      refine ⟨⟨n0, n1, n2, n3, ls, s5.data.toList, s6.data.toList⟩, .slice ad ls.length cap, ?_, hr, hm, hw, w5, w6⟩
      rw [e0, e1, e2, e3, e5, e6, bs_of s5, bs_of s6]
      rfl
end Go.Proofs.YtonjohlecomeoaaGreat.fml

/- Contract of the laws' eqStringS, of two lists that are one. -/
namespace Go.Proofs.YtonjohlecomeoaaGreat.mrk
open Go.RowKit Go.Sort Go.Proofs.YtonjohlecomeoaaGreat.tm Go.Proofs.YtonjohlecomeoaaGreat.lib Go.Proofs.YtonjohlecomeoaaGreat.rdr Go.Proofs.YtonjohlecomeoaaGreat.bld Go.Proofs.YtonjohlecomeoaaGreat.app
set_option linter.unusedVariables false

set_option maxHeartbeats 1000000 in
set_option maxRecDepth 100000 in
theorem eqStringS_calls (va vb : Value) (ls : List Bs) (w : World) (ha : Rds w va ls) (hb : Rds w vb ls) (hl : ls.length ≤ 100000000) :
    Calls Tryz.prog 70 #[va, vb] w fun e w' => e = .returned (.bool true) ∧ Still w w' := by
  by_cases h0 : ls = []
  · subst h0
    have fa : ∃ ad cap, va = .slice ad 0 cap := by rcases ha with ⟨_, h⟩ | ⟨g, off, cap, h, _⟩; exact h; exact ⟨_, _, h⟩
    have fb : ∃ ad cap, vb = .slice ad 0 cap := by rcases hb with ⟨_, h⟩ | ⟨g, off, cap, h, _⟩; exact h; exact ⟨_, _, h⟩
    obtain ⟨aa, ca, rfl⟩ := fa
    obtain ⟨ab, cb, rfl⟩ := fb
    clear ha hb
    go_enter Tryz.func70, Tryz.ntmps70
    go_wp2_with fail
    refine wp_loop_rounds 1 ?_
    rw [rounds_succ]
    go_wp2_with fail
    go_ret
    exact ⟨rfl, Still.refl _⟩
  · rcases ha with ⟨h, _⟩ | ⟨ga, oa, ca, rfl, hga, hca⟩
    · exact absurd h h0
    rcases hb with ⟨h, _⟩ | ⟨gb, ob, cb, rfl, hgb, hcb⟩
    · exact absurd h h0
    obtain ⟨n, hn⟩ : ∃ n, n = ls.length := ⟨_, rfl⟩
    rw [← hn] at hl ⊢
    have HA := Lib.hid hca
    have HB := Lib.hid hcb
    have HN := Lib.hid hn
    clear hca hcb hn h0
    go_enter Tryz.func70, Tryz.ntmps70
    go_wp2_with fail
    go_loopw [5, 11, 12, 13, 14, 15, 16, 17, 18, 19, 20, 21, 22, 23, 24, 25] (fun vk _ _ _ _ _ _ _ _ _ _ _ _ _ _ _ wr => ∃ k : Nat, k ≤ n ∧ vk = .int .i64 k ∧ Still w wr) (fun vk _ _ _ _ _ _ _ _ _ _ _ _ _ _ _ _ => n - (intOf vk).toNat)
    case atStart => exact ⟨0, Nat.zero_le _, rfl, Still.refl _⟩
    case round =>
      obtain ⟨k, hk, rfl, hst⟩ := hrel
      have HS := Lib.hid hst
      by_cases hlt : k < n
      · have hk' : k < ls.length := by have := HN.out; omega
        obtain ⟨l, hl'⟩ : ∃ l, ls[k]? = some l := ⟨_, List.getElem?_eq_getElem hk'⟩
        have c1 : wr.cell? ⟨ga, oa + k, none⟩ = some (str l) := by rw [← HA.out k l hl']; exact World.cell?_of_block (by rw [hst.heap])
        have c2 : wr.cell? ⟨gb, ob + k, none⟩ = some (str l) := by rw [← HB.out k l hl']; exact World.cell?_of_block (by rw [hst.heap])
        clear hst hl'
        go_wp2_with fail
        go_quiet (fail)
        go_wp2_with fail
        go_roundw
        case rel => exact ⟨k + 1, by omega, by go_num, HS.out.trans (Still.drewN _ _)⟩
        case measure => simp [intOf]; omega
      · clear hst
        go_wp2_with fail
        go_ret
        exact ⟨rfl, HS.out⟩
end Go.Proofs.YtonjohlecomeoaaGreat.mrk

/- The laws' helpers on letters: szLetter, toLetter, eqLetter. -/
namespace Go.Proofs.YtonjohlecomeoaaGreat.lth
open Go.RowKit Go.Proofs.YtonjohlecomeoaaGreat.tm Go.Proofs.YtonjohlecomeoaaGreat.lib Go.Proofs.YtonjohlecomeoaaGreat.rdr Go.Proofs.YtonjohlecomeoaaGreat.bld Go.Proofs.YtonjohlecomeoaaGreat.app Go.Proofs.YtonjohlecomeoaaGreat.mrk Go.Proofs.YtonjohlecomeoaaGreat.mrs Go.Proofs.YtonjohlecomeoaaGreat.ltv Go.Proofs.YtonjohlecomeoaaGreat.fml Go.Proofs.YtonjohlecomeoaaGreat.tsz
set_option linter.unusedVariables false

theorem new1 (w : World) (o : Obj) : Below w.heap.size w (w.alloc o) := (Below.refl _ _).alloc (Nat.le_refl _) _

/-- No text of a letter is greater than all that may come in. -/
structure Small (m : Lt) : Prop where
  len : m.ps.length ≤ 1048576
  each : ∀ x ∈ m.ps, x.length ≤ 1048576
  a : m.a.length ≤ 1048576
  b : m.b.length ≤ 1048576

theorem seven {w : World} {b : Nat} {v0 v1 v2 v3 v4 v5 v6 : Value} {t : TypeId} (h : w.heap[b]? = some (.cells #[v0, v1, v2, v3, v4, v5, v6] t (0, 0))) :
    w.cell? ⟨b, 0, none⟩ = some v0 ∧ w.cell? ⟨b, 1, none⟩ = some v1 ∧ w.cell? ⟨b, 2, none⟩ = some v2 ∧ w.cell? ⟨b, 3, none⟩ = some v3 ∧ w.cell? ⟨b, 4, none⟩ = some v4 ∧ w.cell? ⟨b, 5, none⟩ = some v5 ∧ w.cell? ⟨b, 6, none⟩ = some v6 ∧ b < w.heap.size := by
  refine ⟨?_, ?_, ?_, ?_, ?_, ?_, ?_, (Array.getElem?_eq_some_iff.1 h).1⟩ <;> (rw [cell_of_row w b _ _ t (0, 0) h]; rfl)

theorem alloc2 (w : World) (a b : Obj) : ((w.alloc a).alloc b).heap[w.heap.size]? = some a ∧ ((w.alloc a).alloc b).heap[w.heap.size + 1]? = some b := by
  refine ⟨(Below.heap_alloc _ _ _ (by simp)).trans (heap_alloc_new w a), ?_⟩
  have := heap_alloc_new (w.alloc a) b
  rw [World.size_alloc] at this
  exact this
theorem alloc3 (w : World) (a b c : Obj) : (((w.alloc a).alloc b).alloc c).heap[w.heap.size]? = some a ∧ (((w.alloc a).alloc b).alloc c).heap[w.heap.size + 1]? = some b ∧ (((w.alloc a).alloc b).alloc c).heap[w.heap.size + 1 + 1]? = some c := by
  have h := alloc2 w a b
  refine ⟨(Below.heap_alloc _ _ _ (by simp; omega)).trans h.1, (Below.heap_alloc _ _ _ (by simp)).trans h.2, ?_⟩
  have := heap_alloc_new ((w.alloc a).alloc b) c
  rw [World.size_alloc, World.size_alloc] at this
  exact this

theorem Wrs.set {w : World} {B : Nat} {v : Value} {ls : List Bs} (h : Wrs w B v ls) {p : Addr} (hp : p.block < B) (x : Value) : Wrs (w.setCell p x) B v ls := by
  rcases h with h | ⟨g, off, cap, e, hB, hg, hc, hf⟩
  · exact .inl h
  · refine .inr ⟨g, off, cap, e, hB, by simpa [World.setCell] using hg, fun j l hj => ?_, fun j hj => ?_⟩
    · rw [World.cell?_setCell_other _ _ _ _ (fun e' => by have := congrArg Addr.block e'; simp at this; omega)]; exact hc j l hj
    · rw [World.frozen?_setCell]; exact hf j hj
theorem Wrs.base {w : World} {B B' : Nat} {v : Value} {ls : List Bs} (h : Wrs w B v ls) (hB : B' ≤ B) : Wrs w B' v ls := by
  rcases h with h | ⟨g, off, cap, e, hb, r⟩
  · exact .inl h
  · exact .inr ⟨g, off, cap, e, by omega, r⟩

def SzL (m : Lt) (w : World) (e : Ending) (w' : World) : Prop :=
  Below w.heap.size w w' ∧ (e = .returned (.int .i64 (-1)) ∨ ∃ L : Nat, e = .returned (.int .i64 L) ∧ Small m)

theorem rds_form {w : World} {v : Value} {ls : List Bs} (h : Rds w v ls) : ∃ ad cap, v = .slice ad ls.length cap := by
  rcases h with ⟨rfl, ad, cap, e⟩ | ⟨g, off, cap, e, _⟩ <;> exact ⟨_, _, e⟩

set_option maxHeartbeats 1000000 in
set_option maxRecDepth 100000 in
theorem szLetter_calls (m : Lt) (v : Value) (w : World) (h : LtIn w m v) : Calls Tryz.prog 14 #[.agg (letA m v), .int .i64 1048576] w (SzL m w) := by
  obtain ⟨ad, cap, rfl⟩ := rds_form h.rds
  have H := Lib.hid h
  have sz := fun w' hb => szStringS_calls ad m.ps.length cap m.ps w' rfl (Rds.below h.rds hb) h.len h.each
  have ha := h.a
  have hb := h.b
  unfold maxLen at ha hb
  have SZ := Lib.hid sz
  clear h sz
  obtain ⟨k, f, t, c, ps, a, b⟩ := m
  obtain ⟨n, hn⟩ : ∃ n, n = ps.length := ⟨_, rfl⟩
  unfold letA
  simp only at SZ ha hb ⊢
  rw [← hn] at SZ ⊢
  clear hn
  go_enter Tryz.func14, Tryz.ntmps14
  go_wp2_with fail
  refine (SZ.out _ (new1 _ _)).mono ?_
  rintro e w1 ⟨rfl, hE⟩
  rcases hE with rfl | ⟨L, hL, rfl, hs1, hs2⟩
  · go_wp2_with fail
    go_ret
    exact ⟨new1 _ _, .inl rfl⟩
  · have S1 := Lib.hid hs1
    have S2 := Lib.hid hs2
    clear hs1 hs2
    have d0 : decide ((L : Int) < 0) = false := by simp
    by_cases h1 : L < a.length
    · have d1 : decide ((L : Int) - (a.length : Int) < 0) = true := by simp; omega
      go_wp2_with fail
      go_ret
      exact ⟨new1 _ _, .inl rfl⟩
    · have d1 : decide ((L : Int) - (a.length : Int) < 0) = false := by simp; omega
      by_cases h2 : L - a.length < b.length
      · have d2 : decide ((L : Int) - (a.length : Int) - (b.length : Int) < 0) = true := by simp; omega
        go_wp2_with fail
        go_ret
        exact ⟨new1 _ _, .inl rfl⟩
      · have d2 : decide ((L : Int) - (a.length : Int) - (b.length : Int) < 0) = false := by simp; omega
        go_wp2_with fail
        go_ret
        refine ⟨new1 _ _, .inr ⟨L - a.length - b.length, ?_, ⟨S1.out, S2.out, by show a.length ≤ _; omega, by show b.length ≤ _; omega⟩⟩⟩
        have e1 : ((L - a.length - b.length : Nat) : Int) = (L : Int) - (a.length : Int) - (b.length : Int) := by omega
        rw [e1]
        rfl

set_option maxHeartbeats 1000000 in
set_option maxRecDepth 100000 in
theorem toLetter_calls (m : Lt) (v : Value) (w : World) (h : Rds w v m.ps) (hl : m.ps.length ≤ 2000000) :
    Calls Tryz.prog 16 #[.agg (letA m v)] w fun e w' => ∃ u, e = .returned (.agg (letA m u)) ∧ Below w.heap.size w w' ∧ Wrs w' w.heap.size u m.ps := by
  obtain ⟨ad, cap, rfl⟩ := rds_form h
  have ts := fun w' hb => toStringS_calls ad m.ps.length cap m.ps w' rfl (Rds.below h hb) hl
  have TS := Lib.hid ts
  clear h ts hl
  obtain ⟨k, f, t, c, ps, a, b⟩ := m
  obtain ⟨n, hn⟩ : ∃ n, n = ps.length := ⟨_, rfl⟩
  unfold letA
  simp only at TS ⊢
  rw [← hn] at TS ⊢
  have HN := Lib.hid hn
  clear hn
  go_enter Tryz.func16, Tryz.ntmps16
  go_wp2_with fail
  refine (TS.out _ (((new1 _ _).alloc (by simp) _).alloc (by simp; omega) _)).mono ?_
  rintro e w1 ⟨u, rfl, hb, hw⟩
  obtain ⟨ua, uc, hu⟩ := rds_form hw.rds
  rw [← HN.out] at hu
  subst hu
  have X := alloc3 w (.cells #[.int .i64 k, .int .i64 f, .int .i64 t, .int .i64 c, .slice ad n cap, str a, str b] 33) (.cells #[.int .i64 0, .int .i64 0, .int .i64 0, .int .i64 0, .slice none 0 0, .string ⟨#[]⟩, .string ⟨#[]⟩] 24) (.cells #[.int .i64 k, .int .i64 f, .int .i64 t, .int .i64 c, .slice none 0 0, .string ⟨#[]⟩, .string ⟨#[]⟩] 24)
  have X0 := (hb.block w.heap.size (by simp; omega)).trans X.1
  have X1 := (hb.block (w.heap.size + 1) (by simp)).trans X.2.1
  have X2 := (hb.block (w.heap.size + 1 + 1) (by simp)).trans X.2.2
  obtain ⟨p0, p1, p2, p3, p4, p5, p6, pz⟩ := seven X0
  obtain ⟨q0, q1, q2, q3, q4, q5, q6, qz⟩ := seven X1
  obtain ⟨r0, r1, r2, r3, r4, r5, r6, rz⟩ := seven X2
  have qf : ∀ o, w1.frozen? ⟨w.heap.size + 1, o, none⟩ = false := fun o => by simp [World.frozen?, X1]
  have rf : ∀ o, w1.frozen? ⟨w.heap.size + 1 + 1, o, none⟩ = false := fun o => by simp [World.frozen?, X2]
  have HB := Lib.hid ((((new1 w (.cells #[.int .i64 k, .int .i64 f, .int .i64 t, .int .i64 c, .slice ad n cap, str a, str b] 33)).alloc (by simp) (.cells #[.int .i64 0, .int .i64 0, .int .i64 0, .int .i64 0, .slice none 0 0, .string ⟨#[]⟩, .string ⟨#[]⟩] 24)).alloc (by simp; omega) (.cells #[.int .i64 k, .int .i64 f, .int .i64 t, .int .i64 c, .slice none 0 0, .string ⟨#[]⟩, .string ⟨#[]⟩] 24)).trans (hb.mono (by simp; omega)))
  have HW := Lib.hid hw
  clear hb hw X0 X1 X2 X
  go_wp2_with fail
  refine bodyPost_ret (v := .agg #[.int .i64 k, .int .i64 f, .int .i64 t, .int .i64 c, .slice ua n uc, str a, str b]) (by simp [results, Tryz.results16, go_sem, q0, q1, q2, q3, q4, q5, q6]) rfl ⟨_, rfl, ?_, ?_⟩
  · exact (((((((((HB.out.setCell (by simp; omega) _).setCell (by simp; omega) _).setCell (by simp; omega) _).setCell (by simp) _).setCell (by simp) _).setCell (by simp) _).setCell (by simp) _).setCell (by simp) _).setCell (by simp) _).setCell (by simp) _
  · refine Wrs.base ?_ (B := w.heap.size + 1 + 1 + 1) (by omega)
    have h := HW.out
    simp only [World.size_alloc] at h
    exact Wrs.set (Wrs.set (Wrs.set (Wrs.set (Wrs.set (Wrs.set (Wrs.set (Wrs.set (Wrs.set (Wrs.set h (by simp) _) (by simp) _) (by simp) _) (by simp) _) (by simp) _) (by simp) _) (by simp) _) (by simp) _) (by simp) _) (by simp) _

set_option maxHeartbeats 1000000 in
set_option maxRecDepth 100000 in
theorem eqLetter_calls (m : Lt) (va vb : Value) (w : World) (ha : Rds w va m.ps) (hb : Rds w vb m.ps) (hl : m.ps.length ≤ 100000000) :
    Calls Tryz.prog 18 #[.agg (letA m va), .agg (letA m vb)] w fun e w' => e = .returned (.bool true) ∧ Below w.heap.size w w' := by
  obtain ⟨aa, ca, rfl⟩ := rds_form ha
  obtain ⟨ab, cb, rfl⟩ := rds_form hb
  have es := fun w' k => eqStringS_calls (.slice aa m.ps.length ca) (.slice ab m.ps.length cb) m.ps w' (Rds.below ha k) (Rds.below hb k) hl
  have ES := Lib.hid es
  clear ha hb es hl
  obtain ⟨k, f, t, c, ps, a, b⟩ := m
  obtain ⟨n, hn⟩ : ∃ n, n = ps.length := ⟨_, rfl⟩
  unfold letA
  simp only at ES ⊢
  rw [← hn] at ES ⊢
  clear hn
  go_enter Tryz.func18, Tryz.ntmps18
  go_wp2_with fail
  refine (ES.out _ ((new1 _ _).alloc (by simp) _)).mono ?_
  rintro e w1 ⟨rfl, hs⟩
  have HB := Lib.hid (((new1 w (.cells #[.int .i64 k, .int .i64 f, .int .i64 t, .int .i64 c, .slice aa n ca, str a, str b] 24)).alloc (by simp) (.cells #[.int .i64 k, .int .i64 f, .int .i64 t, .int .i64 c, .slice ab n cb, str a, str b] 24)).trans (hs.below _))
  have X := alloc2 w (.cells #[.int .i64 k, .int .i64 f, .int .i64 t, .int .i64 c, .slice aa n ca, str a, str b] 24) (.cells #[.int .i64 k, .int .i64 f, .int .i64 t, .int .i64 c, .slice ab n cb, str a, str b] 24)
  rw [← hs.heap] at X
  obtain ⟨p0, p1, p2, p3, p4, p5, p6, pz⟩ := seven X.1
  obtain ⟨q0, q1, q2, q3, q4, q5, q6, qz⟩ := seven X.2
  clear hs X
  go_wp2_with fail
  go_ret
  exact ⟨rfl, HB.out⟩
end Go.Proofs.YtonjohlecomeoaaGreat.lth

/- Lists of texts that lie apart: what stays when one of them is written. -/
namespace Go.Proofs.YtonjohlecomeoaaGreat.mrd
open Go.RowKit Go.Proofs.YtonjohlecomeoaaGreat.tm Go.Proofs.YtonjohlecomeoaaGreat.lib Go.Proofs.YtonjohlecomeoaaGreat.rdr Go.Proofs.YtonjohlecomeoaaGreat.bld Go.Proofs.YtonjohlecomeoaaGreat.app Go.Proofs.YtonjohlecomeoaaGreat.mrk Go.Proofs.YtonjohlecomeoaaGreat.mrs
set_option linter.unusedVariables false

/-- A list that is read: its block lies between lo and hi. -/
structure Rb (w : World) (lo hi : Nat) (v : Value) (ls : List Bs) : Prop where
  rds : Rds w v ls
  blk : ls ≠ [] → ∀ g, v.ownBlock = some g → lo ≤ g ∧ g < hi

/-- .. and may be written. -/
structure Wb (w : World) (lo hi : Nat) (v : Value) (ls : List Bs) : Prop where
  wrs : Wrs w lo v ls
  blk : ls ≠ [] → ∀ g, v.ownBlock = some g → lo ≤ g ∧ g < hi

theorem Wrs.own {w : World} {B : Nat} {v : Value} {ls : List Bs} (h : Wrs w B v ls) (hne : ls ≠ []) : ∀ g, v.ownBlock = some g → B ≤ g ∧ g < w.heap.size := by
  rcases h with ⟨h, _⟩ | ⟨g, off, cap, e, hB, hg, _⟩
  · exact absurd h hne
  · intro g' hg'
    rw [e] at hg'
    cases hg'
    exact ⟨hB, hg⟩

theorem Wrs.below {w w' : World} {B : Nat} {v : Value} {ls : List Bs} (h : Wrs w B v ls) (k : Below w.heap.size w w') : Wrs w' B v ls := by
  rcases h with h | ⟨g, off, cap, e, hB, hg, hc, hf⟩
  · exact .inl h
  · refine .inr ⟨g, off, cap, e, hB, Nat.lt_of_lt_of_le hg k.size, fun j l hj => ?_, fun j hj => ?_⟩
    · rw [← hc j l hj]; exact k.cell (p := ⟨g, off + j, none⟩) hg
    · rw [← hf j hj]; exact k.frozen (p := ⟨g, off + j, none⟩) hg

theorem Wb.of {w : World} {lo : Nat} {v : Value} {ls : List Bs} (h : Wrs w lo v ls) : Wb w lo w.heap.size v ls := ⟨h, fun hne g hg => Wrs.own h hne g hg⟩
theorem Wb.rb {w : World} {lo hi : Nat} {v : Value} {ls : List Bs} (h : Wb w lo hi v ls) : Rb w lo hi v ls := ⟨h.wrs.rds, h.blk⟩
theorem Rb.of {w : World} {B : Nat} {v : Value} {ls : List Bs} (h : Strs w B v ls) : Rb w B w.heap.size v ls := (Wb.of (Strs.wrs h)).rb

theorem Rb.below {w w' : World} {lo hi : Nat} {v : Value} {ls : List Bs} (h : Rb w lo hi v ls) (k : Below w.heap.size w w') : Rb w' lo hi v ls := ⟨Rds.below h.rds k, h.blk⟩
theorem Wb.below {w w' : World} {lo hi : Nat} {v : Value} {ls : List Bs} (h : Wb w lo hi v ls) (k : Below w.heap.size w w') : Wb w' lo hi v ls := ⟨Wrs.below h.wrs k, h.blk⟩

/-- Another list is written: this one, apart from it, is left as it was. -/
theorem Rb.apart {w w' : World} {lo hi lo' hi' : Nat} {v u : Value} {ls ms : List Bs} (h : Rb w lo hi v ls) (k : Marked u ms w w') (hu : ms ≠ [] → ∀ g, u.ownBlock = some g → lo' ≤ g ∧ g < hi') (ha : hi ≤ lo' ∨ hi' ≤ lo) : Rb w' lo hi v ls := by
  rcases k with ⟨_, k⟩ | ⟨e, k⟩
  · exact h.below k
  · refine ⟨?_, h.blk⟩
    rcases h.rds with ⟨h1, h2⟩ | ⟨g, off, cap, e2, hg, hc⟩
    · exact .inl ⟨h1, h2⟩
    · refine .inr ⟨g, off, cap, e2, Nat.lt_of_lt_of_le hg k.size, fun j l hj => ?_⟩
      have h3 := h.blk (fun e3 => by rw [e3] at hj; simp at hj) g (by rw [e2]; rfl)
      rw [← hc j l hj]
      exact World.cell?_of_block (w := w) (k.block g hg fun e' => by have := hu e g e'; omega)

theorem Wb.apart {w w' : World} {lo hi lo' hi' : Nat} {v u : Value} {ls ms : List Bs} (h : Wb w lo hi v ls) (k : Marked u ms w w') (hu : ms ≠ [] → ∀ g, u.ownBlock = some g → lo' ≤ g ∧ g < hi') (ha : hi ≤ lo' ∨ hi' ≤ lo) : Wb w' lo hi v ls := by
  rcases k with ⟨_, k⟩ | ⟨e, k⟩
  · exact h.below k
  · refine ⟨?_, h.blk⟩
    rcases h.wrs with ⟨h1, h2⟩ | ⟨g, off, cap, e2, hB, hg, hc, hf⟩
    · exact .inl ⟨h1, h2⟩
    · have hne : 0 < ls.length → ls ≠ [] := fun h3 e3 => by rw [e3] at h3; simp at h3
      have hb : 0 < ls.length → w'.heap[g]? = w.heap[g]? := fun h3 => k.block g hg fun e' => by
        have h4 := h.blk (hne h3) g (by rw [e2]; rfl)
        have := hu e g e'
        omega
      refine .inr ⟨g, off, cap, e2, hB, Nat.lt_of_lt_of_le hg k.size, fun j l hj => ?_, fun j hj => ?_⟩
      · rw [← hc j l hj]
        exact World.cell?_of_block (w := w) (hb (by have := (List.getElem?_eq_some_iff.1 hj).1; omega))
      · rw [← hf j hj]
        exact World.frozen?_of_block (w := w) (hb (by omega))

theorem Marked.low {w W W' : World} {v : Value} {ls : List Bs} {B lo hi : Nat} (h : Below B w W) (k : Marked v ls W W') (hB : B ≤ W.heap.size) (hv : ls ≠ [] → ∀ g, v.ownBlock = some g → lo ≤ g ∧ g < hi) (hl : B ≤ lo) : Below B w W' := by
  rcases k with ⟨_, k⟩ | ⟨e, k⟩
  · exact h.trans (k.mono hB)
  · exact h.trans (k.below hB fun g hg => Nat.le_trans hl (hv e g hg).1)
end Go.Proofs.YtonjohlecomeoaaGreat.mrd

/- Contracts of the laws' helpers on []string: markText, eqStringS, markStringS, heldStringS. -/
namespace Go.Proofs.YtonjohlecomeoaaGreat.mrk
open Go.RowKit Go.Sort Go.Proofs.YtonjohlecomeoaaGreat.tm Go.Proofs.YtonjohlecomeoaaGreat.lib Go.Proofs.YtonjohlecomeoaaGreat.rdr Go.Proofs.YtonjohlecomeoaaGreat.bld Go.Proofs.YtonjohlecomeoaaGreat.app
set_option linter.unusedVariables false

def dig : Nat → Nat → Bs → Bs
  | 0, _, acc => acc
  | f + 1, k, acc => if k = 0 then acc else dig f (k / 10) (UInt8.ofNat (48 + k % 10) :: acc)
def mkT (k : Nat) : Bs := 109 :: dig 20 k []

theorem dig_len : ∀ f k acc, (dig f k acc).length ≤ acc.length + f
  | 0, k, acc => by simp [dig]
  | f + 1, k, acc => by
    rw [dig]
    split
    · omega
    · have := dig_len f (k / 10) (UInt8.ofNat (48 + k % 10) :: acc)
      rw [List.length_cons] at this
      omega

theorem add_at (a b c : Bs) (h : a ++ b = c) (hl : c.length ≤ 100000000) (w : World) : (Op.stringOp .add ⟨a.toArray⟩ ⟨b.toArray⟩).run Tryz.prog w = .ok (.string ⟨c.toArray⟩) w := by
  have hc := congrArg List.length h
  rw [List.length_append] at hc
  rw [run_string_add_sum w _ _ (by show a.toArray.size + b.toArray.size ≤ _; simp; omega), ← h, ByteArray.mk_append_mk]

set_option maxHeartbeats 1000000 in
set_option maxRecDepth 100000 in
theorem markText_calls (k : Nat) (h1 : 1 ≤ k) (h2 : k ≤ 100000000) (w : World) :
    Calls Tryz.prog 117 #[.int .i64 k] w fun e w' => e = .returned (str (mkT k)) ∧ Below w.heap.size w w' := by
  have d0 : decide (k = 0) = false := by simp; omega
  go_enter Tryz.func117, Tryz.ntmps117
  go_wp2
  go_loopw [0, 3, 6, 7, 8, 9, 10, 11, 12, 13, 14, 15, 16, 17] (fun vk vo _ _ _ _ _ _ _ _ _ _ _ _ wr => ∃ (q : Nat) (acc : Bs) (f : Nat), vk = .int .i64 q ∧ vo = str acc ∧ dig f q acc = dig 20 k [] ∧ q ≤ 100000000 ∧ acc.length + f ≤ 20 ∧ q < 10 ^ f ∧ Below w.heap.size w wr) (fun vk _ _ _ _ _ _ _ _ _ _ _ _ _ _ => (intOf vk).toNat)
  case atStart => exact ⟨k, [], 20, rfl, rfl, rfl, h2, by simp, by omega, Below.refl _ _⟩
  case round =>
    obtain ⟨q, acc, f, rfl, rfl, hd, hq, hl, hf, hb⟩ := hrel
    have HB := Lib.hid hb
    have HD := Lib.hid hd
    have HF := Lib.hid hf
    clear hb hd hf
    by_cases h0 : q = 0
    · subst h0
      have hacc : acc = dig 20 k [] := by
        rw [← HD.out]
        cases f <;> simp [dig]
      have f1 := add_at [109] acc (mkT k) (by rw [hacc]; rfl) (by have := dig_len 20 k []; unfold mkT; simp at this ⊢; omega)
      clear hacc
      go_wp2_with fail
      go_ret
      exact ⟨rfl, HB.out⟩
    · have dq : decide (0 < (q : Int)) = true := by simp; omega
      obtain ⟨f, rfl⟩ : ∃ g, f = g + 1 := by
        cases f with
        | zero => have := HF.out; simp at this; omega
        | succ g => exact ⟨g, rfl⟩
      have e0 : dig (f + 1) q acc = dig f (q / 10) (UInt8.ofNat (48 + q % 10) :: acc) := by rw [dig, if_neg h0]
      have hc : ((UInt8.ofNat (48 + q % 10)).toNat : Int) = 48 + ((q % 10 : Nat) : Int) := by
        rw [UInt8.toNat_ofNat']; omega
      obtain ⟨C, hC⟩ : ∃ C : UInt8, C = UInt8.ofNat (48 + q % 10) := ⟨_, rfl⟩
      rw [← hC] at hc e0
      have f1 := add_at [C] acc (C :: acc) rfl (by simp; omega)
      have E0 := Lib.hid e0
      have HC := Lib.hid hc
      clear e0 hc hC
      have hcell : ∀ i (h : i < [C].length), (wr.alloc (.cells #[.int .u8 (48 + (q : Int) % 10)] 5)).cell? ⟨wr.heap.size, 0 + i, none⟩ = some (.int .u8 ([C][i].toNat)) := by
        intro i hi
        simp at hi
        subst hi
        have := HC.out
        simp [go_sem]
        omega
      have HH := Lib.hid hcell
      clear hcell
      go_wp2_with (refine wp_strAt (.tmp 12) wr.heap.size 0 1 1 [C] rfl rfl rfl rfl HH.out ?_)
      go_roundw
      case rel =>
        refine ⟨q / 10, C :: acc, f, ?_, rfl, ?_, by omega, by simp; omega, ?_, ?_⟩
        · simp
        · rw [← HD.out, E0.out]
        · have := HF.out
          rw [Nat.pow_succ] at this
          omega
        · exact HB.out.alloc HB.out.size _
      case measure =>
        simp [intOf]
        omega

end Go.Proofs.YtonjohlecomeoaaGreat.mrk
