/- BodyOf of the program. -/
import Derived.Test.YtnlinlodgpbnlaaLrj
import Derived.Test.YtnlinlodgpbnlaaTxo
import Derived.Test.YtnlinlodgpbnlaaBdr
namespace Go.Proofs.Ytnlinlodgpbnlaa.bdo
open Go.RowKit Go.Shelf Go.Proofs.Ytnlinlodgpbnlaa.tm Go.Proofs.Ytnlinlodgpbnlaa.bld Go.Proofs.Ytnlinlodgpbnlaa.app Go.Proofs.Ytnlinlodgpbnlaa.mrk Go.Proofs.Ytnlinlodgpbnlaa.plf Go.Proofs.Ytnlinlodgpbnlaa.ltq Go.Proofs.Ytnlinlodgpbnlaa.ltv Go.Proofs.Ytnlinlodgpbnlaa.ltp Go.Proofs.Ytnlinlodgpbnlaa.prr Go.Proofs.Ytnlinlodgpbnlaa.kin Go.Proofs.Ytnlinlodgpbnlaa.lri Go.Proofs.Ytnlinlodgpbnlaa.txo Go.Proofs.Ytnlinlodgpbnlaa.bdr
set_option linter.unusedVariables false



theorem body_cons (x : Bs) (l : List Bs) : body (x :: l) = if l = [] then x else say oPair [x, body l] := by
  cases l with
  | nil => rfl
  | cons y l => rfl
theorem body_ne {l : List Bs} (h : ∀ x ∈ l, x ≠ []) (hl : l ≠ []) : body l ≠ [] := by
  cases l with
  | nil => exact absurd rfl hl
  | cons x l =>
    rw [body_cons]
    split
    · exact h x (by simp)
    · simp [say]
theorem body_le : ∀ (l : List Bs), (∀ x ∈ l, x.length ≤ 3000) → (body l).length ≤ l.length * 3010
  | [], _ => by simp [body]
  | x :: l, h => by
    have h1 := h x (by simp)
    have h2 := body_le l (fun y hy => h y (by simp [hy]))
    rw [body_cons]
    split
    · simp; omega
    · simp [say, oPair]; omega

/-- What the body holds behind some parts, the last one first. -/
def acc (pre : List Bs) : Bs := body pre.reverse
theorem acc_snoc (pre : List Bs) (x : Bs) : acc (pre ++ [x]) = if pre = [] then x else say oPair [x, acc pre] := by
  unfold acc
  rw [List.reverse_append]
  show body (x :: pre.reverse) = _
  rw [body_cons]
  cases pre with
  | nil => rfl
  | cons y l => simp

/-- The texts alone. -/
def vals {M : Bs → Prop} (l : List (Sx M)) : List Bs := l.map fun x => x.1
theorem vals_snoc {M : Bs → Prop} (l : List (Sx M)) (x : Sx M) : vals (l ++ [x]) = vals l ++ [x.1] := List.map_append
theorem vals_rev {M : Bs → Prop} (l : List (Sx M)) : vals l.reverse = (vals l).reverse := List.map_reverse
theorem vals_len {M : Bs → Prop} (l : List (Sx M)) : (vals l).length = l.length := List.length_map _
theorem vals_mem {M : Bs → Prop} {l : List (Sx M)} {y : Bs} (h : y ∈ vals l) : M y := by
  obtain ⟨z, _, rfl⟩ := List.mem_map.1 h
  exact z.2
theorem vals_ne {M : Bs → Prop} {l : List (Sx M)} (h : l ≠ []) : vals l ≠ [] := by cases l with | nil => exact absurd rfl h | cons x l => exact List.cons_ne_nil _ _

section
attribute [local go_sem] Oper.semAt_some

set_option maxRecDepth 100000 in
set_option maxHeartbeats 4000000 in
theorem body_yes (k f t c : Int) (g off cap : Nat) (ma mb : Bs) (zs : List (Sx fun x => okT x = true)) (hreach : zs.length ≤ 3) (w : World) (hg : g < w.heap.size)
    (hc : ∀ j x, zs[j]? = some x → w.cell? ⟨g, off + j, none⟩ = some (str x.1))
    (HR : Hid (∀ w', Below w.heap.size w w' → Calls Try.prog 9 #[.agg (wireV k f t c (.slice (some ⟨g, off, none⟩) zs.length cap) ma mb)] w' fun e w'' => e = .returned (.bool true) ∧ Below w'.heap.size w' w'')) :
    Calls Try.prog 12 #[.agg (wireV k f t c (.slice (some ⟨g, off, none⟩) zs.length cap) ma mb)] w fun e w' =>
      e = .returned (str (body (vals zs))) ∧ Below w.heap.size w w' := by
  obtain ⟨m, hm⟩ : ∃ m, m = zs.length := ⟨_, rfl⟩
  rw [← hm] at hreach HR ⊢
  have HM := Lib.hid hm
  have HC := Lib.hid hc
  clear hm hc
  refine (callsIn_wide (n := 4)).1 ?_
  refine callsIn_of_wp_marks Try.func12 rfl trivial ?_ rfl
  unfold wireV at HR ⊢
  simp only [Try.ntmps12, List.size_toArray, List.length_cons, List.length_nil, Nat.reduceAdd, Nat.reduceSub, Array.replicate_succ, Array.replicate_zero, List.push_toArray, List.append_toArray, List.nil_append, List.cons_append]
  gi_wp2_with fail
  refine ⟨trivial, ?_⟩
  gi_at_call 9
  refine (callsIn_wide.2 (HR.out _ (lri.new1 _ _))).mono ?_
  rintro e w1 ⟨rfl, hb1⟩
  have X1 := Lib.hid (keptB (heap_alloc_new w _) hb1)
  have HB1 := Lib.hid ((lri.new1 _ _).trans (hb1.mono (by simp)))
  obtain ⟨p0, p1, p2, p3, p4, p5, p6, pz⟩ := seven X1.out
  clear hb1
  gi_wp2_with (refine ⟨trivial, ?_⟩; gi_at_call 27; refine (callsIn_wide.2 (plf_calls _ k f t c (.slice (some ⟨g, off, none⟩) m cap) ma mb _ rfl)).mono ?_; rintro e w' ⟨rfl, rfl⟩)
  obtain ⟨W0, hW0⟩ : ∃ W0, ((w1.alloc (.cells #[.string ⟨#[]⟩] 9)).alloc (.cells (wireV k f t c (.slice (some ⟨g, off, none⟩) m cap) ma mb) 43)) = W0 := ⟨_, rfl⟩
  have hs0 : W0.heap.size = w1.heap.size + 1 + 1 := by rw [← hW0]; simp
  have hk0 : Below w1.heap.size w1 W0 := by rw [← hW0]; exact (lri.new1 _ _).alloc (by simp) _
  have hB0 : Below w.heap.size w W0 := HB1.out.trans (hk0.mono HB1.out.size)
  have bR : Boxed W0 w1.heap.size 9 (str []) := by
    rw [← hW0]
    exact Boxed.alloc (Boxed.new w1 9 (.string ⟨#[]⟩)) _
  have bX : W0.heap[w1.heap.size + 1]? = some (.cells (wireV k f t c (.slice (some ⟨g, off, none⟩) zs.length cap) ma mb) 43 (0, 0)) := by
    rw [← HM.out, ← hW0]
    have := heap_alloc_new (w1.alloc (.cells #[.string ⟨#[]⟩] 9)) (.cells (wireV k f t c (.slice (some ⟨g, off, none⟩) m cap) ma mb) 43)
    simpa using this
  have hc0 : ∀ j x, zs[j]? = some x → W0.cell? ⟨g, off + j, none⟩ = some (str x.1) := fun j x hx => by rw [← HC.out j x hx]; exact hB0.cell (p := ⟨g, off + j, none⟩) hg
  rw [hW0]
  clear hW0 p0 p1 p2 p3 p4 p5 p6 hk0
  have ST := plf_stops Fence.wide 3 trivial rfl (by omega) (w1.heap.size + 1) w.heap.size g off cap k f t c ma mb _ zs (by have := HM.out; omega) W0 hB0.size hg bX hc0
  have HB0 := Lib.hid hB0
  clear bX hc0 hB0
  refine wpIn_rangeFunc_ownG (F := Fence.wide) rfl (by omega) (gf := 36) (lb := #[.pointer (some ⟨w1.heap.size + 1, 0, none⟩)]) rfl trivial (enters_of Try.func36 (by kernel_rfl) rfl)
    ST (fun h k => Keep.t h k) (Keep.b HB0.out.size (by omega)) (Below.refl _ _) (fun _ => rfl)
    (fun pre W => Boxed W w1.heap.size 9 (str (acc (vals pre))) ∧ Below w.heap.size w W)
    (fun _ _ _ => False)
    (OwnFrom.and (Own.from (fun s A B row hs hgr hr => hs.kept hgr (fun e => by obtain ⟨o, ho, hh⟩ := hr _ e.symm; rw [show A.heap[w1.heap.size]? = _ from hs] at ho; cases ho; cases hh)) _) (ownFrom_below (Nat.le_refl _) (by omega)))
    (fun _ _ _ _ _ hs _ _ => hs)
    ⟨bR, HB0.out⟩ ?a1 ?assign ?body ?done ?stop
  case a1 => exact fun x => { tmps := #[.agg #[.int .i64 k, .int .i64 f, .int .i64 t, .int .i64 c, .slice (some ⟨g, off, none⟩) m cap, str ma, str mb], .pointer (some ⟨w.heap.size, 0, none⟩), .string ⟨#[]⟩, .pointer (some ⟨w1.heap.size, 0, none⟩), str x.1, .agg #[.int .i64 k, .int .i64 f, .int .i64 t, .int .i64 c, .slice (some ⟨g, off, none⟩) m cap, str ma, str mb], .bool true, .bool false, .agg #[.int .i64 k, .int .i64 f, .int .i64 t, .int .i64 c, .slice (some ⟨g, off, none⟩) m cap, str ma, str mb], .func (.func 36) #[] #[.pointer (some ⟨w1.heap.size + 1, 0, none⟩)], str x.1, undef, undef, undef, undef, undef, undef, undef, undef, undef], defers := [] }
  case assign =>
    intro l x W K hK
    gi_wp2
    exact hK
  case body =>
    rintro l pre x W ⟨hR, hB⟩ hlt
    have HR := Lib.hid hR
    have HB := Lib.hid hB
    have q0 := hR.cell
    have q1 := hR.frozen
    have q2 := hR.lt
    have hxl := okT_len x.2
    have HE := Lib.hid (acc_snoc (vals pre) x.1)
    have HNE := Lib.hid (show vals pre ≠ [] → acc (vals pre) ≠ [] from fun h => body_ne (fun y hy => okT_ne (vals_mem (List.mem_reverse.1 hy))) (by simpa using h))
    have hal : (acc (vals pre)).length ≤ 10000 := by
      have := body_le (vals pre).reverse (fun y hy => okT_len (vals_mem (List.mem_reverse.1 hy)))
      have h2 : pre.length ≤ 3 := by have := HM.out; omega
      have h3 := vals_len pre
      rw [List.length_reverse] at this
      show (body (vals pre).reverse).length ≤ _
      omega
    obtain ⟨A, hA⟩ : ∃ A, A = acc (vals pre) := ⟨_, rfl⟩
    rw [← hA] at q0 hal
    have HA := Lib.hid hA
    clear hR hB hlt ST hA
    by_cases hp : pre = []
    · have hA0 : A = [] := by rw [HA.out, hp]; rfl
      subst hA0
      have HP := Lib.hid hp
      clear hp
      have cl := fun w => clo.clone_calls ⟨x.1.toArray⟩ (by show x.1.toArray.size ≤ _; simp; omega) w
      have CL := Lib.hid cl
      clear cl
      gi_wp2_with (refine ⟨trivial, ?_⟩; gi_at_call 28; refine (CallsIn.inRound l (callsIn_wide.2 (CL.out _))).mono ?_; rintro e W1 ⟨rfl, hb1⟩; have b1 : Boxed W1 w1.heap.size 9 (str []) := (hb1.block _ HR.out.lt).trans (by rw [HA.out]; exact HR.out); have r0 := b1.cell; have r1 := b1.frozen; have r2 := b1.lt; have HB1 := Lib.hid hb1; have HQ := Lib.hid b1; clear hb1 b1)
      refine ⟨((keepsO HB1.out).trans (KeepsOthers.setCell _ _ _)).from _, ⟨(HB1.out.mono HB.out.size).setCell (by simp; omega) _, fun hb => ?_⟩, ?_, (HB.out.trans (HB1.out.mono HB.out.size)).setCell (by simp; omega) _⟩
      · rw [Below.heap_setCell _ _ _ _ (by simp)]
        exact HB1.out.block _ hb
      · have := HQ.out.set (str x.1)
        rw [vals_snoc, HE.out, if_pos (by rw [HP.out]; rfl)]
        exact this
    · have hne : A ≠ [] := by rw [HA.out]; exact HNE.out (vals_ne hp)
      have d1 : (A == []) = false := by rw [beq_eq_false_iff_ne]; exact hne
      have d2 : A.isEmpty = false := by cases A with | nil => exact absurd rfl hne | cons y l => rfl
      have HP := Lib.hid hp
      clear hp hne
      have ot := fun (w : World) (b : Nat) h0 h1 hb => opText_two oPair x.1 A b 2 w h0 h1 hb (by omega) (by decide) (by omega) (by omega)
      have OT := Lib.hid ot
      unfold oPair at OT
      clear ot
      gi_wp2_with (refine ⟨trivial, ?_⟩; gi_at_call 29; refine (CallsIn.inRound l (callsIn_wide.2 (OT.out _ _ (by simp [go_sem]) (by simp [go_sem]) (by simp)))).mono ?_; rintro e W1 ⟨rfl, hb1⟩; have b1 : Boxed W1 w1.heap.size 9 (str A) := (hb1.block _ (by have := HR.out.lt; simp; omega)).trans ((Below.heap_alloc _ _ _ HR.out.lt).trans (by rw [HA.out]; exact HR.out)); have r0 := b1.cell; have r1 := b1.frozen; have r2 := b1.lt; have HB1 := Lib.hid hb1; have HQ := Lib.hid b1; clear hb1 b1)
      have k1 : Below W.heap.size W W1 := (lri.new1 W (.cells #[str x.1, str A] 9)).trans (HB1.out.mono (by simp))
      refine ⟨((keepsO k1).trans (KeepsOthers.setCell _ _ _)).from _, ⟨(k1.mono HB.out.size).setCell (by simp; omega) _, fun hb => ?_⟩, ?_, (HB.out.trans (k1.mono HB.out.size)).setCell (by simp; omega) _⟩
      · rw [Below.heap_setCell _ _ _ _ (by simp)]
        exact k1.block _ hb
      · have := HQ.out.set (str (say oPair [x.1, A]))
        rw [vals_snoc, HE.out, if_neg (vals_ne HP.out), ← HA.out]
        exact this
  case done =>
    rintro D ys W hD rfl ⟨hR, hB⟩ hK
    have q0 := hR.cell
    have q1 := hR.frozen
    have q2 := hR.lt
    have HB := Lib.hid hB
    have HK := Lib.hid hK
    clear hR hB hK ST
    gi_wp2
    refine ⟨by simp, .inl ⟨_, _, rfl, run_takeDeferred HK.out, ?_⟩⟩
    refine ⟨_, results_tmp rfl _ _ _, ?_, ?_⟩
    · rw [vals_rev, acc, List.reverse_reverse]; rfl
    · exact HB.out.trans (belowK_b (w := W0) HB0.out.size _ D _ _ hD HK.out rfl rfl)
  case stop =>
    rintro D cc pre W hD hpre h hK
    exact h.elim
end

set_option maxHeartbeats 1000000 in
set_option maxRecDepth 100000 in
theorem body_no (m : Lt) (v : Value) (w : World) (HR : Hid (∀ w', Below w.heap.size w w' → Calls Try.prog 9 #[.agg (letA m v)] w' fun e w'' => e = .returned (.bool false) ∧ Below w'.heap.size w' w'')) :
    Calls Try.prog 12 #[.agg (letA m v)] w fun e w' => e = .returned (str []) ∧ Below w.heap.size w w' := by
  obtain ⟨k, f, t, c, ps, a, b⟩ := m
  unfold letA at HR ⊢
  simp only at HR ⊢
  go_enter Try.func12, Try.ntmps12
  go_wp2_with fail
  refine (HR.out _ (lri.new1 _ _)).mono ?_
  rintro e w1 ⟨rfl, hb1⟩
  have HB1 := Lib.hid ((lri.new1 _ _).trans (hb1.mono (by simp)))
  clear hb1
  go_wp2_with fail
  go_ret
  exact ⟨rfl, HB1.out⟩

theorem implBody_calls (m : Lt) (v : Value) (w : World) (h : Rds w v m.ps) (hl : m.ps.length ≤ 2000000) (hx : ∀ x ∈ m.ps, x.length ≤ 4000000) (ha : m.a.length ≤ 4000000) (hb : m.b.length ≤ 4000000) :
    Calls Try.prog 12 #[.agg (letA m v)] w fun e w' => e = .returned (str (bodyR m)) ∧ Below w.heap.size w w' := by
  have hr := fun w' (k : Below w.heap.size w w') => implRight_calls m v w' (Rds.below h k) hl hx ha hb
  unfold bodyR
  cases hm : right m with
  | false =>
    rw [hm] at hr
    exact body_no m v w (Lib.hid hr)
  | true =>
    rw [hm] at hr
    obtain ⟨h1, h2⟩ := right_ps hm
    have h3 := parts_pos m.k
    obtain ⟨k, f, t, c, ps, a, b⟩ := m
    simp only at h hl hx h1 h2 h3 hr ⊢
    rcases h with ⟨rfl, _⟩ | ⟨g, off, cap, rfl, hg, hc⟩
    · simp at h2; omega
    · obtain ⟨zs, hz⟩ : ∃ zs : List (Sx fun x => okT x = true), vals zs = ps := ⟨ps.attachWith _ (fun x hx => List.all_eq_true.1 h1 x hx), by unfold vals; simp⟩
      subst hz
      rw [vals_len] at h2 hl hr
      have := body_yes k f t c g off cap a b zs (by omega) w hg (fun j x hj => hc j x.1 (by unfold vals; rw [List.getElem?_map, hj]; rfl)) (Lib.hid hr)
      simp only [if_true]
      unfold letA
      simp only
      rw [vals_len]
      exact this
end Go.Proofs.Ytnlinlodgpbnlaa.bdo
