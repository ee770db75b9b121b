/- BodyOf of the model. -/
import Derived.Test.YtnlinlodgpbnlaaBds4
namespace Go.Proofs.Ytnlinlodgpbnlaa.bdm
open Go.RowKit Go.Proofs.Ytnlinlodgpbnlaa.tm Go.Proofs.Ytnlinlodgpbnlaa.lib Go.Proofs.Ytnlinlodgpbnlaa.rdr Go.Proofs.Ytnlinlodgpbnlaa.bld Go.Proofs.Ytnlinlodgpbnlaa.app Go.Proofs.Ytnlinlodgpbnlaa.mrk Go.Proofs.Ytnlinlodgpbnlaa.ltq Go.Proofs.Ytnlinlodgpbnlaa.ltv Go.Proofs.Ytnlinlodgpbnlaa.ltp Go.Proofs.Ytnlinlodgpbnlaa.lsm Go.Proofs.Ytnlinlodgpbnlaa.bdr
set_option linter.unusedVariables false

set_option maxHeartbeats 1000000 in
set_option maxRecDepth 100000 in
theorem specBody_calls (m : Lt) (v : Value) (w : World) (h : Rds w v m.ps) (hl : m.ps.length ≤ 2000000) (hx : ∀ x ∈ m.ps, x.length ≤ 4000000) (ha : m.a.length ≤ 4000000) (hb : m.b.length ≤ 4000000) :
    Calls Try.prog 11 #[.agg (letA m v)] w fun e w' => e = .returned (str (bodyR m)) ∧ Below w.heap.size w w' := by
  have hr := fun w' (k : Below w.heap.size w w') => lsa.specRight_calls m v w' (Rds.below h k) hl hx ha hb
  obtain ⟨ad, cap, hv⟩ := lsa.rds_form h
  unfold bodyR
  cases hm : right m with
  | false =>
    rw [hm] at hr
    simp only [Bool.false_eq_true, if_false]
    obtain ⟨k, f, t, c, ps, a, b⟩ := m
    have HR := Lib.hid hr
    subst hv
    unfold letA at HR ⊢
    simp only at HR ⊢
    clear h hr hx ha hb hm
    go_enter Try.func11, Try.ntmps11
    go_wp2_with fail
    refine (HR.out _ (new1 _ _)).mono ?_
    rintro e w1 ⟨rfl, hb1⟩
    have HB1 := Lib.hid ((new1 _ _).trans (hb1.mono (by simp)))
    clear hb1
    go_wp2_with fail
    go_ret
    exact ⟨rfl, HB1.out⟩
  | true =>
    rw [hm] at hr
    have hbd := fun w' (k : Below w.heap.size w w') => l04Body_calls m v w' (Rds.below h k) hm
    simp only [if_true]
    obtain ⟨k, f, t, c, ps, a, b⟩ := m
    obtain ⟨B, hB⟩ : ∃ B, B = body ps := ⟨_, rfl⟩
    simp only [← hB] at hbd ⊢
    have HR := Lib.hid hr
    have HD := Lib.hid hbd
    subst hv
    unfold letA at HR HD ⊢
    simp only at HR HD ⊢
    clear h hr hx ha hb hm hbd hB
    go_enter Try.func11, Try.ntmps11
    go_wp2_with fail
    refine (HR.out _ (new1 _ _)).mono ?_
    rintro e w1 ⟨rfl, hb1⟩
    have X1 := Lib.hid (keptB (heap_alloc_new w _) hb1)
    obtain ⟨p0, p1, p2, p3, p4, p5, p6, pz⟩ := seven X1.out
    have HB1 := Lib.hid ((new1 _ _).trans (hb1.mono (by simp)))
    clear hb1
    go_wp2_with fail
    refine (HD.out _ HB1.out).mono ?_
    rintro e w2 ⟨rfl, hb2⟩
    have HB2 := Lib.hid (HB1.out.trans (hb2.mono HB1.out.size))
    clear hb2
    go_wp2_with fail
    go_ret
    exact ⟨rfl, HB2.out⟩
end Go.Proofs.Ytnlinlodgpbnlaa.bdm
