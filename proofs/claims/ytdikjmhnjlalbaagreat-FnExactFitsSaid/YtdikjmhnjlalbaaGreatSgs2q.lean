/- l04Signs, l04Mac2 of the model. -/
import Derived.Test.YtdikjmhnjlalbaaGreatQp
import Derived.Deep.RegionWith
namespace Go.Proofs.YtdikjmhnjlalbaaGreat.sgs
open Go.RowKit Go.Proofs.YtdikjmhnjlalbaaGreat.tm Go.Proofs.YtdikjmhnjlalbaaGreat.lib Go.Proofs.YtdikjmhnjlalbaaGreat.rdr Go.Proofs.YtdikjmhnjlalbaaGreat.bld Go.Proofs.YtdikjmhnjlalbaaGreat.app Go.Proofs.YtdikjmhnjlalbaaGreat.mrk Go.Proofs.YtdikjmhnjlalbaaGreat.mrs Go.Proofs.YtdikjmhnjlalbaaGreat.ltq Go.Proofs.YtdikjmhnjlalbaaGreat.ltv Go.Proofs.YtdikjmhnjlalbaaGreat.ltp Go.Proofs.YtdikjmhnjlalbaaGreat.lsm
set_option linter.unusedVariables false

set_option maxHeartbeats 1000000 in
set_option maxRecDepth 100000 in
theorem signs_calls (m : Lt) (v : Value) (w : World) (h : Rds w v m.ps) (hl : m.ps.length ≤ 2000000) (hx : ∀ x ∈ m.ps, x.length ≤ 4000000) (ha : m.a.length ≤ 4000000) (hb : m.b.length ≤ 4000000) :
    Calls Tryz.prog 32 #[.agg (letA m v)] w fun e w' => e = .returned (.bool (signs m)) ∧ Below w.heap.size w w' := by
  have hr := fun w' (k : Below w.heap.size w w') => lsa.specRight_calls m v w' (Rds.below h k) hl hx ha hb
  obtain ⟨ad, cap, hv⟩ := lsa.rds_form h
  cases hm : right m with
  | false =>
    have : signs m = false := by unfold signs; rw [hm]; rfl
    rw [this]
    rw [hm] at hr
    have HR := Lib.hid hr
    obtain ⟨k, f, t, c, ps, a, b⟩ := m
    subst hv
    unfold letA at HR ⊢
    simp only at HR ⊢
    clear h hr hx ha hb hm hl this
    go_enter Tryz.func32, Tryz.ntmps32
    go_wp2_with fail
    refine (HR.out _ (new1 _ _)).mono ?_
    rintro e w1 ⟨rfl, hb1⟩
    have HB1 := Lib.hid ((new1 _ _).trans (hb1.mono (by simp)))
    clear hb1
    go_wp2_with fail
    go_ret
    exact ⟨rfl, HB1.out⟩
  | true =>
    have hk : isKind m.k = true := by unfold right at hm; simp only [Bool.and_eq_true] at hm; exact hm.1.1.1
    have hn : m.k = 1 ∨ m.k = 2 ∨ m.k = 3 ∨ m.k = 4 := by unfold isKind at hk; simp at hk; omega
    have hs : signs m = decide (m.k ≤ 2) := by
      unfold signs signed
      rw [hm, Bool.true_and]
      rcases hn with h | h | h | h <;> rw [h] <;> decide
    rw [hs]
    rw [hm] at hr
    have HR := Lib.hid hr
    obtain ⟨k, f, t, c, ps, a, b⟩ := m
    subst hv
    unfold letA at HR ⊢
    simp only at HR ⊢
    clear h hr hx ha hb hm hl hs hk hn
    go_enter Tryz.func32, Tryz.ntmps32
    go_wp2_with fail
    refine (HR.out _ (new1 _ _)).mono ?_
    rintro e w1 ⟨rfl, hb1⟩
    have X1 := Lib.hid (keptB (heap_alloc_new w _) hb1)
    obtain ⟨p0, p1, p2, p3, p4, p5, p6, pz⟩ := seven X1.out
    have HB1 := Lib.hid ((new1 _ _).trans (hb1.mono (by simp)))
    clear hb1
    go_wp2_with fail
    go_ret
    exact ⟨rfl, HB1.out⟩

set_option maxHeartbeats 1000000 in
set_option maxRecDepth 100000 in
theorem mac2_calls (m : Lt) (v : Value) (cookie : Bs) (w : World) (h : Rds w v m.ps) (hr : right m = true) (hL : cookie.length ≤ 3000) (hal : m.a.length ≤ 3000) :
    Calls Tryz.prog 33 #[.agg (letA m v), str cookie] w fun e w' => e = .returned (str (mac2 m cookie)) ∧ Below w.heap.size w w' := by
  have hbd := fun w' (k : Below w.heap.size w w') => bdm.l04Body_calls m v w' (Rds.below h k) hr
  have hbl := body_len hr
  obtain ⟨ad, cap, hv⟩ := lsa.rds_form h
  unfold mac2
  obtain ⟨B, hB⟩ : ∃ B, B = body m.ps := ⟨_, rfl⟩
  simp only [← hB] at hbd hbl ⊢
  have sy := fun (w : World) (b : Nat) h0 h1 => ssy.say_two oPair B m.a b 0 2 w h0 h1 (by decide) (by omega) (by omega)
  obtain ⟨PP, hPP⟩ : ∃ M, M = say oPair [B, m.a] := ⟨_, rfl⟩
  have hpl : PP.length ≤ 20000 := by rw [hPP]; simp [say, oPair]; omega
  simp only [← hPP] at sy ⊢
  have sz := fun (w : World) (b : Nat) h0 h1 => ssy.say_two oMac cookie PP b 0 2 w h0 h1 (by decide) (by omega) (by omega)
  obtain ⟨M, hM⟩ : ∃ M, M = say oMac [cookie, PP] := ⟨_, rfl⟩
  simp only [← hM] at sz ⊢
  have BD := Lib.hid hbd
  have SY := Lib.hid sy
  have SZ := Lib.hid sz
  unfold oPair at SY
  unfold oMac at SZ
  obtain ⟨k, f, t, c, ps, a, b⟩ := m
  subst hv
  unfold letA at BD ⊢
  simp only at BD SY ⊢
  obtain ⟨n, hn⟩ : ∃ n, n = ps.length := ⟨_, rfl⟩
  rw [← hn] at BD ⊢
  clear h hr hL hbd hbl hB sy sz hM hn hal hPP hpl
  have X0 := Lib.hid (heap_alloc_new w (.cells #[.int .i64 k, .int .i64 f, .int .i64 t, .int .i64 c, .slice ad n cap, str a, str b] 35))
  have HD := Lib.hid ((new1 w (.cells #[.int .i64 k, .int .i64 f, .int .i64 t, .int .i64 c, .slice ad n cap, str a, str b] 35)).trans ((Still.drewN _ 1).below _))
  have XD := Lib.hid (show ((w.alloc (.cells #[.int .i64 k, .int .i64 f, .int .i64 t, .int .i64 c, .slice ad n cap, str a, str b] 35)).drew).heap[w.heap.size]? = _ from X0.out)
  go_enter Tryz.func33, Tryz.ntmps33
  go_wp2_with fail
  go_region_with (first
    | (go_at_call 44; refine (BD.out _ HD.out).mono ?_; rintro e w3 ⟨rfl, hb3⟩; have X3 := Lib.hid (keptB XD.out hb3); have HB3 := Lib.hid (HD.out.trans (hb3.mono HD.out.size)); obtain ⟨r0, r1, r2, r3, r4, r5, r6, rz⟩ := seven X3.out; clear hb3)
    | (go_at_call 34; have gg := HB4.out; clear gg; refine (SZ.out _ _ (by simp [go_sem]) (by simp [go_sem])).mono ?_; rintro e w5 ⟨rfl, hb5⟩; have HB5 := Lib.hid ((HB4.out.alloc HB4.out.size (.cells #[str cookie, str PP] 9)).trans (hb5.mono (by have := HB4.out.size; simp; omega))); clear hb5)
    | (go_at_call 34; refine (SY.out _ _ (by simp [go_sem]) (by simp [go_sem])).mono ?_; rintro e w4 ⟨rfl, hb4⟩; have HB4 := Lib.hid ((HB3.out.alloc HB3.out.size (.cells #[str B, str a] 9)).trans (hb4.mono (by have := HB3.out.size; simp; omega))); clear hb4))
  all_goals (go_wp2_with fail; go_ret; exact ⟨rfl, HB5.out⟩)
end Go.Proofs.YtdikjmhnjlalbaaGreat.sgs
