/- SignTwice of the program (written by wip/gen_sgn.py). -/
import Derived.Test.YtdikjmhnjlalbaaGreatQo
import Derived.Test.YtdikjmhnjlalbaaGreatQn
import Derived.Deep.RegionWith
namespace Go.Proofs.YtdikjmhnjlalbaaGreat.sgn
open Go.RowKit Go.Proofs.YtdikjmhnjlalbaaGreat.tm Go.Proofs.YtdikjmhnjlalbaaGreat.lib Go.Proofs.YtdikjmhnjlalbaaGreat.rdr Go.Proofs.YtdikjmhnjlalbaaGreat.bld Go.Proofs.YtdikjmhnjlalbaaGreat.app Go.Proofs.YtdikjmhnjlalbaaGreat.mrk Go.Proofs.YtdikjmhnjlalbaaGreat.mrs Go.Proofs.YtdikjmhnjlalbaaGreat.mkp Go.Proofs.YtdikjmhnjlalbaaGreat.ltq Go.Proofs.YtdikjmhnjlalbaaGreat.ltv Go.Proofs.YtdikjmhnjlalbaaGreat.ltp Go.Proofs.YtdikjmhnjlalbaaGreat.lri Go.Proofs.YtdikjmhnjlalbaaGreat.sgi
set_option linter.unusedVariables false

set_option maxHeartbeats 2000000 in
set_option maxRecDepth 100000 in
theorem implTwice_calls (m : Lt) (v : Value) (lock : Bs) (w : World) (h : Rds w v m.ps) (hl : m.ps.length ≤ 2000000) (hx : ∀ x ∈ m.ps, x.length ≤ 4000000) (ha : m.a.length ≤ 4000000) (hb : m.b.length ≤ 4000000) (hlk : lock.length ≤ 4000000) :
    Calls Tryz.prog 41 #[.agg (letA m v), str lock] w fun e w' => ∃ u, e = .returned (.agg (outA (twiceR m lock).1 u (twiceR m lock).2)) ∧ Below w.heap.size w w' ∧ Wrs w' w.heap.size u (twiceR m lock).1.ps := by
  have hsg := fun w' (k : Below w.heap.size w w') => signable_calls m v w' (Rds.below h k) hl hx ha hb
  have hbd := fun w' (k : Below w.heap.size w w') => bdo.implBody_calls m v w' (Rds.below h k) hl hx ha hb
  have hwm := fun x y w' (k : Below w.heap.size w w') h1 h2 => withMacs_calls m v x y w' (Rds.below h k) h1 h2
  obtain ⟨ad, cap, hv⟩ := rds_form h
  unfold twiceR
  by_cases h8 : 8000 < lock.length
  · rw [if_pos h8]
    have t1 := iop.tooLong_calls lock hlk true (by simpa using h8)
    obtain ⟨k, f, t, c, ps, a, b⟩ := m
    subst hv
    unfold letA outA none0
    simp only
    obtain ⟨n, hn⟩ : ∃ n, n = ps.length := ⟨_, rfl⟩
    rw [← hn]
    clear h hl hx ha hb hsg hbd hwm h8 hlk hn
    go_enter Tryz.func41, Tryz.ntmps41
    go_wp2_with (go_at_call 49; refine (t1 _).mono ?_; rintro e w' ⟨rfl, rfl⟩)
    refine bodyPost_ret (v := .agg #[.int .i64 0, .int .i64 0, .int .i64 0, .int .i64 0, .slice none 0 0, .string ⟨#[]⟩, .string ⟨#[]⟩, .int .i64 2]) (by simp [results, Tryz.results41, go_sem]) rfl ⟨_, rfl, (new1 _ _).alloc (by simp) _, .inl ⟨rfl, _, _, rfl⟩⟩
  rw [if_neg h8]
  have t1 := iop.tooLong_calls lock hlk false (by simpa using h8)

  obtain ⟨sg, hsgn⟩ : ∃ s, s = signs m := ⟨_, rfl⟩
  have hsg2 := hsgn
  simp only [← hsgn] at hsg ⊢
  cases sg with
  | false =>
    simp only [Bool.false_and, Bool.false_eq_true, if_false]
    have SG := Lib.hid hsg
    obtain ⟨k, f, t, c, ps, a, b⟩ := m
    subst hv
    unfold letA at SG ⊢
    unfold outA none0
    simp only at SG  ⊢
    obtain ⟨n, hn⟩ : ∃ n, n = ps.length := ⟨_, rfl⟩
    rw [← hn] at SG ⊢
    clear h hl hx ha hb hsg hbd hwm h8 hlk hn hsgn hsg2
    go_enter Tryz.func41, Tryz.ntmps41
    go_wp2_with (go_at_call 49; refine (t1 _).mono ?_; rintro e w' ⟨rfl, rfl⟩)
    have A2 := alloc2 w (.cells #[.int .i64 k, .int .i64 f, .int .i64 t, .int .i64 c, .slice ad n cap, str a, str b] 35) (.cells #[.int .i64 0, .int .i64 0, .int .i64 0, .int .i64 0, .slice none 0 0, .string ⟨#[]⟩, .string ⟨#[]⟩, .int .i64 0] 62)
    have X0 := Lib.hid A2.1
    have Y0 := Lib.hid A2.2
    have HB0 := Lib.hid ((new1 w (.cells #[.int .i64 k, .int .i64 f, .int .i64 t, .int .i64 c, .slice ad n cap, str a, str b] 35)).alloc (by simp) (.cells #[.int .i64 0, .int .i64 0, .int .i64 0, .int .i64 0, .slice none 0 0, .string ⟨#[]⟩, .string ⟨#[]⟩, .int .i64 0] 62))
    clear A2
    refine (SG.out _ HB0.out).mono ?_
    rintro e w1 ⟨rfl, hb1⟩
    have X1 := Lib.hid (keptB X0.out hb1)
    have Y1 := Lib.hid (keptB Y0.out hb1)
    have HB1 := Lib.hid (HB0.out.trans (hb1.mono HB0.out.size))
    clear hb1
    obtain ⟨p0, p1, p2, p3, p4, p5, p6, pz⟩ := seven X1.out
    obtain ⟨q0, q1, q2, q3, q4, q5, q6, q7, qz, qf⟩ := eight Y1.out
    go_wp2_with fail
    refine bodyPost_ret (v := .agg #[.int .i64 0, .int .i64 0, .int .i64 0, .int .i64 0, .slice none 0 0, .string ⟨#[]⟩, .string ⟨#[]⟩, .int .i64 1]) (by simp [results, Tryz.results41, go_sem, q0, q1, q2, q3, q4, q5, q6, q7]) rfl ⟨_, rfl, ?_, .inl ⟨rfl, _, _, rfl⟩⟩
    exact set8 HB1.out (by simp) _ _ _ _ _ _ _ _

  | true =>
    simp only [Bool.true_and]
    have hr := signs_right hsg2.symm
    obtain ⟨hps, hpl⟩ := right_ps hr
    have hp3 := parts_pos m.k
    by_cases hma : m.a = []
    · have : (decide (m.a ≠ []) && okT lock) = false := by simp [hma]
      rw [this]
      simp only [Bool.false_eq_true, if_false]
      have SG := Lib.hid hsg
      obtain ⟨k, f, t, c, ps, a, b⟩ := m
      subst hv
      unfold letA at SG ⊢
      unfold outA none0
      simp only at SG hma ⊢
      obtain ⟨n, hn⟩ : ∃ n, n = ps.length := ⟨_, rfl⟩
      rw [← hn] at SG ⊢
      obtain ⟨da1, da2⟩ := Go.Proofs.YtdikjmhnjlalbaaGreat.lri.e_yes hma
      clear hma h hl hx ha hb hsg hbd hwm h8 hlk hn hsgn hsg2 this hr hps hpl hp3
      go_enter Tryz.func41, Tryz.ntmps41
      go_wp2_with (go_at_call 49; refine (t1 _).mono ?_; rintro e w' ⟨rfl, rfl⟩)
      have A2 := alloc2 w (.cells #[.int .i64 k, .int .i64 f, .int .i64 t, .int .i64 c, .slice ad n cap, str a, str b] 35) (.cells #[.int .i64 0, .int .i64 0, .int .i64 0, .int .i64 0, .slice none 0 0, .string ⟨#[]⟩, .string ⟨#[]⟩, .int .i64 0] 62)
      have X0 := Lib.hid A2.1
      have Y0 := Lib.hid A2.2
      have HB0 := Lib.hid ((new1 w (.cells #[.int .i64 k, .int .i64 f, .int .i64 t, .int .i64 c, .slice ad n cap, str a, str b] 35)).alloc (by simp) (.cells #[.int .i64 0, .int .i64 0, .int .i64 0, .int .i64 0, .slice none 0 0, .string ⟨#[]⟩, .string ⟨#[]⟩, .int .i64 0] 62))
      clear A2
      refine (SG.out _ HB0.out).mono ?_
      rintro e w1 ⟨rfl, hb1⟩
      have X1 := Lib.hid (keptB X0.out hb1)
      have Y1 := Lib.hid (keptB Y0.out hb1)
      have HB1 := Lib.hid (HB0.out.trans (hb1.mono HB0.out.size))
      clear hb1
      obtain ⟨p0, p1, p2, p3, p4, p5, p6, pz⟩ := seven X1.out
      obtain ⟨q0, q1, q2, q3, q4, q5, q6, q7, qz, qf⟩ := eight Y1.out
      go_wp2_with fail
      refine bodyPost_ret (v := .agg #[.int .i64 0, .int .i64 0, .int .i64 0, .int .i64 0, .slice none 0 0, .string ⟨#[]⟩, .string ⟨#[]⟩, .int .i64 1]) (by simp [results, Tryz.results41, go_sem, q0, q1, q2, q3, q4, q5, q6, q7]) rfl ⟨_, rfl, ?_, .inl ⟨rfl, _, _, rfl⟩⟩
      exact set8 HB1.out (by simp) _ _ _ _ _ _ _ _

    have hda : decide (m.a ≠ []) = true := by simpa using hma
    have hoa := mac_ok hsg2.symm hma
    have hal := okT_len hoa
    obtain ⟨da1, da2⟩ := Go.Proofs.YtdikjmhnjlalbaaGreat.lri.e_no hma
    rw [hda, Bool.true_and]
    cases hL : okT lock with
    | false =>
      simp only [Bool.false_eq_true, if_false]
      have ir := fun w => gky.iright_any lock false hL hlk w
      have IR := Lib.hid ir
      have SG := Lib.hid hsg
      obtain ⟨k, f, t, c, ps, a, b⟩ := m
      subst hv
      unfold letA at SG ⊢
      unfold outA none0
      simp only at SG da1 da2 ⊢
      obtain ⟨n, hn⟩ : ∃ n, n = ps.length := ⟨_, rfl⟩
      rw [← hn] at SG ⊢
      clear h hl hx ha hb hsg hbd hwm h8 hlk hn hsgn hsg2 ir hr hps hpl hp3 hL hma hda hoa hal
      go_enter Tryz.func41, Tryz.ntmps41
      go_wp2_with (go_at_call 49; refine (t1 _).mono ?_; rintro e w' ⟨rfl, rfl⟩)
      have A2 := alloc2 w (.cells #[.int .i64 k, .int .i64 f, .int .i64 t, .int .i64 c, .slice ad n cap, str a, str b] 35) (.cells #[.int .i64 0, .int .i64 0, .int .i64 0, .int .i64 0, .slice none 0 0, .string ⟨#[]⟩, .string ⟨#[]⟩, .int .i64 0] 62)
      have X0 := Lib.hid A2.1
      have Y0 := Lib.hid A2.2
      have HB0 := Lib.hid ((new1 w (.cells #[.int .i64 k, .int .i64 f, .int .i64 t, .int .i64 c, .slice ad n cap, str a, str b] 35)).alloc (by simp) (.cells #[.int .i64 0, .int .i64 0, .int .i64 0, .int .i64 0, .slice none 0 0, .string ⟨#[]⟩, .string ⟨#[]⟩, .int .i64 0] 62))
      clear A2
      refine (SG.out _ HB0.out).mono ?_
      rintro e w1 ⟨rfl, hb1⟩
      have X1 := Lib.hid (keptB X0.out hb1)
      have Y1 := Lib.hid (keptB Y0.out hb1)
      have HB1 := Lib.hid (HB0.out.trans (hb1.mono HB0.out.size))
      clear hb1
      obtain ⟨p0, p1, p2, p3, p4, p5, p6, pz⟩ := seven X1.out
      obtain ⟨q0, q1, q2, q3, q4, q5, q6, q7, qz, qf⟩ := eight Y1.out
      go_wp2_with fail
      refine (IR.out _).mono ?_
      rintro e w2 ⟨rfl, hb2⟩
      clear p0 p1 p2 p3 p4 p5 p6 pz q0 q1 q2 q3 q4 q5 q6 q7 qz qf
      have X2 := Lib.hid (keptB X1.out hb2)
      have Y2 := Lib.hid (keptB Y1.out hb2)
      have HB2 := Lib.hid (HB1.out.trans (hb2.mono HB1.out.size))
      clear hb2
      obtain ⟨p0, p1, p2, p3, p4, p5, p6, pz⟩ := seven X2.out
      obtain ⟨q0, q1, q2, q3, q4, q5, q6, q7, qz, qf⟩ := eight Y2.out
      go_wp2_with fail
      refine bodyPost_ret (v := .agg #[.int .i64 0, .int .i64 0, .int .i64 0, .int .i64 0, .slice none 0 0, .string ⟨#[]⟩, .string ⟨#[]⟩, .int .i64 1]) (by simp [results, Tryz.results41, go_sem, q0, q1, q2, q3, q4, q5, q6, q7]) rfl ⟨_, rfl, ?_, .inl ⟨rfl, _, _, rfl⟩⟩
      exact set8 HB2.out (by simp) _ _ _ _ _ _ _ _

    | true =>
      simp only [if_true]
      have ir := fun w => gky.iright_any lock true hL hlk w
      have hbl := body_len hr
      have hbe : bdr.bodyR m = body m.ps := by unfold bdr.bodyR; rw [if_pos hr]
      simp only [hbe] at hbd
      have hmk := mac2_made (cookie := lock) hr hoa hL
      have hpp := gky.made_len oPair [body m.ps, m.a]
      obtain ⟨PP, hPP⟩ : ∃ P, (makeR oPair [body m.ps, m.a]).1 = P := ⟨_, rfl⟩
      rw [hPP] at hmk hpp
      obtain ⟨B, hB⟩ : ∃ B, B = body m.ps := ⟨_, rfl⟩
      rw [← hB] at hbl hPP
      simp only [← hB] at hbd
      have mk := fun (w : World) (b : Nat) h0 h1 hb => gky.madeTwo oPair B m.a b 2 w h0 h1 hb (by decide) (by omega) (by omega) _ hPP
      have ml := fun (w : World) (b : Nat) h0 h1 hb => gky.madeTwo oMac lock PP b 2 w h0 h1 hb (by decide) hlk (by omega) _ hmk
      have hw2 := fun x y w' (k : Below w.heap.size w w') => hwm x y w' k (by omega) (fun x hx => okT_len (List.all_eq_true.1 hps x hx))
      obtain ⟨M, hM⟩ : ∃ M, M = mac2 m lock := ⟨_, rfl⟩
      simp only [← hM] at ml ⊢
      have hne : M ≠ [] := by rw [hM]; exact say_ne _ _
      have cl := fun w => clo.clone_calls ⟨m.a.toArray⟩ (by show m.a.toArray.size ≤ _; simp; omega) w
      have CL := Lib.hid cl
      cases hO : okT M with
      | false =>
        simp only [hO, Bool.false_eq_true, if_false] at ml ⊢
        have SG := Lib.hid hsg
        have IR := Lib.hid ir
        have BD := Lib.hid hbd
        have MK := Lib.hid mk
        have ML := Lib.hid ml
        unfold oPair at MK
        unfold oMac at ML
        obtain ⟨k, f, t, c, ps, a, b⟩ := m
        subst hv
        unfold letA at SG BD ⊢
        unfold outA none0
        simp only at SG BD MK da1 da2 ⊢
        obtain ⟨n, hn⟩ : ∃ n, n = ps.length := ⟨_, rfl⟩
        rw [← hn] at SG BD ⊢
        clear h hl hx ha hb hsg hbd hwm h8 hlk hn hsgn hsg2 ir hr hps hpl hp3 hL hB hbl hbe hmk mk ml hM hne hO hw2 hpp hPP hma hda hoa hal cl CL
        go_enter Tryz.func41, Tryz.ntmps41
        go_wp2_with (go_at_call 49; refine (t1 _).mono ?_; rintro e w' ⟨rfl, rfl⟩)
        have A2 := alloc2 w (.cells #[.int .i64 k, .int .i64 f, .int .i64 t, .int .i64 c, .slice ad n cap, str a, str b] 35) (.cells #[.int .i64 0, .int .i64 0, .int .i64 0, .int .i64 0, .slice none 0 0, .string ⟨#[]⟩, .string ⟨#[]⟩, .int .i64 0] 62)
        have X0 := Lib.hid A2.1
        have Y0 := Lib.hid A2.2
        have HB0 := Lib.hid ((new1 w (.cells #[.int .i64 k, .int .i64 f, .int .i64 t, .int .i64 c, .slice ad n cap, str a, str b] 35)).alloc (by simp) (.cells #[.int .i64 0, .int .i64 0, .int .i64 0, .int .i64 0, .slice none 0 0, .string ⟨#[]⟩, .string ⟨#[]⟩, .int .i64 0] 62))
        clear A2
        refine (SG.out _ HB0.out).mono ?_
        rintro e w1 ⟨rfl, hb1⟩
        have X1 := Lib.hid (keptB X0.out hb1)
        have Y1 := Lib.hid (keptB Y0.out hb1)
        have HB1 := Lib.hid (HB0.out.trans (hb1.mono HB0.out.size))
        clear hb1
        obtain ⟨p0, p1, p2, p3, p4, p5, p6, pz⟩ := seven X1.out
        obtain ⟨q0, q1, q2, q3, q4, q5, q6, q7, qz, qf⟩ := eight Y1.out
        go_wp2_with fail
        refine (IR.out _).mono ?_
        rintro e w2 ⟨rfl, hb2⟩
        clear p0 p1 p2 p3 p4 p5 p6 pz q0 q1 q2 q3 q4 q5 q6 q7 qz qf
        have X2 := Lib.hid (keptB X1.out hb2)
        have Y2 := Lib.hid (keptB Y1.out hb2)
        have HB2 := Lib.hid (HB1.out.trans (hb2.mono HB1.out.size))
        clear hb2
        obtain ⟨p0, p1, p2, p3, p4, p5, p6, pz⟩ := seven X2.out
        obtain ⟨q0, q1, q2, q3, q4, q5, q6, q7, qz, qf⟩ := eight Y2.out
        have HD2 := Lib.hid (HB2.out.trans ((Still.drewN w2 1).below _))
        have XD2 := Lib.hid (show (w2.drew).heap[w.heap.size]? = _ from X2.out)
        have YD2 := Lib.hid (show (w2.drew).heap[w.heap.size + 1]? = _ from Y2.out)
        go_wp2_with fail
        go_region_with (first
          | (go_at_call 51; refine (BD.out _ HD2.out).mono ?_; rintro e w3 ⟨rfl, hb3⟩; have X3 := Lib.hid (keptB XD2.out hb3); have Y3 := Lib.hid (keptB YD2.out hb3); have HB3 := Lib.hid (HD2.out.trans (hb3.mono HD2.out.size)); obtain ⟨r0, r1, r2, r3, r4, r5, r6, rz⟩ := seven X3.out; clear hb3)
          | (go_at_call 42; have gg := X4.out; clear gg; refine (ML.out _ _ (by simp [go_sem]) (by simp [go_sem]) (by simp)).mono ?_; rintro e w5 ⟨rfl, hb5⟩; have X5 := Lib.hid (keptB (keptB X4.out (new1 _ _)) hb5); have Y5 := Lib.hid (keptB (keptB Y4.out (new1 _ _)) hb5); have HB5 := Lib.hid ((HB4.out.alloc HB4.out.size (.cells #[str lock, str PP] 9)).trans (hb5.mono (by have := HB4.out.size; simp; omega))); clear hb5)
          | (go_at_call 42; refine (MK.out _ _ (by simp [go_sem]) (by simp [go_sem]) (by simp)).mono ?_; rintro e w4 ⟨rfl, hb4⟩; have X4 := Lib.hid (keptB (keptB X3.out (new1 _ _)) hb4); have Y4 := Lib.hid (keptB (keptB Y3.out (new1 _ _)) hb4); have HB4 := Lib.hid ((HB3.out.alloc HB3.out.size (.cells #[str B, str a] 9)).trans (hb4.mono (by have := HB3.out.size; simp; omega))); clear hb4))
        all_goals clear p0 p1 p2 p3 p4 p5 p6 pz q0 q1 q2 q3 q4 q5 q6 q7 qz qf
        all_goals (obtain ⟨p0, p1, p2, p3, p4, p5, p6, pz⟩ := seven X5.out; obtain ⟨q0, q1, q2, q3, q4, q5, q6, q7, qz, qf⟩ := eight Y5.out; go_wp2_with fail; refine bodyPost_ret (v := .agg #[.int .i64 0, .int .i64 0, .int .i64 0, .int .i64 0, .slice none 0 0, .string ⟨#[]⟩, .string ⟨#[]⟩, .int .i64 9]) (by simp [results, Tryz.results41, go_sem, q0, q1, q2, q3, q4, q5, q6, q7]) rfl ⟨_, rfl, ?_, .inl ⟨rfl, _, _, rfl⟩⟩; exact set8 HB5.out (by simp) _ _ _ _ _ _ _ _)

      | true =>
        simp only [hO, if_true] at ml ⊢
        obtain ⟨d1, d2⟩ := Go.Proofs.YtdikjmhnjlalbaaGreat.lri.e_no hne
        have SG := Lib.hid hsg
        have IR := Lib.hid ir
        have BD := Lib.hid hbd
        have MK := Lib.hid mk
        have ML := Lib.hid ml
        have WM := Lib.hid (hw2 m.a M)
        unfold oPair at MK
        unfold oMac at ML
        obtain ⟨k, f, t, c, ps, a, b⟩ := m
        subst hv
        unfold letA at SG BD WM ⊢
        unfold outA
        simp only at SG BD WM MK CL da1 da2 ⊢
        obtain ⟨n, hn⟩ : ∃ n, n = ps.length := ⟨_, rfl⟩
        rw [← hn] at SG BD WM ⊢
        have HN := Lib.hid hn
        clear h hl hx ha hb hsg hbd hwm h8 hlk hn hsgn hsg2 ir hr hps hpl hp3 hL hB hbl hbe hmk mk ml hM hne hO hw2 hpp hPP hma hda hoa hal cl
        go_enter Tryz.func41, Tryz.ntmps41
        go_wp2_with (go_at_call 49; refine (t1 _).mono ?_; rintro e w' ⟨rfl, rfl⟩)
        have A2 := alloc2 w (.cells #[.int .i64 k, .int .i64 f, .int .i64 t, .int .i64 c, .slice ad n cap, str a, str b] 35) (.cells #[.int .i64 0, .int .i64 0, .int .i64 0, .int .i64 0, .slice none 0 0, .string ⟨#[]⟩, .string ⟨#[]⟩, .int .i64 0] 62)
        have X0 := Lib.hid A2.1
        have Y0 := Lib.hid A2.2
        have HB0 := Lib.hid ((new1 w (.cells #[.int .i64 k, .int .i64 f, .int .i64 t, .int .i64 c, .slice ad n cap, str a, str b] 35)).alloc (by simp) (.cells #[.int .i64 0, .int .i64 0, .int .i64 0, .int .i64 0, .slice none 0 0, .string ⟨#[]⟩, .string ⟨#[]⟩, .int .i64 0] 62))
        clear A2
        refine (SG.out _ HB0.out).mono ?_
        rintro e w1 ⟨rfl, hb1⟩
        have X1 := Lib.hid (keptB X0.out hb1)
        have Y1 := Lib.hid (keptB Y0.out hb1)
        have HB1 := Lib.hid (HB0.out.trans (hb1.mono HB0.out.size))
        clear hb1
        obtain ⟨p0, p1, p2, p3, p4, p5, p6, pz⟩ := seven X1.out
        obtain ⟨q0, q1, q2, q3, q4, q5, q6, q7, qz, qf⟩ := eight Y1.out
        go_wp2_with fail
        refine (IR.out _).mono ?_
        rintro e w2 ⟨rfl, hb2⟩
        clear p0 p1 p2 p3 p4 p5 p6 pz q0 q1 q2 q3 q4 q5 q6 q7 qz qf
        have X2 := Lib.hid (keptB X1.out hb2)
        have Y2 := Lib.hid (keptB Y1.out hb2)
        have HB2 := Lib.hid (HB1.out.trans (hb2.mono HB1.out.size))
        clear hb2
        obtain ⟨p0, p1, p2, p3, p4, p5, p6, pz⟩ := seven X2.out
        obtain ⟨q0, q1, q2, q3, q4, q5, q6, q7, qz, qf⟩ := eight Y2.out
        have HD2 := Lib.hid (HB2.out.trans ((Still.drewN w2 1).below _))
        have XD2 := Lib.hid (show (w2.drew).heap[w.heap.size]? = _ from X2.out)
        have YD2 := Lib.hid (show (w2.drew).heap[w.heap.size + 1]? = _ from Y2.out)
        go_wp2_with fail
        go_region_with (first
          | (go_at_call 51; refine (BD.out _ HD2.out).mono ?_; rintro e w3 ⟨rfl, hb3⟩; have X3 := Lib.hid (keptB XD2.out hb3); have Y3 := Lib.hid (keptB YD2.out hb3); have HB3 := Lib.hid (HD2.out.trans (hb3.mono HD2.out.size)); obtain ⟨r0, r1, r2, r3, r4, r5, r6, rz⟩ := seven X3.out; clear hb3)
          | (go_at_call 42; have gg := X4.out; clear gg; refine (ML.out _ _ (by simp [go_sem]) (by simp [go_sem]) (by simp)).mono ?_; rintro e w5 ⟨rfl, hb5⟩; have X5 := Lib.hid (keptB (keptB X4.out (new1 _ _)) hb5); have Y5 := Lib.hid (keptB (keptB Y4.out (new1 _ _)) hb5); have HB5 := Lib.hid ((HB4.out.alloc HB4.out.size (.cells #[str lock, str PP] 9)).trans (hb5.mono (by have := HB4.out.size; simp; omega))); clear hb5)
          | (go_at_call 42; refine (MK.out _ _ (by simp [go_sem]) (by simp [go_sem]) (by simp)).mono ?_; rintro e w4 ⟨rfl, hb4⟩; have X4 := Lib.hid (keptB (keptB X3.out (new1 _ _)) hb4); have Y4 := Lib.hid (keptB (keptB Y3.out (new1 _ _)) hb4); have HB4 := Lib.hid ((HB3.out.alloc HB3.out.size (.cells #[str B, str a] 9)).trans (hb4.mono (by have := HB3.out.size; simp; omega))); clear hb4))
        all_goals clear p0 p1 p2 p3 p4 p5 p6 pz q0 q1 q2 q3 q4 q5 q6 q7 qz qf
        all_goals (obtain ⟨p0, p1, p2, p3, p4, p5, p6, pz⟩ := seven X5.out; obtain ⟨q0, q1, q2, q3, q4, q5, q6, q7, qz, qf⟩ := eight Y5.out; have z5 : w.heap.size + 1 < w5.heap.size := qz; have HD5 := Lib.hid (HB5.out.trans ((Still.drewN w5 1).below _)); have YD5 := Lib.hid (show (w5.drew).heap[w.heap.size + 1]? = _ from Y5.out); have XD5 := Lib.hid (show (w5.drew).heap[w.heap.size]? = _ from X5.out); go_wp2_with fail; go_region_with (first | (go_at_call 53; refine (CL.out _).mono ?_; rintro e w6 ⟨rfl, hb6⟩; have Y6 := Lib.hid (keptB YD5.out hb6); have X6 := Lib.hid (keptB XD5.out hb6); have HB6 := Lib.hid (HD5.out.trans (hb6.mono HD5.out.size)); obtain ⟨r0, r1, r2, r3, r4, r5, r6, rz⟩ := seven X6.out; clear hb6) | (go_at_call 52; refine (WM.out _ HB6.out).mono ?_; rintro e w7 ⟨u, rfl, hb7, hw7⟩; have Y7 := Lib.hid (keptB Y6.out hb7); have HB7 := Lib.hid (HB6.out.trans (hb7.mono HB6.out.size)); obtain ⟨ua, uc, hu⟩ := rds_form hw7.rds; rw [← HN.out] at hu; subst hu; have HW7 := Lib.hid hw7; obtain ⟨s0, s1, s2, s3, s4, s5, s6, s7, sz, sf⟩ := eight Y7.out; clear hb7 hw7)))
        all_goals (go_wp2_with fail; have z6 : w.heap.size + 1 < w6.heap.size := (Array.getElem?_eq_some_iff.1 Y6.out).1; refine bodyPost_ret (v := .agg #[.int .i64 k, .int .i64 f, .int .i64 t, .int .i64 c, .slice ua n uc, str a, str M, .int .i64 0]) (by simp [results, Tryz.results41, go_sem, s0, s1, s2, s3, s4, s5, s6, s7]) rfl ⟨_, rfl, set8 HB7.out (by simp) _ _ _ _ _ _ _ _, wset8 HW7.out (by omega) (by omega) _ _ _ _ _ _ _ _⟩)


end Go.Proofs.YtdikjmhnjlalbaaGreat.sgn
