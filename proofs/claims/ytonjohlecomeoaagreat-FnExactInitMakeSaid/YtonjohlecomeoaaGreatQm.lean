/- Several small texts, one behind the other. -/
import Derived.Test.YtonjohlecomeoaaGreatQj
import Derived.Test.YtonjohlecomeoaaGreatQl
import Derived.Deep.RegionWith
import Derived.Test.YtonjohlecomeoaaGreatQk
import Derived.Test.YtonjohlecomeoaaGreatQi

/- Contract of GateKey of the program. -/
namespace Go.Proofs.YtonjohlecomeoaaGreat.gky
open Go.RowKit Go.Proofs.YtonjohlecomeoaaGreat.tm Go.Proofs.YtonjohlecomeoaaGreat.lib Go.Proofs.YtonjohlecomeoaaGreat.rdr Go.Proofs.YtonjohlecomeoaaGreat.bld Go.Proofs.YtonjohlecomeoaaGreat.app Go.Proofs.YtonjohlecomeoaaGreat.sop Go.Proofs.YtonjohlecomeoaaGreat.mkp Go.Proofs.YtonjohlecomeoaaGreat.mrk Go.Proofs.YtonjohlecomeoaaGreat.ltp Go.Proofs.YtonjohlecomeoaaGreat.ltq Go.Proofs.YtonjohlecomeoaaGreat.ltv
set_option linter.unusedVariables false

set_option maxHeartbeats 1000000 in
set_option maxRecDepth 100000 in
theorem implGateKey_calls (lock : Bs) (hl : lock.length ≤ 4000000) (w : World) :
    Calls Tryz.prog 150 #[str lock] w fun e w' => e = .returned (str (gateR lock)) ∧ Below w.heap.size w w' := by
  rw [← gate_made lock]
  obtain ⟨P, hP⟩ : ∃ P, (makeR oPair [oGate, lock]).1 = P := ⟨_, rfl⟩
  rw [hP]
  have hPl : P.length ≤ 4000000 := by have := made_len oPair [oGate, lock]; rw [hP] at this; omega
  obtain ⟨G, hG⟩ : ∃ G, (makeR oHash [P]).1 = G := ⟨_, rfl⟩
  rw [hG]
  have c1 := fun (w : World) (b : Nat) h0 h1 hb => madeTwo oPair oGate lock b 2 w h0 h1 hb (by decide) (by decide) hl P hP
  have c2 := fun (w : World) (b : Nat) h0 hb => madeOne oHash P b 1 w h0 hb (by decide) hPl G hG
  have C1 := Lib.hid c1
  have C2 := Lib.hid c2
  unfold oPair oGate at C1
  unfold oHash at C2
  clear c1 c2 hP hG hPl
  go_enter Tryz.func150, Tryz.ntmps150
  go_wp2_with fail
  refine (C1.out _ _ (by simp [go_sem]) (by simp [go_sem]) (by simp)).mono ?_
  rintro e w1 ⟨rfl, hb1⟩
  have HB1 := Lib.hid (((Below.refl _ w).alloc (Nat.le_refl _) _).trans (hb1.mono (by simp)))
  clear hb1
  go_wp2_with fail
  refine (C2.out _ _ (by simp [go_sem]) (by simp)).mono ?_
  rintro e w2 ⟨rfl, hb2⟩
  have HB2 := Lib.hid ((HB1.out.alloc HB1.out.size _).trans (hb2.mono (by have := HB1.out.size; simp; omega)))
  clear hb2
  go_wp2_with fail
  go_ret
  exact ⟨rfl, HB2.out⟩


end Go.Proofs.YtonjohlecomeoaaGreat.gky

/- Sign and SignTwice of the program (written by wip/gen_sgn.py). -/
namespace Go.Proofs.YtonjohlecomeoaaGreat.sgn
open Go.RowKit Go.Proofs.YtonjohlecomeoaaGreat.tm Go.Proofs.YtonjohlecomeoaaGreat.lib Go.Proofs.YtonjohlecomeoaaGreat.rdr Go.Proofs.YtonjohlecomeoaaGreat.bld Go.Proofs.YtonjohlecomeoaaGreat.app Go.Proofs.YtonjohlecomeoaaGreat.mrk Go.Proofs.YtonjohlecomeoaaGreat.mrs Go.Proofs.YtonjohlecomeoaaGreat.mkp Go.Proofs.YtonjohlecomeoaaGreat.ltq Go.Proofs.YtonjohlecomeoaaGreat.ltv Go.Proofs.YtonjohlecomeoaaGreat.ltp Go.Proofs.YtonjohlecomeoaaGreat.lri Go.Proofs.YtonjohlecomeoaaGreat.sgi
set_option linter.unusedVariables false

set_option maxHeartbeats 2000000 in
set_option maxRecDepth 100000 in
theorem implSign_calls (m : Lt) (v : Value) (lock : Bs) (w : World) (h : Rds w v m.ps) (hl : m.ps.length ≤ 2000000) (hx : ∀ x ∈ m.ps, x.length ≤ 4000000) (ha : m.a.length ≤ 4000000) (hb : m.b.length ≤ 4000000) (hlk : lock.length ≤ 4000000) :
    Calls Tryz.prog 109 #[.agg (letA m v), str lock] w fun e w' => ∃ u, e = .returned (.agg (outA (signR m lock).1 u (signR m lock).2)) ∧ Below w.heap.size w w' ∧ Wrs w' w.heap.size u (signR m lock).1.ps := by
  have hsg := fun w' (k : Below w.heap.size w w') => signable_calls m v w' (Rds.below h k) hl hx ha hb
  have hbd := fun w' (k : Below w.heap.size w w') => bdo.implBody_calls m v w' (Rds.below h k) hl hx ha hb
  have hwm := fun x y w' (k : Below w.heap.size w w') h1 h2 => withMacs_calls m v x y w' (Rds.below h k) h1 h2
  obtain ⟨ad, cap, hv⟩ := rds_form h
  unfold signR
  by_cases h8 : 8000 < lock.length
  · rw [if_pos h8]
    have t1 := iop.tooLong_calls lock hlk true (by simpa using h8)
    obtain ⟨k, f, t, c, ps, a, b⟩ := m
    subst hv
    unfold letA outA none0
    simp only
    obtain ⟨n, hn⟩ : ∃ n, n = ps.length := ⟨_, rfl⟩
    rw [← hn]
    clear h hl hx ha hb hsg hbd hwm h8 hlk hn
    go_enter Tryz.func109, Tryz.ntmps109
    go_wp2_with (go_at_call 102; refine (t1 _).mono ?_; rintro e w' ⟨rfl, rfl⟩)
    refine bodyPost_ret (v := .agg #[.int .i64 0, .int .i64 0, .int .i64 0, .int .i64 0, .slice none 0 0, .string ⟨#[]⟩, .string ⟨#[]⟩, .int .i64 2]) (by simp [results, Tryz.results109, go_sem]) rfl ⟨_, rfl, (new1 _ _).alloc (by simp) _, .inl ⟨rfl, _, _, rfl⟩⟩
  rw [if_neg h8]
  have t1 := iop.tooLong_calls lock hlk false (by simpa using h8)

  obtain ⟨sg, hsgn⟩ : ∃ s, s = signs m := ⟨_, rfl⟩
  have hsg2 := hsgn
  simp only [← hsgn] at hsg ⊢
  cases sg with
  | false =>
    simp only [Bool.false_and, Bool.false_eq_true, if_false]
    have SG := Lib.hid hsg
    obtain ⟨k, f, t, c, ps, a, b⟩ := m
    subst hv
    unfold letA at SG ⊢
    unfold outA none0
    simp only at SG ⊢
    obtain ⟨n, hn⟩ : ∃ n, n = ps.length := ⟨_, rfl⟩
    rw [← hn] at SG ⊢
    clear h hl hx ha hb hsg hbd hwm h8 hlk hn hsgn hsg2
    go_enter Tryz.func109, Tryz.ntmps109
    go_wp2_with (go_at_call 102; refine (t1 _).mono ?_; rintro e w' ⟨rfl, rfl⟩)
    have A2 := alloc2 w (.cells #[.int .i64 k, .int .i64 f, .int .i64 t, .int .i64 c, .slice ad n cap, str a, str b] 24) (.cells #[.int .i64 0, .int .i64 0, .int .i64 0, .int .i64 0, .slice none 0 0, .string ⟨#[]⟩, .string ⟨#[]⟩, .int .i64 0] 71)
    have X0 := Lib.hid A2.1
    have Y0 := Lib.hid A2.2
    have HB0 := Lib.hid ((new1 w (.cells #[.int .i64 k, .int .i64 f, .int .i64 t, .int .i64 c, .slice ad n cap, str a, str b] 24)).alloc (by simp) (.cells #[.int .i64 0, .int .i64 0, .int .i64 0, .int .i64 0, .slice none 0 0, .string ⟨#[]⟩, .string ⟨#[]⟩, .int .i64 0] 71))
    clear A2
    refine (SG.out _ HB0.out).mono ?_
    rintro e w1 ⟨rfl, hb1⟩
    have X1 := Lib.hid (keptB X0.out hb1)
    have Y1 := Lib.hid (keptB Y0.out hb1)
    have HB1 := Lib.hid (HB0.out.trans (hb1.mono HB0.out.size))
    clear hb1
    obtain ⟨p0, p1, p2, p3, p4, p5, p6, pz⟩ := seven X1.out
    obtain ⟨q0, q1, q2, q3, q4, q5, q6, q7, qz, qf⟩ := eight Y1.out
    go_wp2_with fail
    refine bodyPost_ret (v := .agg #[.int .i64 0, .int .i64 0, .int .i64 0, .int .i64 0, .slice none 0 0, .string ⟨#[]⟩, .string ⟨#[]⟩, .int .i64 1]) (by simp [results, Tryz.results109, go_sem, q0, q1, q2, q3, q4, q5, q6, q7]) rfl ⟨_, rfl, ?_, .inl ⟨rfl, _, _, rfl⟩⟩
    exact set8 HB1.out (by simp) _ _ _ _ _ _ _ _

  | true =>
    simp only [Bool.true_and]
    have hr := signs_right hsg2.symm
    obtain ⟨hps, hpl⟩ := right_ps hr
    have hp3 := parts_pos m.k
    cases hL : okT lock with
    | false =>
      simp only [Bool.false_eq_true, if_false]
      have ir := fun w => gky.iright_any lock false hL hlk w
      have IR := Lib.hid ir
      have SG := Lib.hid hsg
      obtain ⟨k, f, t, c, ps, a, b⟩ := m
      subst hv
      unfold letA at SG ⊢
      unfold outA none0
      simp only at SG ⊢
      obtain ⟨n, hn⟩ : ∃ n, n = ps.length := ⟨_, rfl⟩
      rw [← hn] at SG ⊢
      clear h hl hx ha hb hsg hbd hwm h8 hlk hn hsgn hsg2 ir hr hps hpl hp3 hL
      go_enter Tryz.func109, Tryz.ntmps109
      go_wp2_with (go_at_call 102; refine (t1 _).mono ?_; rintro e w' ⟨rfl, rfl⟩)
      have A2 := alloc2 w (.cells #[.int .i64 k, .int .i64 f, .int .i64 t, .int .i64 c, .slice ad n cap, str a, str b] 24) (.cells #[.int .i64 0, .int .i64 0, .int .i64 0, .int .i64 0, .slice none 0 0, .string ⟨#[]⟩, .string ⟨#[]⟩, .int .i64 0] 71)
      have X0 := Lib.hid A2.1
      have Y0 := Lib.hid A2.2
      have HB0 := Lib.hid ((new1 w (.cells #[.int .i64 k, .int .i64 f, .int .i64 t, .int .i64 c, .slice ad n cap, str a, str b] 24)).alloc (by simp) (.cells #[.int .i64 0, .int .i64 0, .int .i64 0, .int .i64 0, .slice none 0 0, .string ⟨#[]⟩, .string ⟨#[]⟩, .int .i64 0] 71))
      clear A2
      refine (SG.out _ HB0.out).mono ?_
      rintro e w1 ⟨rfl, hb1⟩
      have X1 := Lib.hid (keptB X0.out hb1)
      have Y1 := Lib.hid (keptB Y0.out hb1)
      have HB1 := Lib.hid (HB0.out.trans (hb1.mono HB0.out.size))
      clear hb1
      go_wp2_with fail
      refine (IR.out _).mono ?_
      rintro e w2 ⟨rfl, hb2⟩
      have X2 := Lib.hid (keptB X1.out hb2)
      have Y2 := Lib.hid (keptB Y1.out hb2)
      have HB2 := Lib.hid (HB1.out.trans (hb2.mono HB1.out.size))
      clear hb2
      obtain ⟨p0, p1, p2, p3, p4, p5, p6, pz⟩ := seven X2.out
      obtain ⟨q0, q1, q2, q3, q4, q5, q6, q7, qz, qf⟩ := eight Y2.out
      go_wp2_with fail
      refine bodyPost_ret (v := .agg #[.int .i64 0, .int .i64 0, .int .i64 0, .int .i64 0, .slice none 0 0, .string ⟨#[]⟩, .string ⟨#[]⟩, .int .i64 1]) (by simp [results, Tryz.results109, go_sem, q0, q1, q2, q3, q4, q5, q6, q7]) rfl ⟨_, rfl, ?_, .inl ⟨rfl, _, _, rfl⟩⟩
      exact set8 HB2.out (by simp) _ _ _ _ _ _ _ _

    | true =>
      simp only [if_true]
      have ir := fun w => gky.iright_any lock true hL hlk w
      have ig := fun w => gky.implGateKey_calls lock hlk w
      have hgl : (gateR lock).length ≤ 3000 := by
        unfold gateR
        split
        · rename_i hh
          simp only [Bool.and_eq_true] at hh
          exact okT_len hh.2
        · simp
      have hbl := body_len hr
      have hbe : bdr.bodyR m = body m.ps := by unfold bdr.bodyR; rw [if_pos hr]
      simp only [hbe] at hbd
      have hmk := mac1_made (lock := lock) hr hL
      obtain ⟨G, hG⟩ : ∃ G, G = gateR lock := ⟨_, rfl⟩
      obtain ⟨B, hB⟩ : ∃ B, B = body m.ps := ⟨_, rfl⟩
      rw [← hG] at hgl hmk
      simp only [← hG] at ig
      rw [← hB] at hbl hmk
      simp only [← hB] at hbd
      have mk := fun (w : World) (b : Nat) h0 h1 hb => gky.madeTwo oMac G B b 2 w h0 h1 hb (by decide) (by omega) (by omega) _ hmk
      have hw2 := fun x y w' (k : Below w.heap.size w w') => hwm x y w' k (by omega) (fun x hx => okT_len (List.all_eq_true.1 hps x hx))
      obtain ⟨M, hM⟩ : ∃ M, M = mac1 m lock := ⟨_, rfl⟩
      simp only [← hM] at mk ⊢
      have hne : M ≠ [] := by rw [hM]; exact say_ne _ _
      cases hO : okT M with
      | false =>
        simp only [hO, Bool.false_eq_true, if_false] at mk ⊢
        have SG := Lib.hid hsg
        have IR := Lib.hid ir
        have IG := Lib.hid ig
        have BD := Lib.hid hbd
        have MK := Lib.hid mk
        unfold oMac at MK
        obtain ⟨k, f, t, c, ps, a, b⟩ := m
        subst hv
        unfold letA at SG BD ⊢
        unfold outA none0
        simp only at SG BD ⊢
        obtain ⟨n, hn⟩ : ∃ n, n = ps.length := ⟨_, rfl⟩
        rw [← hn] at SG BD ⊢
        clear h hl hx ha hb hsg hbd hwm h8 hlk hn hsgn hsg2 ir ig hr hps hpl hp3 hL hG hB hgl hbl hbe hmk mk hM hne hO hw2
        go_enter Tryz.func109, Tryz.ntmps109
        go_wp2_with (go_at_call 102; refine (t1 _).mono ?_; rintro e w' ⟨rfl, rfl⟩)
        have A2 := alloc2 w (.cells #[.int .i64 k, .int .i64 f, .int .i64 t, .int .i64 c, .slice ad n cap, str a, str b] 24) (.cells #[.int .i64 0, .int .i64 0, .int .i64 0, .int .i64 0, .slice none 0 0, .string ⟨#[]⟩, .string ⟨#[]⟩, .int .i64 0] 71)
        have X0 := Lib.hid A2.1
        have Y0 := Lib.hid A2.2
        have HB0 := Lib.hid ((new1 w (.cells #[.int .i64 k, .int .i64 f, .int .i64 t, .int .i64 c, .slice ad n cap, str a, str b] 24)).alloc (by simp) (.cells #[.int .i64 0, .int .i64 0, .int .i64 0, .int .i64 0, .slice none 0 0, .string ⟨#[]⟩, .string ⟨#[]⟩, .int .i64 0] 71))
        clear A2
        refine (SG.out _ HB0.out).mono ?_
        rintro e w1 ⟨rfl, hb1⟩
        have X1 := Lib.hid (keptB X0.out hb1)
        have Y1 := Lib.hid (keptB Y0.out hb1)
        have HB1 := Lib.hid (HB0.out.trans (hb1.mono HB0.out.size))
        clear hb1
        go_wp2_with fail
        refine (IR.out _).mono ?_
        rintro e w2 ⟨rfl, hb2⟩
        have X2 := Lib.hid (keptB X1.out hb2)
        have Y2 := Lib.hid (keptB Y1.out hb2)
        have HB2 := Lib.hid (HB1.out.trans (hb2.mono HB1.out.size))
        clear hb2
        obtain ⟨p0, p1, p2, p3, p4, p5, p6, pz⟩ := seven X2.out
        obtain ⟨q0, q1, q2, q3, q4, q5, q6, q7, qz, qf⟩ := eight Y2.out
        have HD2 := Lib.hid (HB2.out.trans ((Still.drewN w2 1).below _))
        have XD2 := Lib.hid (show (w2.drew).heap[w.heap.size]? = _ from X2.out)
        have YD2 := Lib.hid (show (w2.drew).heap[w.heap.size + 1]? = _ from Y2.out)
        go_wp2_with fail
        go_region_with (first
          | (go_at_call 150; refine (IG.out _).mono ?_; rintro e w3 ⟨rfl, hb3⟩; have X3 := Lib.hid (keptB XD2.out hb3); have Y3 := Lib.hid (keptB YD2.out hb3); have HB3 := Lib.hid (HD2.out.trans (hb3.mono HD2.out.size)); obtain ⟨r0, r1, r2, r3, r4, r5, r6, rz⟩ := seven X3.out; clear hb3)
          | (go_at_call 151; refine (BD.out _ HB3.out).mono ?_; rintro e w4 ⟨rfl, hb4⟩; have X4 := Lib.hid (keptB X3.out hb4); have Y4 := Lib.hid (keptB Y3.out hb4); have HB4 := Lib.hid (HB3.out.trans (hb4.mono HB3.out.size)); clear hb4)
          | (go_at_call 55; refine (MK.out _ _ (by simp [go_sem]) (by simp [go_sem]) (by simp)).mono ?_; rintro e w5 ⟨rfl, hb5⟩; have X5 := Lib.hid (keptB (keptB X4.out (new1 _ _)) hb5); have Y5 := Lib.hid (keptB (keptB Y4.out (new1 _ _)) hb5); have HB5 := Lib.hid ((HB4.out.alloc HB4.out.size (.cells #[str G, str B] 9)).trans (hb5.mono (by have := HB4.out.size; simp; omega))); clear hb5))
        all_goals clear p0 p1 p2 p3 p4 p5 p6 pz q0 q1 q2 q3 q4 q5 q6 q7 qz qf
        all_goals (obtain ⟨p0, p1, p2, p3, p4, p5, p6, pz⟩ := seven X5.out; obtain ⟨q0, q1, q2, q3, q4, q5, q6, q7, qz, qf⟩ := eight Y5.out; go_wp2_with fail; refine bodyPost_ret (v := .agg #[.int .i64 0, .int .i64 0, .int .i64 0, .int .i64 0, .slice none 0 0, .string ⟨#[]⟩, .string ⟨#[]⟩, .int .i64 9]) (by simp [results, Tryz.results109, go_sem, q0, q1, q2, q3, q4, q5, q6, q7]) rfl ⟨_, rfl, ?_, .inl ⟨rfl, _, _, rfl⟩⟩; exact set8 HB5.out (by simp) _ _ _ _ _ _ _ _)

      | true =>
        simp only [hO, if_true] at mk ⊢
        have HNE := Lib.hid (Go.Proofs.YtonjohlecomeoaaGreat.lri.e_no hne)
        obtain ⟨d1, d2⟩ := HNE.out
        have SG := Lib.hid hsg
        have IR := Lib.hid ir
        have IG := Lib.hid ig
        have BD := Lib.hid hbd
        have MK := Lib.hid mk
        have WM := Lib.hid (hw2 M [])
        unfold oMac at MK
        obtain ⟨k, f, t, c, ps, a, b⟩ := m
        subst hv
        unfold letA at SG BD WM ⊢
        unfold outA
        simp only at SG BD WM ⊢
        obtain ⟨n, hn⟩ : ∃ n, n = ps.length := ⟨_, rfl⟩
        rw [← hn] at SG BD WM ⊢
        have HN := Lib.hid hn
        clear h hl hx ha hb hsg hbd hwm h8 hlk hn hsgn hsg2 ir ig hr hps hpl hp3 hL hG hB hgl hbl hbe hmk mk hM hne hO hw2 HNE
        go_enter Tryz.func109, Tryz.ntmps109
        go_wp2_with (go_at_call 102; refine (t1 _).mono ?_; rintro e w' ⟨rfl, rfl⟩)
        have A2 := alloc2 w (.cells #[.int .i64 k, .int .i64 f, .int .i64 t, .int .i64 c, .slice ad n cap, str a, str b] 24) (.cells #[.int .i64 0, .int .i64 0, .int .i64 0, .int .i64 0, .slice none 0 0, .string ⟨#[]⟩, .string ⟨#[]⟩, .int .i64 0] 71)
        have X0 := Lib.hid A2.1
        have Y0 := Lib.hid A2.2
        have HB0 := Lib.hid ((new1 w (.cells #[.int .i64 k, .int .i64 f, .int .i64 t, .int .i64 c, .slice ad n cap, str a, str b] 24)).alloc (by simp) (.cells #[.int .i64 0, .int .i64 0, .int .i64 0, .int .i64 0, .slice none 0 0, .string ⟨#[]⟩, .string ⟨#[]⟩, .int .i64 0] 71))
        clear A2
        refine (SG.out _ HB0.out).mono ?_
        rintro e w1 ⟨rfl, hb1⟩
        have X1 := Lib.hid (keptB X0.out hb1)
        have Y1 := Lib.hid (keptB Y0.out hb1)
        have HB1 := Lib.hid (HB0.out.trans (hb1.mono HB0.out.size))
        clear hb1
        go_wp2_with fail
        refine (IR.out _).mono ?_
        rintro e w2 ⟨rfl, hb2⟩
        have X2 := Lib.hid (keptB X1.out hb2)
        have Y2 := Lib.hid (keptB Y1.out hb2)
        have HB2 := Lib.hid (HB1.out.trans (hb2.mono HB1.out.size))
        clear hb2
        obtain ⟨p0, p1, p2, p3, p4, p5, p6, pz⟩ := seven X2.out
        obtain ⟨q0, q1, q2, q3, q4, q5, q6, q7, qz, qf⟩ := eight Y2.out
        have HD2 := Lib.hid (HB2.out.trans ((Still.drewN w2 1).below _))
        have XD2 := Lib.hid (show (w2.drew).heap[w.heap.size]? = _ from X2.out)
        have YD2 := Lib.hid (show (w2.drew).heap[w.heap.size + 1]? = _ from Y2.out)
        go_wp2_with fail
        go_region_with (first
          | (go_at_call 150; refine (IG.out _).mono ?_; rintro e w3 ⟨rfl, hb3⟩; have X3 := Lib.hid (keptB XD2.out hb3); have Y3 := Lib.hid (keptB YD2.out hb3); have HB3 := Lib.hid (HD2.out.trans (hb3.mono HD2.out.size)); obtain ⟨r0, r1, r2, r3, r4, r5, r6, rz⟩ := seven X3.out; clear hb3)
          | (go_at_call 151; refine (BD.out _ HB3.out).mono ?_; rintro e w4 ⟨rfl, hb4⟩; have X4 := Lib.hid (keptB X3.out hb4); have Y4 := Lib.hid (keptB Y3.out hb4); have HB4 := Lib.hid (HB3.out.trans (hb4.mono HB3.out.size)); clear hb4)
          | (go_at_call 55; refine (MK.out _ _ (by simp [go_sem]) (by simp [go_sem]) (by simp)).mono ?_; rintro e w5 ⟨rfl, hb5⟩; have X5 := Lib.hid (keptB (keptB X4.out (new1 _ _)) hb5); have Y5 := Lib.hid (keptB (keptB Y4.out (new1 _ _)) hb5); have HB5 := Lib.hid ((HB4.out.alloc HB4.out.size (.cells #[str G, str B] 9)).trans (hb5.mono (by have := HB4.out.size; simp; omega))); clear hb5))
        all_goals clear p0 p1 p2 p3 p4 p5 p6 pz q0 q1 q2 q3 q4 q5 q6 q7 qz qf
        all_goals (obtain ⟨p0, p1, p2, p3, p4, p5, p6, pz⟩ := seven X5.out; obtain ⟨q0, q1, q2, q3, q4, q5, q6, q7, qz, qf⟩ := eight Y5.out; go_wp2_with fail; refine (WM.out _ HB5.out).mono ?_; rintro e w6 ⟨u, rfl, hb6, hw6⟩; have Y6 := Lib.hid (keptB Y5.out hb6); have HB6 := Lib.hid (HB5.out.trans (hb6.mono HB5.out.size)); obtain ⟨ua, uc, hu⟩ := rds_form hw6.rds; have z5 : w.heap.size + 1 < w5.heap.size := (Array.getElem?_eq_some_iff.1 Y5.out).1; rw [← HN.out] at hu; subst hu; have HW6 := Lib.hid hw6; clear hb6 hw6 p0 p1 p2 p3 p4 p5 p6 pz q0 q1 q2 q3 q4 q5 q6 q7 qz qf; obtain ⟨q0, q1, q2, q3, q4, q5, q6, q7, qz, qf⟩ := eight Y6.out; go_wp2_with fail; refine bodyPost_ret (v := .agg #[.int .i64 k, .int .i64 f, .int .i64 t, .int .i64 c, .slice ua n uc, str M, str [], .int .i64 0]) (by simp [results, Tryz.results109, go_sem, q0, q1, q2, q3, q4, q5, q6, q7]) rfl ⟨_, rfl, set8 HB6.out (by simp) _ _ _ _ _ _ _ _, wset8 HW6.out (by have := HB5.out.size; omega) (by have := HB5.out.size; omega) _ _ _ _ _ _ _ _⟩)

end Go.Proofs.YtonjohlecomeoaaGreat.sgn

/- What InitMake of the program makes is what initR says: plain mathematics. -/
namespace Go.Proofs.YtonjohlecomeoaaGreat.iih
open Go Go.RowKit Go.Proofs.YtonjohlecomeoaaGreat.tm Go.Proofs.YtonjohlecomeoaaGreat.spm Go.Proofs.YtonjohlecomeoaaGreat.mkp Go.Proofs.YtonjohlecomeoaaGreat.ltq Go.Proofs.YtonjohlecomeoaaGreat.ltv Go.Proofs.YtonjohlecomeoaaGreat.ltp Go.Proofs.YtonjohlecomeoaaGreat.trp Go.Proofs.YtonjohlecomeoaaGreat.sop Go.Proofs.YtonjohlecomeoaaGreat.dhs Go.Proofs.YtonjohlecomeoaaGreat.hdp
set_option linter.unusedVariables false

theorem made_len (op : Bs) (args : List Bs) : (makeR op args).1.length ≤ 3000 := by
  unfold makeR finR
  repeat' split
  all_goals first | (simp; done) | skip
  rename_i h
  exact okT_len h

theorem shut_small {c t k x : Bs} (hc : Txt c) (ht : Txt t) (h : okT (mixT c t) = true) (hk : lockS k = some x) (hl : c.length ≤ 1000) : okT (say oShut [c, k]) = true := by
  obtain ⟨C, c1, rfl⟩ := hc
  obtain ⟨T, t1, rfl⟩ := ht
  rw [show mixT C.tx T.tx = (Tm.hash (.pair C T)).tx from rfl, okT_tx (T := .hash (.pair C T)) ⟨c1, t1⟩] at h
  have h := (of_decide_eq_true h).2
  obtain ⟨k1, k2, _⟩ := lock_tx hk
  have kl := lock_len hk
  rw [k1] at kl ⊢
  rw [show say oShut [C.tx, say oPub [x]] = (Tm.shut C (.pub x)).tx from rfl, okT_tx (T := .shut C (.pub x)) ⟨c1, k2⟩]
  simp [Tm.tx, Tm.deep, say, oPub, oShut] at h kl ⊢
  omega

/-- What the program makes is what initR says. -/
structure Made (f : Int) (me lock eph stamp s S2 : Bs) (m : Lt) : Prop where
  e0 : (makeR oHash [lock]).1 = say oHash [lock]
  e1 : mixR (say oHash [lock]) (say oPub [eph]) = ic1 lock eph
  e2 : mixR (ic1 lock eph) (dhS eph s) = ic2 lock eph s
  e3 : mixR (ic2 lock eph s) (dhS me s) = ic3 lock eph me s
  eS1 : (makeR oShut [ic2 lock eph s, say oPub [me]]).1 = say oShut [ic2 lock eph s, say oPub [me]]
  lp : (say oPub [eph]).length ≤ 14
  lq : (say oPub [me]).length ≤ 14
  ld : (dhS eph s).length ≤ 3000
  ld2 : (dhS me s).length ≤ 3000
  l0 : (say oHash [lock]).length ≤ 3000
  l1 : (ic1 lock eph).length ≤ 3000
  l2 : (ic2 lock eph s).length ≤ 1000
  l3 : (ic3 lock eph me s).length ≤ 3000
  lt : stamp.length ≤ 3000
  hps : ∀ x ∈ m.ps, x.length ≤ 4000000
  fit : initMade (initL f me lock eph stamp s) (signR (initL f me lock eph stamp s) lock) eph (ic3 lock eph me s) = if (signR m lock).2 = 0 then ⟨(signR m lock).1, [], [], eph, ic3 lock eph me s, [], [], [], 0⟩ else ill 9

theorem made {f : Int} {me lock eph stamp s S2 : Bs} {m : Lt} (g1 : endR f = true) (g2 : atomR me = true) (hl : lockS lock = some s) (g4 : atomR eph = true) (g5 : okT stamp = true)
    (hS2 : (makeR oShut [ic3 lock eph me s, stamp]).1 = S2) (hm : m = ⟨1, f, 0, 0, [say oPub [eph], say oShut [ic2 lock eph s, say oPub [me]], S2], [], []⟩) : Made f me lock eph stamp s S2 m := by
  have ll := lock_len hl
  obtain ⟨lx, sA, lo⟩ := lock_tx hl
  have lm := atomR_len g2
  have le := atomR_len g4
  have lt := okT_len g5
  obtain ⟨o0, o1, o2, o3, o4⟩ := first_right hl (lockS_pub g4) g4 sA g2 sA rfl rfl
  have tl : Txt lock := .of lo
  have tp := pub_Txt g4
  have td := dh_Txt g4 sA
  have td2 := dh_Txt g2 sA
  have e0 : (makeR oHash [lock]).1 = say oHash [lock] := by rw [hash_made lock tl, o0, if_pos rfl]
  have e1 : mixR (say oHash [lock]) (say oPub [eph]) = ic1 lock eph := by rw [mixR_eq tl.hash tp, o1, if_pos rfl, ic1]
  have e2 : mixR (ic1 lock eph) (dhS eph s) = ic2 lock eph s := by have h := mixR_eq (tl.hash.mix tp) td; rw [o2, if_pos rfl] at h; rw [ic2, ic1]; exact h
  have e3 : mixR (ic2 lock eph s) (dhS me s) = ic3 lock eph me s := by have h := mixR_eq ((tl.hash.mix tp).mix td) td2; rw [o3, if_pos rfl] at h; rw [ic3, ic2, ic1]; exact h
  have lp : (say oPub [eph]).length ≤ 14 := lock_len (lockS_pub g4)
  have lq : (say oPub [me]).length ≤ 14 := lock_len (lockS_pub g2)
  have ld : (dhS eph s).length ≤ 3000 := okT_len (dhs.dhS_right eph s g4 sA)
  have ld2 : (dhS me s).length ≤ 3000 := okT_len (dhs.dhS_right me s g2 sA)
  have l0 : (say oHash [lock]).length ≤ 3000 := okT_len o0
  have l1 : (ic1 lock eph).length ≤ 3000 := by rw [ic1]; exact okT_len o1
  have l2 : (ic2 lock eph s).length ≤ 1000 := by
    have : (ic3 lock eph me s).length ≤ 200 := by rw [ic3, ic2, ic1]; exact o4
    unfold ic3 at this
    simp [mixT, say, oHash, oPair] at this
    omega
  have l3 : (ic3 lock eph me s).length ≤ 3000 := by rw [ic3, ic2, ic1]; exact okT_len o3
  have t2 : Txt (ic2 lock eph s) := by rw [ic2, ic1]; exact (tl.hash.mix tp).mix td
  have t3 : Txt (ic3 lock eph me s) := by rw [ic3]; exact t2.mix td2
  have ts : Txt stamp := .of g5
  have hS1 : okT (say oShut [ic2 lock eph s, say oPub [me]]) = true := shut_small t2 td2 (by rw [ic2, ic1]; exact o3) (lockS_pub g2) l2
  have eS1 : (makeR oShut [ic2 lock eph s, say oPub [me]]).1 = say oShut [ic2 lock eph s, say oPub [me]] := by
    have := shut_made t2 (pub_Txt g2)
    rw [show okT (ic2 lock eph s) = true from (by rw [ic2, ic1]; exact o2), hS1, if_pos rfl, if_pos rfl] at this
    exact this
  have eS2 : (makeR oShut [ic3 lock eph me s, stamp]).1 = if okT (say oShut [ic3 lock eph me s, stamp]) then say oShut [ic3 lock eph me s, stamp] else [] := by
    have := shut_made t3 ts
    rw [show okT (ic3 lock eph me s) = true from (by rw [ic3, ic2, ic1]; exact o3), if_pos rfl] at this
    exact this
  rw [hS2] at eS2
  have lS2 : S2.length ≤ 3000 := by rw [← hS2]; exact made_len _ _
  have hps : ∀ x ∈ [say oPub [eph], say oShut [ic2 lock eph s, say oPub [me]], S2], x.length ≤ 4000000 := by
    intro x hx
    have := okT_len hS1
    simp only [List.mem_cons, List.not_mem_nil, or_false] at hx
    rcases hx with rfl | rfl | rfl <;> omega
  have hfit : initMade (initL f me lock eph stamp s) (signR (initL f me lock eph stamp s) lock) eph (ic3 lock eph me s) = if (signR m lock).2 = 0 then ⟨(signR m lock).1, [], [], eph, ic3 lock eph me s, [], [], [], 0⟩ else ill 9 := by
    unfold initMade
    cases h : okT (say oShut [ic3 lock eph me s, stamp]) with
    | true =>
      rw [h] at eS2
      simp only [if_true] at eS2
      have hr : right (initL f me lock eph stamp s) = true := by
        simp [right, isKind, nums, partsR, macs, initL, signed, macsR, parts, g1, h, hS1, pub_okT g4]
      have : m = initL f me lock eph stamp s := by rw [hm, eS2, initL]
      rw [this, hr, Bool.true_and]
      by_cases hz : (signR (initL f me lock eph stamp s) lock).2 = 0
      · rw [if_pos (decide_eq_true hz), if_pos hz]
      · rw [if_neg (by rw [decide_eq_false hz]; decide), if_neg hz]
    | false =>
      rw [h] at eS2
      simp only [Bool.false_eq_true, if_false] at eS2
      have hr : right (initL f me lock eph stamp s) = false := by
        simp [right, partsR, initL, h]
      have hr2 : signs m = false := by
        rw [hm, eS2]
        simp [signs, right, partsR, okT_nil]
      have hc : (signR m lock).2 = 1 := by
        unfold signR
        rw [if_neg (by omega), hr2, Bool.false_and, if_neg (by decide)]
      rw [hr, hc, Bool.false_and, if_neg (by decide), if_neg (by decide)]
  refine ⟨e0, e1, e2, e3, eS1, lp, lq, ld, ld2, l0, l1, l2, l3, lt, ?_, hfit⟩
  rw [hm]
  exact hps

end Go.Proofs.YtonjohlecomeoaaGreat.iih

/- How many parts a hand's letter has. -/
namespace Go.Proofs.YtonjohlecomeoaaGreat.hds
open Go Go.Proofs.YtonjohlecomeoaaGreat.tm Go.Proofs.YtonjohlecomeoaaGreat.mkp Go.Proofs.YtonjohlecomeoaaGreat.ltq Go.Proofs.YtonjohlecomeoaaGreat.ltv Go.Proofs.YtonjohlecomeoaaGreat.ltp Go.Proofs.YtonjohlecomeoaaGreat.hdp
set_option linter.unusedVariables false
theorem ill_ps (c : Int) : (ill c).m.ps.length ≤ 3 := by simp [ill, none0]
theorem initR_ps (f : Int) (me lock eph stamp : Bs) : (initR f me lock eph stamp).m.ps.length ≤ 3 := by
  unfold initR
  split
  · exact ill_ps _
  · split
    · exact ill_ps _
    · split
      · unfold initMade
        split
        · rename_i s _ _ _
          have := ltl.signR_le (initL f me lock eph stamp s) lock
          simp [initL] at this
          exact this
        · exact ill_ps _
      · exact ill_ps _
end Go.Proofs.YtonjohlecomeoaaGreat.hds
