/- Sign and SignTwice of the model (written by wip/gen_sgx.py). -/
import Derived.Test.YtonjohlecomeoaaGreatQn
namespace Go.Proofs.YtonjohlecomeoaaGreat.sgx
open Go.RowKit Go.Proofs.YtonjohlecomeoaaGreat.tm Go.Proofs.YtonjohlecomeoaaGreat.lib Go.Proofs.YtonjohlecomeoaaGreat.rdr Go.Proofs.YtonjohlecomeoaaGreat.bld Go.Proofs.YtonjohlecomeoaaGreat.app Go.Proofs.YtonjohlecomeoaaGreat.mrk Go.Proofs.YtonjohlecomeoaaGreat.mrs Go.Proofs.YtonjohlecomeoaaGreat.ltq Go.Proofs.YtonjohlecomeoaaGreat.ltv Go.Proofs.YtonjohlecomeoaaGreat.ltp Go.Proofs.YtonjohlecomeoaaGreat.lsm Go.Proofs.YtonjohlecomeoaaGreat.sgs Go.Proofs.YtonjohlecomeoaaGreat.sgv
set_option linter.unusedVariables false

set_option maxHeartbeats 2000000 in
set_option maxRecDepth 100000 in
theorem specSign_calls (m : Lt) (v : Value) (lock : Bs) (w : World) (h : Rds w v m.ps) (hl : m.ps.length ≤ 2000000) (hx : ∀ x ∈ m.ps, x.length ≤ 4000000) (ha : m.a.length ≤ 4000000) (hb : m.b.length ≤ 4000000) (hlk : lock.length ≤ 4000000) :
    Calls Tryz.prog 46 #[.agg (letA m v), str lock] w fun e w' => ∃ u, e = .returned (.agg (outA (signR m lock).1 u (signR m lock).2)) ∧ Below w.heap.size w w' ∧ Wrs w' w.heap.size u (signR m lock).1.ps := by
  have hsg := fun w' (k : Below w.heap.size w w') => signs_calls m v w' (Rds.below h k) hl hx ha hb
  have hcp := fun w' (k : Below w.heap.size w w') hne hl2 => sgw.copy_calls m v w' (Rds.below h k) hne hl2
  obtain ⟨ad, cap, hv⟩ := lsa.rds_form h
  unfold signR
  by_cases h8 : 8000 < lock.length
  · rw [if_pos h8]
    have d8 : decide (8000 < (lock.length : Int)) = true := by simp; omega
    obtain ⟨k, f, t, c, ps, a, b⟩ := m
    subst hv
    unfold letA outA none0
    simp only
    obtain ⟨n, hn⟩ : ∃ n, n = ps.length := ⟨_, rfl⟩
    rw [← hn]
    clear h hl hx ha hb hsg hcp h8 hlk hn
    go_enter Tryz.func46, Tryz.ntmps46
    go_wp2_with fail
    refine bodyPost_ret (v := .agg #[.int .i64 0, .int .i64 0, .int .i64 0, .int .i64 0, .slice none 0 0, .string ⟨#[]⟩, .string ⟨#[]⟩, .int .i64 2]) (by simp [results, Tryz.results46, go_sem]) rfl ⟨_, rfl, ?_, .inl ⟨rfl, _, _, rfl⟩⟩
    exact (new1 _ _).alloc (by simp) _
  rw [if_neg h8]
  have d8 : decide (8000 < (lock.length : Int)) = false := by simp; omega
  obtain ⟨sg, hsgn⟩ : ∃ s, s = signs m := ⟨_, rfl⟩
  have hsg2 := hsgn
  simp only [← hsgn] at hsg ⊢
  cases sg with
  | false =>
    simp only [Bool.false_and, Bool.false_eq_true, if_false]
    have SG := Lib.hid hsg
    obtain ⟨k, f, t, c, ps, a, b⟩ := m
    subst hv
    unfold letA at SG ⊢
    unfold outA none0
    simp only at SG  ⊢
    obtain ⟨n, hn⟩ : ∃ n, n = ps.length := ⟨_, rfl⟩
    rw [← hn] at SG ⊢
    clear h hl hx ha hb hsg hcp h8 hlk hn hsgn hsg2
    go_enter Tryz.func46, Tryz.ntmps46
    go_wp2_with fail
    have A2 := alloc2 w (.cells #[.int .i64 k, .int .i64 f, .int .i64 t, .int .i64 c, .slice ad n cap, str a, str b] 24) (.cells #[.int .i64 0, .int .i64 0, .int .i64 0, .int .i64 0, .slice none 0 0, .string ⟨#[]⟩, .string ⟨#[]⟩, .int .i64 0] 71)
    have X0 := Lib.hid A2.1
    have Y0 := Lib.hid A2.2
    have HB0 := Lib.hid ((new1 w (.cells #[.int .i64 k, .int .i64 f, .int .i64 t, .int .i64 c, .slice ad n cap, str a, str b] 24)).alloc (by simp) (.cells #[.int .i64 0, .int .i64 0, .int .i64 0, .int .i64 0, .slice none 0 0, .string ⟨#[]⟩, .string ⟨#[]⟩, .int .i64 0] 71))
    clear A2
    refine (SG.out _ HB0.out).mono ?_
    rintro e w1 ⟨rfl, hb1⟩
    have X1 := Lib.hid (keptB X0.out hb1)
    have Y1 := Lib.hid (keptB Y0.out hb1)
    have HB1 := Lib.hid (HB0.out.trans (hb1.mono HB0.out.size))
    clear hb1
    obtain ⟨p0, p1, p2, p3, p4, p5, p6, pz⟩ := seven X1.out
    obtain ⟨q0, q1, q2, q3, q4, q5, q6, q7, qz, qf⟩ := eight Y1.out
    go_wp2_with fail
    refine bodyPost_ret (v := .agg #[.int .i64 0, .int .i64 0, .int .i64 0, .int .i64 0, .slice none 0 0, .string ⟨#[]⟩, .string ⟨#[]⟩, .int .i64 1]) (by simp [results, Tryz.results46, go_sem, q0, q1, q2, q3, q4, q5, q6, q7]) rfl ⟨_, rfl, ?_, .inl ⟨rfl, _, _, rfl⟩⟩
    exact set8 HB1.out (by simp) _ _ _ _ _ _ _ _
  | true =>
    simp only [Bool.true_and]
    have hr := signs_right hsg2.symm
    obtain ⟨hps, hpl⟩ := right_ps hr
    have hp3 := parts_pos m.k

    have hal : m.a.length ≤ 3000 := by
      by_cases e : m.a = []
      · rw [e]; simp
      · exact okT_len (mac_ok hsg2.symm e)

    cases hL : okT lock with
    | false =>
      simp only [Bool.false_eq_true, if_false]
      have ir := fun w => gky.right_any lock false hL hlk w
      have IR := Lib.hid ir
      have SG := Lib.hid hsg
      obtain ⟨k, f, t, c, ps, a, b⟩ := m
      subst hv
      unfold letA at SG ⊢
      unfold outA none0
      simp only at SG  ⊢
      obtain ⟨n, hn⟩ : ∃ n, n = ps.length := ⟨_, rfl⟩
      rw [← hn] at SG ⊢
      clear h hl hx ha hb hsg hcp h8 hlk hn hsgn hsg2 hr hps hpl hp3 ir hL hal
      go_enter Tryz.func46, Tryz.ntmps46
      go_wp2_with fail
      have A2 := alloc2 w (.cells #[.int .i64 k, .int .i64 f, .int .i64 t, .int .i64 c, .slice ad n cap, str a, str b] 24) (.cells #[.int .i64 0, .int .i64 0, .int .i64 0, .int .i64 0, .slice none 0 0, .string ⟨#[]⟩, .string ⟨#[]⟩, .int .i64 0] 71)
      have X0 := Lib.hid A2.1
      have Y0 := Lib.hid A2.2
      have HB0 := Lib.hid ((new1 w (.cells #[.int .i64 k, .int .i64 f, .int .i64 t, .int .i64 c, .slice ad n cap, str a, str b] 24)).alloc (by simp) (.cells #[.int .i64 0, .int .i64 0, .int .i64 0, .int .i64 0, .slice none 0 0, .string ⟨#[]⟩, .string ⟨#[]⟩, .int .i64 0] 71))
      clear A2
      refine (SG.out _ HB0.out).mono ?_
      rintro e w1 ⟨rfl, hb1⟩
      have X1 := Lib.hid (keptB X0.out hb1)
      have Y1 := Lib.hid (keptB Y0.out hb1)
      have HB1 := Lib.hid (HB0.out.trans (hb1.mono HB0.out.size))
      clear hb1
      go_wp2_with fail
      refine (IR.out _).mono ?_
      rintro e w2 ⟨rfl, hb2⟩
      have X2 := Lib.hid (keptB X1.out hb2)
      have Y2 := Lib.hid (keptB Y1.out hb2)
      have HB2 := Lib.hid (HB1.out.trans (hb2.mono HB1.out.size))
      clear hb2
      obtain ⟨p0, p1, p2, p3, p4, p5, p6, pz⟩ := seven X2.out
      obtain ⟨q0, q1, q2, q3, q4, q5, q6, q7, qz, qf⟩ := eight Y2.out
      go_wp2_with fail
      refine bodyPost_ret (v := .agg #[.int .i64 0, .int .i64 0, .int .i64 0, .int .i64 0, .slice none 0 0, .string ⟨#[]⟩, .string ⟨#[]⟩, .int .i64 1]) (by simp [results, Tryz.results46, go_sem, q0, q1, q2, q3, q4, q5, q6, q7]) rfl ⟨_, rfl, ?_, .inl ⟨rfl, _, _, rfl⟩⟩
      exact set8 HB2.out (by simp) _ _ _ _ _ _ _ _
    | true =>
      simp only [if_true]
      have ir := fun w => gky.right_any lock true hL hlk w
      have hlk2 := okT_len hL
      have mk := fun w' (k : Below w.heap.size w w') => mac1_calls m v lock w' (Rds.below h k) hr hlk2
      have hne : m.ps ≠ [] := by intro e; rw [e] at hpl; simp at hpl; omega
      have cp := fun w' k => hcp w' k hne (by omega)
      obtain ⟨M, hM⟩ : ∃ M, M = mac1 m lock := ⟨_, rfl⟩
      simp only [← hM] at mk ⊢
      have hMne : M ≠ [] := by rw [hM]; exact say_ne _ _
      have hMl : M.length ≤ 4000000 := by
        have hbl := body_len hr
        have hgl := gky.gate_len lock
        rw [hM]
        simp [mac1, say, oMac]
        omega
      have rr := fun w' u hu => lsa.specRight_calls { m with a := M, b := [] } u w' hu hl hx (by first | exact hMl | exact ha) (by first | exact hMl | simp)
      have hre : right { m with a := M, b := [] } = okT M := right_mac1 hsg2.symm M hMne
      obtain ⟨o, ho⟩ : ∃ o, o = okT M := ⟨_, rfl⟩
      simp only [hre, ← ho] at rr ⊢
      have SG := Lib.hid hsg
      have IR := Lib.hid ir
      have MK := Lib.hid mk
      have CP := Lib.hid cp
      have RR := Lib.hid rr
      have HNE := Lib.hid hne

      obtain ⟨k, f, t, c, ps, a, b⟩ := m
      subst hv
      unfold letA at SG MK CP RR ⊢
      unfold outA none0
      simp only at SG MK CP RR  ⊢
      obtain ⟨n, hn⟩ : ∃ n, n = ps.length := ⟨_, rfl⟩
      rw [← hn] at SG MK CP ⊢
      have HN := Lib.hid hn
      clear h hl hx ha hb hsg hcp h8 hlk hn hsgn hsg2 hr hps hpl hp3 ir hL hal hlk2 mk cp rr hre ho hM hMne hMl hne
      go_enter Tryz.func46, Tryz.ntmps46
      go_wp2_with fail
      have A2 := alloc2 w (.cells #[.int .i64 k, .int .i64 f, .int .i64 t, .int .i64 c, .slice ad n cap, str a, str b] 24) (.cells #[.int .i64 0, .int .i64 0, .int .i64 0, .int .i64 0, .slice none 0 0, .string ⟨#[]⟩, .string ⟨#[]⟩, .int .i64 0] 71)
      have X0 := Lib.hid A2.1
      have Y0 := Lib.hid A2.2
      have HB0 := Lib.hid ((new1 w (.cells #[.int .i64 k, .int .i64 f, .int .i64 t, .int .i64 c, .slice ad n cap, str a, str b] 24)).alloc (by simp) (.cells #[.int .i64 0, .int .i64 0, .int .i64 0, .int .i64 0, .slice none 0 0, .string ⟨#[]⟩, .string ⟨#[]⟩, .int .i64 0] 71))
      clear A2
      refine (SG.out _ HB0.out).mono ?_
      rintro e w1 ⟨rfl, hb1⟩
      have X1 := Lib.hid (keptB X0.out hb1)
      have Y1 := Lib.hid (keptB Y0.out hb1)
      have HB1 := Lib.hid (HB0.out.trans (hb1.mono HB0.out.size))
      clear hb1
      go_wp2_with fail
      refine (IR.out _).mono ?_
      rintro e w2 ⟨rfl, hb2⟩
      have X2 := Lib.hid (keptB X1.out hb2)
      have Y2 := Lib.hid (keptB Y1.out hb2)
      have HB2 := Lib.hid (HB1.out.trans (hb2.mono HB1.out.size))
      clear hb2
      obtain ⟨p0, p1, p2, p3, p4, p5, p6, pz⟩ := seven X2.out
      obtain ⟨q0, q1, q2, q3, q4, q5, q6, q7, qz, qf⟩ := eight Y2.out
      go_wp2_with fail
      refine (CP.out _ HB2.out).mono ?_
      rintro e w3 ⟨u, rfl, hb3, hw3⟩
      obtain ⟨ua, uc, hu⟩ := lsa.rds_form hw3.rds
      rw [← HN.out] at hu
      subst hu
      clear p0 p1 p2 p3 p4 p5 p6 pz q0 q1 q2 q3 q4 q5 q6 q7 qz qf
      have X3 := Lib.hid (keptB X2.out hb3)
      have Y3 := Lib.hid (keptB Y2.out hb3)
      have HB3 := Lib.hid (HB2.out.trans (hb3.mono HB2.out.size))
      clear hb3
      have HW3 := Lib.hid hw3
      clear hw3
      obtain ⟨p0, p1, p2, p3, p4, p5, p6, pz⟩ := seven X3.out
      obtain ⟨q0, q1, q2, q3, q4, q5, q6, q7, qz, qf⟩ := eight Y3.out
      go_wp2_with fail
      clear p0 p1 p2 p3 p4 p5 p6 pz q0 q1 q2 q3 q4 q5 q6 q7 qz qf
      refine (MK.out _ (HB3.out.alloc HB3.out.size _)).mono ?_
      rintro e w4 ⟨rfl, hb4⟩
      have K4 := Lib.hid ((new1 w3 (.cells #[.int .i64 k, .int .i64 f, .int .i64 t, .int .i64 c, .slice ua n uc, str a, str b] 24)).trans (hb4.mono (by simp)))
      have T4 := Lib.hid (keptB (heap_alloc_new w3 (.cells #[.int .i64 k, .int .i64 f, .int .i64 t, .int .i64 c, .slice ua n uc, str a, str b] 24)) hb4)
      obtain ⟨t0, t1, t2, t3, t4, t5, t6, tz⟩ := seven T4.out
      have tf : ∀ o, w4.frozen? ⟨w3.heap.size, o, none⟩ = false := (fun o => by simp [World.frozen?, T4.out])
      clear hb4
      have K5 := Lib.hid ((K4.out.setCell (p := ⟨w3.heap.size, 5, none⟩) (Nat.le_refl _) (.string ⟨M.toArray⟩)).setCell (p := ⟨w3.heap.size, 6, none⟩) (Nat.le_refl _) (.string ⟨#[]⟩))
      have z2 : w.heap.size + 1 < w2.heap.size := (Array.getElem?_eq_some_iff.1 Y2.out).1
      go_wp2_with fail
      refine (RR.out _ _ (Rds.below HW3.out.rds K5.out)).mono ?_
      rintro e w6 ⟨rfl, hb6⟩
      have K6 := K5.out.trans (hb6.mono K5.out.size)
      have X6 := Lib.hid (keptB X3.out K6)
      have Y6 := Lib.hid (keptB Y3.out K6)
      have HB6 := Lib.hid (HB3.out.trans (K6.mono HB3.out.size))
      have HW6 := Lib.hid (Wrs.below HW3.out K6)
      have s0 := (hb6.cell (p := ⟨w3.heap.size, 0, none⟩) (by simpa [World.setCell] using tz)).trans (show _ = some (Value.int .i64 k) by simp [go_sem, t0])
      have s1 := (hb6.cell (p := ⟨w3.heap.size, 1, none⟩) (by simpa [World.setCell] using tz)).trans (show _ = some (Value.int .i64 f) by simp [go_sem, t1])
      have s2 := (hb6.cell (p := ⟨w3.heap.size, 2, none⟩) (by simpa [World.setCell] using tz)).trans (show _ = some (Value.int .i64 t) by simp [go_sem, t2])
      have s3 := (hb6.cell (p := ⟨w3.heap.size, 3, none⟩) (by simpa [World.setCell] using tz)).trans (show _ = some (Value.int .i64 c) by simp [go_sem, t3])
      have s4 := (hb6.cell (p := ⟨w3.heap.size, 4, none⟩) (by simpa [World.setCell] using tz)).trans (show _ = some (Value.slice ua n uc) by simp [go_sem, t4])
      have s5 := (hb6.cell (p := ⟨w3.heap.size, 5, none⟩) (by simpa [World.setCell] using tz)).trans (show _ = some (str M) by simp [go_sem, t5])
      have s6 := (hb6.cell (p := ⟨w3.heap.size, 6, none⟩) (by simpa [World.setCell] using tz)).trans (show _ = some (str []) by simp [go_sem, t6])
      clear hb6 K6 t0 t1 t2 t3 t4 t5 t6 tf
      obtain ⟨p0, p1, p2, p3, p4, p5, p6, pz⟩ := seven X6.out
      obtain ⟨q0, q1, q2, q3, q4, q5, q6, q7, qz, qf⟩ := eight Y6.out
      cases o with
      | false =>
        simp only
        go_wp2_with fail
        refine bodyPost_ret (v := .agg #[.int .i64 0, .int .i64 0, .int .i64 0, .int .i64 0, .slice none 0 0, .string ⟨#[]⟩, .string ⟨#[]⟩, .int .i64 9]) (by simp [results, Tryz.results46, go_sem, q0, q1, q2, q3, q4, q5, q6, q7]) rfl ⟨_, rfl, ?_, .inl ⟨rfl, _, _, rfl⟩⟩
        exact set8 HB6.out (by simp) _ _ _ _ _ _ _ _
      | true =>
        simp only
        go_wp2_with fail
        refine bodyPost_ret (v := .agg #[.int .i64 k, .int .i64 f, .int .i64 t, .int .i64 c, .slice ua n uc, str M, str [], .int .i64 0]) (by simp [results, Tryz.results46, go_sem, q0, q1, q2, q3, q4, q5, q6, q7]) rfl ⟨_, rfl, set8 HB6.out (by simp) _ _ _ _ _ _ _ _, wset8 HW6.out z2 (by omega) _ _ _ _ _ _ _ _⟩

set_option maxHeartbeats 2000000 in
set_option maxRecDepth 100000 in
theorem specSignTwice_calls (m : Lt) (v : Value) (lock : Bs) (w : World) (h : Rds w v m.ps) (hl : m.ps.length ≤ 2000000) (hx : ∀ x ∈ m.ps, x.length ≤ 4000000) (ha : m.a.length ≤ 4000000) (hb : m.b.length ≤ 4000000) (hlk : lock.length ≤ 4000000) :
    Calls Tryz.prog 156 #[.agg (letA m v), str lock] w fun e w' => ∃ u, e = .returned (.agg (outA (twiceR m lock).1 u (twiceR m lock).2)) ∧ Below w.heap.size w w' ∧ Wrs w' w.heap.size u (twiceR m lock).1.ps := by
  have hsg := fun w' (k : Below w.heap.size w w') => signs_calls m v w' (Rds.below h k) hl hx ha hb
  have hcp := fun w' (k : Below w.heap.size w w') hne hl2 => sgw.copy_calls m v w' (Rds.below h k) hne hl2
  obtain ⟨ad, cap, hv⟩ := lsa.rds_form h
  unfold twiceR
  by_cases h8 : 8000 < lock.length
  · rw [if_pos h8]
    have d8 : decide (8000 < (lock.length : Int)) = true := by simp; omega
    obtain ⟨k, f, t, c, ps, a, b⟩ := m
    subst hv
    unfold letA outA none0
    simp only
    obtain ⟨n, hn⟩ : ∃ n, n = ps.length := ⟨_, rfl⟩
    rw [← hn]
    clear h hl hx ha hb hsg hcp h8 hlk hn
    go_enter Tryz.func156, Tryz.ntmps156
    go_wp2_with fail
    refine bodyPost_ret (v := .agg #[.int .i64 0, .int .i64 0, .int .i64 0, .int .i64 0, .slice none 0 0, .string ⟨#[]⟩, .string ⟨#[]⟩, .int .i64 2]) (by simp [results, Tryz.results156, go_sem]) rfl ⟨_, rfl, ?_, .inl ⟨rfl, _, _, rfl⟩⟩
    exact (new1 _ _).alloc (by simp) _
  rw [if_neg h8]
  have d8 : decide (8000 < (lock.length : Int)) = false := by simp; omega
  obtain ⟨sg, hsgn⟩ : ∃ s, s = signs m := ⟨_, rfl⟩
  have hsg2 := hsgn
  simp only [← hsgn] at hsg ⊢
  cases sg with
  | false =>
    simp only [Bool.false_and, Bool.false_eq_true, if_false]
    have SG := Lib.hid hsg
    obtain ⟨k, f, t, c, ps, a, b⟩ := m
    subst hv
    unfold letA at SG ⊢
    unfold outA none0
    simp only at SG  ⊢
    obtain ⟨n, hn⟩ : ∃ n, n = ps.length := ⟨_, rfl⟩
    rw [← hn] at SG ⊢
    clear h hl hx ha hb hsg hcp h8 hlk hn hsgn hsg2
    go_enter Tryz.func156, Tryz.ntmps156
    go_wp2_with fail
    have A2 := alloc2 w (.cells #[.int .i64 k, .int .i64 f, .int .i64 t, .int .i64 c, .slice ad n cap, str a, str b] 24) (.cells #[.int .i64 0, .int .i64 0, .int .i64 0, .int .i64 0, .slice none 0 0, .string ⟨#[]⟩, .string ⟨#[]⟩, .int .i64 0] 71)
    have X0 := Lib.hid A2.1
    have Y0 := Lib.hid A2.2
    have HB0 := Lib.hid ((new1 w (.cells #[.int .i64 k, .int .i64 f, .int .i64 t, .int .i64 c, .slice ad n cap, str a, str b] 24)).alloc (by simp) (.cells #[.int .i64 0, .int .i64 0, .int .i64 0, .int .i64 0, .slice none 0 0, .string ⟨#[]⟩, .string ⟨#[]⟩, .int .i64 0] 71))
    clear A2
    refine (SG.out _ HB0.out).mono ?_
    rintro e w1 ⟨rfl, hb1⟩
    have X1 := Lib.hid (keptB X0.out hb1)
    have Y1 := Lib.hid (keptB Y0.out hb1)
    have HB1 := Lib.hid (HB0.out.trans (hb1.mono HB0.out.size))
    clear hb1
    obtain ⟨p0, p1, p2, p3, p4, p5, p6, pz⟩ := seven X1.out
    obtain ⟨q0, q1, q2, q3, q4, q5, q6, q7, qz, qf⟩ := eight Y1.out
    go_wp2_with fail
    refine bodyPost_ret (v := .agg #[.int .i64 0, .int .i64 0, .int .i64 0, .int .i64 0, .slice none 0 0, .string ⟨#[]⟩, .string ⟨#[]⟩, .int .i64 1]) (by simp [results, Tryz.results156, go_sem, q0, q1, q2, q3, q4, q5, q6, q7]) rfl ⟨_, rfl, ?_, .inl ⟨rfl, _, _, rfl⟩⟩
    exact set8 HB1.out (by simp) _ _ _ _ _ _ _ _
  | true =>
    simp only [Bool.true_and]
    have hr := signs_right hsg2.symm
    obtain ⟨hps, hpl⟩ := right_ps hr
    have hp3 := parts_pos m.k

    by_cases hma : m.a = []
    · have : (decide (m.a ≠ []) && okT lock) = false := by simp [hma]
      rw [this]
      simp only [Bool.false_eq_true, if_false]
      have SG := Lib.hid hsg
      obtain ⟨k, f, t, c, ps, a, b⟩ := m
      subst hv
      unfold letA at SG ⊢
      unfold outA none0
      simp only at SG hma ⊢
      obtain ⟨n, hn⟩ : ∃ n, n = ps.length := ⟨_, rfl⟩
      rw [← hn] at SG ⊢
      obtain ⟨da1, da2, da3⟩ := e_yes hma
      clear h hl hx ha hb hsg hcp h8 hlk hn hsgn hsg2 hr hps hpl hp3 hma this
      go_enter Tryz.func156, Tryz.ntmps156
      go_wp2_with fail
      have A2 := alloc2 w (.cells #[.int .i64 k, .int .i64 f, .int .i64 t, .int .i64 c, .slice ad n cap, str a, str b] 24) (.cells #[.int .i64 0, .int .i64 0, .int .i64 0, .int .i64 0, .slice none 0 0, .string ⟨#[]⟩, .string ⟨#[]⟩, .int .i64 0] 71)
      have X0 := Lib.hid A2.1
      have Y0 := Lib.hid A2.2
      have HB0 := Lib.hid ((new1 w (.cells #[.int .i64 k, .int .i64 f, .int .i64 t, .int .i64 c, .slice ad n cap, str a, str b] 24)).alloc (by simp) (.cells #[.int .i64 0, .int .i64 0, .int .i64 0, .int .i64 0, .slice none 0 0, .string ⟨#[]⟩, .string ⟨#[]⟩, .int .i64 0] 71))
      clear A2
      refine (SG.out _ HB0.out).mono ?_
      rintro e w1 ⟨rfl, hb1⟩
      have X1 := Lib.hid (keptB X0.out hb1)
      have Y1 := Lib.hid (keptB Y0.out hb1)
      have HB1 := Lib.hid (HB0.out.trans (hb1.mono HB0.out.size))
      clear hb1
      obtain ⟨p0, p1, p2, p3, p4, p5, p6, pz⟩ := seven X1.out
      obtain ⟨q0, q1, q2, q3, q4, q5, q6, q7, qz, qf⟩ := eight Y1.out
      go_wp2_with fail
      refine bodyPost_ret (v := .agg #[.int .i64 0, .int .i64 0, .int .i64 0, .int .i64 0, .slice none 0 0, .string ⟨#[]⟩, .string ⟨#[]⟩, .int .i64 1]) (by simp [results, Tryz.results156, go_sem, q0, q1, q2, q3, q4, q5, q6, q7]) rfl ⟨_, rfl, ?_, .inl ⟨rfl, _, _, rfl⟩⟩
      exact set8 HB1.out (by simp) _ _ _ _ _ _ _ _
    have hda : decide (m.a ≠ []) = true := by simpa using hma
    have hoa := mac_ok hsg2.symm hma
    have hal := okT_len hoa
    obtain ⟨da1, da2, da3⟩ := e_no hma
    rw [hda, Bool.true_and]

    cases hL : okT lock with
    | false =>
      simp only [Bool.false_eq_true, if_false]
      have ir := fun w => gky.right_any lock false hL hlk w
      have IR := Lib.hid ir
      have SG := Lib.hid hsg
      obtain ⟨k, f, t, c, ps, a, b⟩ := m
      subst hv
      unfold letA at SG ⊢
      unfold outA none0
      simp only at SG da1 da2 da3 ⊢
      obtain ⟨n, hn⟩ : ∃ n, n = ps.length := ⟨_, rfl⟩
      rw [← hn] at SG ⊢
      clear h hl hx ha hb hsg hcp h8 hlk hn hsgn hsg2 hr hps hpl hp3 hma hda hoa ir hL hal
      go_enter Tryz.func156, Tryz.ntmps156
      go_wp2_with fail
      have A2 := alloc2 w (.cells #[.int .i64 k, .int .i64 f, .int .i64 t, .int .i64 c, .slice ad n cap, str a, str b] 24) (.cells #[.int .i64 0, .int .i64 0, .int .i64 0, .int .i64 0, .slice none 0 0, .string ⟨#[]⟩, .string ⟨#[]⟩, .int .i64 0] 71)
      have X0 := Lib.hid A2.1
      have Y0 := Lib.hid A2.2
      have HB0 := Lib.hid ((new1 w (.cells #[.int .i64 k, .int .i64 f, .int .i64 t, .int .i64 c, .slice ad n cap, str a, str b] 24)).alloc (by simp) (.cells #[.int .i64 0, .int .i64 0, .int .i64 0, .int .i64 0, .slice none 0 0, .string ⟨#[]⟩, .string ⟨#[]⟩, .int .i64 0] 71))
      clear A2
      refine (SG.out _ HB0.out).mono ?_
      rintro e w1 ⟨rfl, hb1⟩
      have X1 := Lib.hid (keptB X0.out hb1)
      have Y1 := Lib.hid (keptB Y0.out hb1)
      have HB1 := Lib.hid (HB0.out.trans (hb1.mono HB0.out.size))
      clear hb1
      obtain ⟨p0, p1, p2, p3, p4, p5, p6, pz⟩ := seven X1.out
      obtain ⟨q0, q1, q2, q3, q4, q5, q6, q7, qz, qf⟩ := eight Y1.out
      go_wp2_with fail
      refine (IR.out _).mono ?_
      rintro e w2 ⟨rfl, hb2⟩
      clear p0 p1 p2 p3 p4 p5 p6 pz q0 q1 q2 q3 q4 q5 q6 q7 qz qf
      have X2 := Lib.hid (keptB X1.out hb2)
      have Y2 := Lib.hid (keptB Y1.out hb2)
      have HB2 := Lib.hid (HB1.out.trans (hb2.mono HB1.out.size))
      clear hb2
      obtain ⟨p0, p1, p2, p3, p4, p5, p6, pz⟩ := seven X2.out
      obtain ⟨q0, q1, q2, q3, q4, q5, q6, q7, qz, qf⟩ := eight Y2.out
      go_wp2_with fail
      refine bodyPost_ret (v := .agg #[.int .i64 0, .int .i64 0, .int .i64 0, .int .i64 0, .slice none 0 0, .string ⟨#[]⟩, .string ⟨#[]⟩, .int .i64 1]) (by simp [results, Tryz.results156, go_sem, q0, q1, q2, q3, q4, q5, q6, q7]) rfl ⟨_, rfl, ?_, .inl ⟨rfl, _, _, rfl⟩⟩
      exact set8 HB2.out (by simp) _ _ _ _ _ _ _ _
    | true =>
      simp only [if_true]
      have ir := fun w => gky.right_any lock true hL hlk w
      have hlk2 := okT_len hL
      have mk := fun w' (k : Below w.heap.size w w') => mac2_calls m v lock w' (Rds.below h k) hr hlk2 hal
      have hne : m.ps ≠ [] := by intro e; rw [e] at hpl; simp at hpl; omega
      have cp := fun w' k => hcp w' k hne (by omega)
      obtain ⟨M, hM⟩ : ∃ M, M = mac2 m lock := ⟨_, rfl⟩
      simp only [← hM] at mk ⊢
      have hMne : M ≠ [] := by rw [hM]; exact say_ne _ _
      have hMl : M.length ≤ 4000000 := by
        have hbl := body_len hr
        have hgl := gky.gate_len lock
        rw [hM]
        simp [mac2, say, oMac, oPair]
        omega
      have rr := fun w' u hu => lsa.specRight_calls { m with b := M } u w' hu hl hx (by first | exact hMl | exact ha) (by first | exact hMl | simp)
      have hre : right { m with b := M } = okT M := right_mac2 hsg2.symm hma M hMne
      obtain ⟨o, ho⟩ : ∃ o, o = okT M := ⟨_, rfl⟩
      simp only [hre, ← ho] at rr ⊢
      have SG := Lib.hid hsg
      have IR := Lib.hid ir
      have MK := Lib.hid mk
      have CP := Lib.hid cp
      have RR := Lib.hid rr
      have HNE := Lib.hid hne

      obtain ⟨k, f, t, c, ps, a, b⟩ := m
      subst hv
      unfold letA at SG MK CP RR ⊢
      unfold outA none0
      simp only at SG MK CP RR da1 da2 da3 ⊢
      obtain ⟨n, hn⟩ : ∃ n, n = ps.length := ⟨_, rfl⟩
      rw [← hn] at SG MK CP ⊢
      have HN := Lib.hid hn
      clear h hl hx ha hb hsg hcp h8 hlk hn hsgn hsg2 hr hps hpl hp3 hma hda hoa ir hL hal hlk2 mk cp rr hre ho hM hMne hMl hne
      go_enter Tryz.func156, Tryz.ntmps156
      go_wp2_with fail
      have A2 := alloc2 w (.cells #[.int .i64 k, .int .i64 f, .int .i64 t, .int .i64 c, .slice ad n cap, str a, str b] 24) (.cells #[.int .i64 0, .int .i64 0, .int .i64 0, .int .i64 0, .slice none 0 0, .string ⟨#[]⟩, .string ⟨#[]⟩, .int .i64 0] 71)
      have X0 := Lib.hid A2.1
      have Y0 := Lib.hid A2.2
      have HB0 := Lib.hid ((new1 w (.cells #[.int .i64 k, .int .i64 f, .int .i64 t, .int .i64 c, .slice ad n cap, str a, str b] 24)).alloc (by simp) (.cells #[.int .i64 0, .int .i64 0, .int .i64 0, .int .i64 0, .slice none 0 0, .string ⟨#[]⟩, .string ⟨#[]⟩, .int .i64 0] 71))
      clear A2
      refine (SG.out _ HB0.out).mono ?_
      rintro e w1 ⟨rfl, hb1⟩
      have X1 := Lib.hid (keptB X0.out hb1)
      have Y1 := Lib.hid (keptB Y0.out hb1)
      have HB1 := Lib.hid (HB0.out.trans (hb1.mono HB0.out.size))
      clear hb1
      obtain ⟨p0, p1, p2, p3, p4, p5, p6, pz⟩ := seven X1.out
      obtain ⟨q0, q1, q2, q3, q4, q5, q6, q7, qz, qf⟩ := eight Y1.out
      go_wp2_with fail
      refine (IR.out _).mono ?_
      rintro e w2 ⟨rfl, hb2⟩
      clear p0 p1 p2 p3 p4 p5 p6 pz q0 q1 q2 q3 q4 q5 q6 q7 qz qf
      have X2 := Lib.hid (keptB X1.out hb2)
      have Y2 := Lib.hid (keptB Y1.out hb2)
      have HB2 := Lib.hid (HB1.out.trans (hb2.mono HB1.out.size))
      clear hb2
      obtain ⟨p0, p1, p2, p3, p4, p5, p6, pz⟩ := seven X2.out
      obtain ⟨q0, q1, q2, q3, q4, q5, q6, q7, qz, qf⟩ := eight Y2.out
      go_wp2_with fail
      refine (CP.out _ HB2.out).mono ?_
      rintro e w3 ⟨u, rfl, hb3, hw3⟩
      obtain ⟨ua, uc, hu⟩ := lsa.rds_form hw3.rds
      rw [← HN.out] at hu
      subst hu
      clear p0 p1 p2 p3 p4 p5 p6 pz q0 q1 q2 q3 q4 q5 q6 q7 qz qf
      have X3 := Lib.hid (keptB X2.out hb3)
      have Y3 := Lib.hid (keptB Y2.out hb3)
      have HB3 := Lib.hid (HB2.out.trans (hb3.mono HB2.out.size))
      clear hb3
      have HW3 := Lib.hid hw3
      clear hw3
      obtain ⟨p0, p1, p2, p3, p4, p5, p6, pz⟩ := seven X3.out
      obtain ⟨q0, q1, q2, q3, q4, q5, q6, q7, qz, qf⟩ := eight Y3.out
      go_wp2_with fail
      clear p0 p1 p2 p3 p4 p5 p6 pz q0 q1 q2 q3 q4 q5 q6 q7 qz qf
      refine (MK.out _ (HB3.out.alloc HB3.out.size _)).mono ?_
      rintro e w4 ⟨rfl, hb4⟩
      have K4 := Lib.hid ((new1 w3 (.cells #[.int .i64 k, .int .i64 f, .int .i64 t, .int .i64 c, .slice ua n uc, str a, str b] 24)).trans (hb4.mono (by simp)))
      have T4 := Lib.hid (keptB (heap_alloc_new w3 (.cells #[.int .i64 k, .int .i64 f, .int .i64 t, .int .i64 c, .slice ua n uc, str a, str b] 24)) hb4)
      obtain ⟨t0, t1, t2, t3, t4, t5, t6, tz⟩ := seven T4.out
      have tf : ∀ o, w4.frozen? ⟨w3.heap.size, o, none⟩ = false := (fun o => by simp [World.frozen?, T4.out])
      clear hb4
      have K5 := Lib.hid (K4.out.setCell (p := ⟨w3.heap.size, 6, none⟩) (Nat.le_refl _) (.string ⟨M.toArray⟩))
      have z2 : w.heap.size + 1 < w2.heap.size := (Array.getElem?_eq_some_iff.1 Y2.out).1
      go_wp2_with fail
      refine (RR.out _ _ (Rds.below HW3.out.rds K5.out)).mono ?_
      rintro e w6 ⟨rfl, hb6⟩
      have K6 := K5.out.trans (hb6.mono K5.out.size)
      have X6 := Lib.hid (keptB X3.out K6)
      have Y6 := Lib.hid (keptB Y3.out K6)
      have HB6 := Lib.hid (HB3.out.trans (K6.mono HB3.out.size))
      have HW6 := Lib.hid (Wrs.below HW3.out K6)
      have s0 := (hb6.cell (p := ⟨w3.heap.size, 0, none⟩) (by simpa [World.setCell] using tz)).trans (show _ = some (Value.int .i64 k) by simp [go_sem, t0])
      have s1 := (hb6.cell (p := ⟨w3.heap.size, 1, none⟩) (by simpa [World.setCell] using tz)).trans (show _ = some (Value.int .i64 f) by simp [go_sem, t1])
      have s2 := (hb6.cell (p := ⟨w3.heap.size, 2, none⟩) (by simpa [World.setCell] using tz)).trans (show _ = some (Value.int .i64 t) by simp [go_sem, t2])
      have s3 := (hb6.cell (p := ⟨w3.heap.size, 3, none⟩) (by simpa [World.setCell] using tz)).trans (show _ = some (Value.int .i64 c) by simp [go_sem, t3])
      have s4 := (hb6.cell (p := ⟨w3.heap.size, 4, none⟩) (by simpa [World.setCell] using tz)).trans (show _ = some (Value.slice ua n uc) by simp [go_sem, t4])
      have s5 := (hb6.cell (p := ⟨w3.heap.size, 5, none⟩) (by simpa [World.setCell] using tz)).trans (show _ = some (str a) by simp [go_sem, t5])
      have s6 := (hb6.cell (p := ⟨w3.heap.size, 6, none⟩) (by simpa [World.setCell] using tz)).trans (show _ = some (str M) by simp [go_sem, t6])
      clear hb6 K6 t0 t1 t2 t3 t4 t5 t6 tf
      obtain ⟨p0, p1, p2, p3, p4, p5, p6, pz⟩ := seven X6.out
      obtain ⟨q0, q1, q2, q3, q4, q5, q6, q7, qz, qf⟩ := eight Y6.out
      cases o with
      | false =>
        simp only
        go_wp2_with fail
        refine bodyPost_ret (v := .agg #[.int .i64 0, .int .i64 0, .int .i64 0, .int .i64 0, .slice none 0 0, .string ⟨#[]⟩, .string ⟨#[]⟩, .int .i64 9]) (by simp [results, Tryz.results156, go_sem, q0, q1, q2, q3, q4, q5, q6, q7]) rfl ⟨_, rfl, ?_, .inl ⟨rfl, _, _, rfl⟩⟩
        exact set8 HB6.out (by simp) _ _ _ _ _ _ _ _
      | true =>
        simp only
        go_wp2_with fail
        refine bodyPost_ret (v := .agg #[.int .i64 k, .int .i64 f, .int .i64 t, .int .i64 c, .slice ua n uc, str a, str M, .int .i64 0]) (by simp [results, Tryz.results156, go_sem, q0, q1, q2, q3, q4, q5, q6, q7]) rfl ⟨_, rfl, set8 HB6.out (by simp) _ _ _ _ _ _ _ _, wset8 HW6.out z2 (by omega) _ _ _ _ _ _ _ _⟩

end Go.Proofs.YtonjohlecomeoaaGreat.sgx