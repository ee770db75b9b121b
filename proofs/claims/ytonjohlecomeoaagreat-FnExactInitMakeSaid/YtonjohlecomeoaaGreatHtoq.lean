/- The laws' helpers on HandOut: eqKeys, eqHandOut, markHandOut, heldHandOut (written by wip/gen_hto.py). -/
import Derived.Test.YtonjohlecomeoaaGreatQi
import Derived.Test.YtonjohlecomeoaaGreatQk
namespace Go.Proofs.YtonjohlecomeoaaGreat.hto
open Go.RowKit Go.Proofs.YtonjohlecomeoaaGreat.tm Go.Proofs.YtonjohlecomeoaaGreat.lib Go.Proofs.YtonjohlecomeoaaGreat.rdr Go.Proofs.YtonjohlecomeoaaGreat.bld Go.Proofs.YtonjohlecomeoaaGreat.app Go.Proofs.YtonjohlecomeoaaGreat.mrk Go.Proofs.YtonjohlecomeoaaGreat.mrs Go.Proofs.YtonjohlecomeoaaGreat.ltv Go.Proofs.YtonjohlecomeoaaGreat.ltp Go.Proofs.YtonjohlecomeoaaGreat.lth Go.Proofs.YtonjohlecomeoaaGreat.hdp Go.Proofs.YtonjohlecomeoaaGreat.hdv Go.Proofs.YtonjohlecomeoaaGreat.lto
set_option linter.unusedVariables false

set_option maxHeartbeats 1000000 in
set_option maxRecDepth 100000 in
theorem eqKeys_calls (x y z : Bs) (w : World) :
    Calls Tryz.prog 61 #[.agg #[str x, str y, str z], .agg #[str x, str y, str z]] w fun e w' => e = .returned (.bool true) ∧ Below w.heap.size w w' := by
  go_enter Tryz.func61, Tryz.ntmps61
  go_wp2_with fail
  go_ret
  exact ⟨rfl, (new1 _ _).alloc (by simp) _⟩

set_option maxHeartbeats 1000000 in
set_option maxRecDepth 100000 in
theorem eqH_calls (H : Hd) (va vb : Value) (w : World) (ha : Rds w va H.m.ps) (hb : Rds w vb H.m.ps) (hl : H.m.ps.length ≤ 100000000) :
    Calls Tryz.prog 11 #[.agg (hdA H va), .agg (hdA H vb)] w fun e w' => e = .returned (.bool true) ∧ Below w.heap.size w w' := by
  have es := fun w' k => eqLetter_calls H.m va vb w' (Rds.below ha k) (Rds.below hb k) hl
  obtain ⟨aa, ca, rfl⟩ := rds_form ha
  obtain ⟨ab, cb, rfl⟩ := rds_form hb
  have ek := fun w => eqKeys_calls H.send H.hear H.key w
  have ES := Lib.hid es
  have EK := Lib.hid ek
  clear ha hb es hl ek
  obtain ⟨⟨k, f, t, c, ps, a, b⟩, pe, st, ep, ch, se, he, ky, cd⟩ := H
  unfold hdA
  unfold letA at ES
  simp only at ES EK ⊢
  obtain ⟨n, hn⟩ : ∃ n, n = ps.length := ⟨_, rfl⟩
  rw [← hn] at ES ⊢
  clear hn
  have X := sgv.alloc2 w (.cells #[.int .i64 k, .int .i64 f, .int .i64 t, .int .i64 c, .slice aa n ca, str a, str b, str pe, str st, str ep, str ch, str se, str he, str ky, .int .i64 cd] 28) (.cells #[.int .i64 k, .int .i64 f, .int .i64 t, .int .i64 c, .slice ab n cb, str a, str b, str pe, str st, str ep, str ch, str se, str he, str ky, .int .i64 cd] 28)
  have X1 := Lib.hid X.1
  have X2 := Lib.hid X.2
  have HB0 := Lib.hid ((new1 w (.cells #[.int .i64 k, .int .i64 f, .int .i64 t, .int .i64 c, .slice aa n ca, str a, str b, str pe, str st, str ep, str ch, str se, str he, str ky, .int .i64 cd] 28)).alloc (by simp) (.cells #[.int .i64 k, .int .i64 f, .int .i64 t, .int .i64 c, .slice ab n cb, str a, str b, str pe, str st, str ep, str ch, str se, str he, str ky, .int .i64 cd] 28))
  clear X
  go_enter Tryz.func11, Tryz.ntmps11
  go_wp2_with fail
  refine (ES.out _ HB0.out).mono ?_
  rintro e w1 ⟨rfl, hs⟩
  have HB := Lib.hid (HB0.out.trans (hs.mono HB0.out.size))
  have Y1 := Lib.hid (blw.keptB X1.out hs)
  have Y2 := Lib.hid (blw.keptB X2.out hs)
  obtain ⟨p0, p1, p2, p3, p4, p5, p6, p7, p8, p9, p10, p11, p12, p13, p14, pz, pf⟩ := fifteen Y1.out
  obtain ⟨q0, q1, q2, q3, q4, q5, q6, q7, q8, q9, q10, q11, q12, q13, q14, qz, qf⟩ := fifteen Y2.out
  clear hs
  go_wp2_with fail
  refine (EK.out _).mono ?_
  rintro e w2 ⟨rfl, hs⟩
  have HC := Lib.hid (HB.out.trans (hs.mono HB.out.size))
  have Z1 := Lib.hid (blw.keptB Y1.out hs)
  have Z2 := Lib.hid (blw.keptB Y2.out hs)
  obtain ⟨r0, r1, r2, r3, r4, r5, r6, r7, r8, r9, r10, r11, r12, r13, r14, rz, rf⟩ := fifteen Z1.out
  obtain ⟨s0, s1, s2, s3, s4, s5, s6, s7, s8, s9, s10, s11, s12, s13, s14, sz, sf⟩ := fifteen Z2.out
  clear hs
  go_wp2_with fail
  go_ret
  exact ⟨rfl, HC.out⟩

set_option maxHeartbeats 1000000 in
set_option maxRecDepth 100000 in
theorem markH_calls (H : Hd) (v : Value) (B : Nat) (w : World) (h : Wrs w B v H.m.ps) (hl : H.m.ps.length ≤ 10000000) :
    Calls Tryz.prog 12 #[.agg (hdA H v), .int .i64 1] w fun e w' => e = .returned (.int .i64 (1 + H.m.ps.length : Nat)) ∧ Marked v H.m.ps w w' ∧ Rds w' v (marks 1 H.m.ps.length) := by
  have hc := fun w (h : Wrs w B v H.m.ps) => markL_calls H.m v B w h hl
  obtain ⟨ad, cap, rfl⟩ := rds_form h.rds
  have H0 := Lib.hid h
  have HC := Lib.hid hc
  clear h hc hl
  obtain ⟨⟨k, f, t, c, ps, a, b⟩, pe, st, ep, ch, se, he, ky, cd⟩ := H
  unfold letA at HC
  unfold hdA
  simp only at H0 HC ⊢
  obtain ⟨n, hn⟩ : ∃ n, n = ps.length := ⟨_, rfl⟩
  rw [← hn] at H0 HC ⊢
  clear hn
  go_enter Tryz.func12, Tryz.ntmps12
  go_wp2_with fail
  refine (HC.out _ (wrs_alloc H0.out _)).mono ?_
  rintro e w1 ⟨rfl, hb, hr⟩
  have HB := Lib.hid (Marked.after (new1 w (.cells #[.int .i64 k, .int .i64 f, .int .i64 t, .int .i64 c, .slice ad n cap, str a, str b, str pe, str st, str ep, str ch, str se, str he, str ky, .int .i64 cd] 28)) hb)
  have HR := Lib.hid hr
  clear hb hr
  go_wp2_with fail
  go_ret
  exact ⟨rfl, HB.out, HR.out⟩

set_option maxHeartbeats 1000000 in
set_option maxRecDepth 100000 in
theorem heldH_calls (H : Hd) (v : Value) (n : Nat) (w : World) (h : Rds w v (marks 1 n)) (hl : n ≤ 10000000) :
    Calls Tryz.prog 13 #[.agg (hdA H v), .int .i64 1] w fun e w' => e = .returned (.int .i64 (1 + n : Nat)) ∧ Below w.heap.size w w' := by
  have hc := fun w' (k : Below w.heap.size w w') => heldL_calls H.m v n w' (Rds.below h k) hl
  obtain ⟨ad, cap, hv⟩ := rds_form h
  have HC := Lib.hid hc
  clear h hc hl
  obtain ⟨M, hM⟩ : ∃ M, M = 1 + n := ⟨_, rfl⟩
  rw [← hM] at HC ⊢
  subst hv
  obtain ⟨⟨k, f, t, c, ps, a, b⟩, pe, st, ep, ch, se, he, ky, cd⟩ := H
  unfold letA at HC
  unfold hdA
  simp only at HC ⊢
  obtain ⟨N, hN⟩ : ∃ N, N = (marks 1 n).length := ⟨_, rfl⟩
  rw [← hN] at HC ⊢
  have d0 : decide ((M : Int) < 0) = false := by simp
  clear hM hN
  go_enter Tryz.func13, Tryz.ntmps13
  go_wp2_with fail
  refine (HC.out _ (new1 _ _)).mono ?_
  rintro e w1 ⟨rfl, hb⟩
  have HB := Lib.hid ((new1 w (.cells #[.int .i64 k, .int .i64 f, .int .i64 t, .int .i64 c, .slice ad N cap, str a, str b, str pe, str st, str ep, str ch, str se, str he, str ky, .int .i64 cd] 28)).trans (hb.mono (by simp)))
  clear hb
  go_wp2_with fail
  go_ret
  exact ⟨rfl, HB.out⟩
end Go.Proofs.YtonjohlecomeoaaGreat.hto
