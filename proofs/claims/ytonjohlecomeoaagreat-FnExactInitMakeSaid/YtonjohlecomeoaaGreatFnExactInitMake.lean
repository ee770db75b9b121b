/- InitMake of the program answers as InitMake of the model, every field, for every number and every four texts; its list is its own; no condition. -/
import Derived.Test.YtonjohlecomeoaaGreatRows
import Derived.Test.YtonjohlecomeoaaGreatQc
import Derived.WalkKit
import Derived.Test.YtonjohlecomeoaaGreatSiaq
import Derived.Test.YtonjohlecomeoaaGreatIifq
import Derived.Test.YtonjohlecomeoaaGreatHtoq
import Derived.Test.YtonjohlecomeoaaGreatQm
namespace Go.Proofs.YtonjohlecomeoaaGreat.fnExactInitMake
open Go.ChangeShapes Go.WideShapes Go.ChangeAt Go.RowKit
open Go.ChangeMaps (open_string shut_string)
open Go.Proofs.YtonjohlecomeoaaGreat.tm Go.Proofs.YtonjohlecomeoaaGreat.bld Go.Proofs.YtonjohlecomeoaaGreat.mrk Go.Proofs.YtonjohlecomeoaaGreat.frm
set_option linter.unusedVariables false

set_option maxHeartbeats 32000000 in
set_option maxRecDepth 100000 in
theorem walk (w : World) (n0 : Int) (w0 : (Lit.int .i64 n0).wf = true) (a1 : ByteArray) (w1 : a1.size ≤ maxLen) (a2 : ByteArray) (w2 : a2.size ≤ maxLen) (a3 : ByteArray) (w3 : a3.size ≤ maxLen) (a4 : ByteArray) (w4 : a4.size ≤ maxLen) :
    Calls Tryz.prog 3 #[.int .i64 n0, .string a1, .string a2, .string a3, .string a4] w fun e w' => e = .returned (.bool true) ∧ Below w.heap.size w w' := by
  have hs1 := w1
  unfold maxLen at hs1
  have hs2 := w2
  unfold maxLen at hs2
  have hs3 := w3
  unfold maxLen at hs3
  have hs4 := w4
  unfold maxLen at hs4
  by_cases hbig1 : 1048576 < a1.size
  · have d1 : decide ((1048576 : Int) < a1.size) = true := by simp; omega
    go_enter Tryz.func3, Tryz.ntmps3
    go_wp2_with fail
    go_ret
    exact ⟨rfl, Below.refl _ _⟩
  have d1 : decide ((1048576 : Int) < a1.size) = false := by simp; omega
  by_cases hbig2 : 1048576 < a2.size
  · have d2 : decide ((1048576 : Int) < a2.size) = true := by simp; omega
    go_enter Tryz.func3, Tryz.ntmps3
    go_wp2_with fail
    go_ret
    exact ⟨rfl, Below.refl _ _⟩
  have d2 : decide ((1048576 : Int) < a2.size) = false := by simp; omega
  by_cases hbig3 : 1048576 < a3.size
  · have d3 : decide ((1048576 : Int) < a3.size) = true := by simp; omega
    go_enter Tryz.func3, Tryz.ntmps3
    go_wp2_with fail
    go_ret
    exact ⟨rfl, Below.refl _ _⟩
  have d3 : decide ((1048576 : Int) < a3.size) = false := by simp; omega
  by_cases hbig4 : 1048576 < a4.size
  · have d4 : decide ((1048576 : Int) < a4.size) = true := by simp; omega
    go_enter Tryz.func3, Tryz.ntmps3
    go_wp2_with fail
    go_ret
    exact ⟨rfl, Below.refl _ _⟩
  have d4 : decide ((1048576 : Int) < a4.size) = false := by simp; omega
  have rs := fun w => sim.specInit_calls n0 a1.data.toList a2.data.toList a3.data.toList a4.data.toList w (by show a1.size ≤ _; omega) (by show a2.size ≤ _; omega) (by show a3.size ≤ _; omega) (by show a4.size ≤ _; omega)
  have ri := fun w => iih.implInit_calls n0 a1.data.toList a2.data.toList a3.data.toList a4.data.toList w (by show a1.size ≤ _; omega) (by show a2.size ≤ _; omega) (by show a3.size ≤ _; omega) (by show a4.size ≤ _; omega)
  have hps := hds.initR_ps n0 a1.data.toList a2.data.toList a3.data.toList a4.data.toList
  obtain ⟨H, hH⟩ : ∃ H, H = hdp.initR n0 a1.data.toList a2.data.toList a3.data.toList a4.data.toList := ⟨_, rfl⟩
  simp only [← hH] at rs ri hps
  change ∀ w, Calls _ _ #[.int .i64 n0, .string a1, .string a2, .string a3, .string a4] w _ at rs
  change ∀ w, Calls _ _ #[.int .i64 n0, .string a1, .string a2, .string a3, .string a4] w _ at ri
  unfold hdv.HEnd at rs ri
  have eo := fun (w' : World) u v h k => hto.eqH_calls H u v w' h k (by omega)
  have mk := fun (w' : World) B u h => hto.markH_calls H u B w' h (by omega)
  have hd := fun (w' : World) u h => hto.heldH_calls H u H.m.ps.length w' h (by omega)
  unfold hdv.hdA at rs ri eo mk hd
  obtain ⟨⟨k, f, t, c, ps, a, b⟩, pe, st, ep, ch, se, he, ky, cd⟩ := H
  simp only at rs ri eo mk hd hps
  have RS := Lib.hid rs
  have RI := Lib.hid ri
  have EO := Lib.hid eo
  have MK := Lib.hid mk
  have HD := Lib.hid hd
  clear rs ri eo mk hd hH
  go_enter Tryz.func3, Tryz.ntmps3
  go_wp2_with fail
  refine (RS.out _).mono ?_
  rintro e wb ⟨us, rfl, hb, hw⟩
  obtain ⟨az, cz, rfl⟩ := hms.rds_form hw.rds
  have HBb := Lib.hid hb
  have USb := Lib.hid (mrd.Wb.of hw)
  clear hb hw
  go_wp2_with fail
  have kY := blw.al0 (w := wb) (.cells #[.int .i64 k, .int .i64 f, .int .i64 t, .int .i64 c, .slice az ps.length cz, .string ⟨a.toArray⟩, .string ⟨b.toArray⟩, .string ⟨pe.toArray⟩, .string ⟨st.toArray⟩, .string ⟨ep.toArray⟩, .string ⟨ch.toArray⟩, .string ⟨se.toArray⟩, .string ⟨he.toArray⟩, .string ⟨ky.toArray⟩, .int .i64 cd] 28)
  have Y1 := Lib.hid (heap_alloc_new wb (.cells #[.int .i64 k, .int .i64 f, .int .i64 t, .int .i64 c, .slice az ps.length cz, .string ⟨a.toArray⟩, .string ⟨b.toArray⟩, .string ⟨pe.toArray⟩, .string ⟨st.toArray⟩, .string ⟨ep.toArray⟩, .string ⟨ch.toArray⟩, .string ⟨se.toArray⟩, .string ⟨he.toArray⟩, .string ⟨ky.toArray⟩, .int .i64 cd] 28))
  have US1 := Lib.hid (USb.out.below kY)
  have HB1 := Lib.hid (HBb.out.trans (kY.mono HBb.out.size))
  have z0 := HBb.out.size
  clear kY USb
  refine (RI.out _).mono ?_
  rintro e wc ⟨ug, rfl, hb, hw⟩
  obtain ⟨ag, cg, rfl⟩ := hms.rds_form hw.rds
  have HBc := Lib.hid (HB1.out.trans (hb.mono HB1.out.size))
  have Yc := Lib.hid (blw.keptB Y1.out hb)
  have USc := Lib.hid (US1.out.below hb)
  have UGc := Lib.hid (mrd.Wb.of hw)
  have z1 := hb.size
  rw [World.size_alloc] at z1
  clear hb hw US1 HB1 Y1 HBb
  obtain ⟨y0, y1, y2, y3, y4, y5, y6, y7, y8, y9, y10, y11, y12, y13, y14, yz, yf⟩ := hdv.fifteen Yc.out
  go_wp2_with fail
  have kG := blw.al0 (w := wc) (.cells #[.int .i64 k, .int .i64 f, .int .i64 t, .int .i64 c, .slice ag ps.length cg, .string ⟨a.toArray⟩, .string ⟨b.toArray⟩, .string ⟨pe.toArray⟩, .string ⟨st.toArray⟩, .string ⟨ep.toArray⟩, .string ⟨ch.toArray⟩, .string ⟨se.toArray⟩, .string ⟨he.toArray⟩, .string ⟨ky.toArray⟩, .int .i64 cd] 28)
  have YD := Lib.hid (blw.keptB Yc.out kG)
  have GD := Lib.hid (heap_alloc_new wc (.cells #[.int .i64 k, .int .i64 f, .int .i64 t, .int .i64 c, .slice ag ps.length cg, .string ⟨a.toArray⟩, .string ⟨b.toArray⟩, .string ⟨pe.toArray⟩, .string ⟨st.toArray⟩, .string ⟨ep.toArray⟩, .string ⟨ch.toArray⟩, .string ⟨se.toArray⟩, .string ⟨he.toArray⟩, .string ⟨ky.toArray⟩, .int .i64 cd] 28))
  have USD := Lib.hid (USc.out.below kG)
  have UGD := Lib.hid (UGc.out.below kG)
  have HBD := Lib.hid (HBc.out.trans (kG.mono HBc.out.size))
  clear kG y0 y1 y2 y3 y4 y5 y6 y7 y8 y9 y10 y11 y12 y13 y14 yz yf
  refine (EO.out _ _ _ UGD.out.wrs.rds USD.out.rb.rds).mono ?_
  rintro e we ⟨rfl, hb⟩
  have HBe := Lib.hid (HBD.out.trans (hb.mono HBD.out.size))
  have Ye := Lib.hid (blw.keptB YD.out hb)
  have Ge := Lib.hid (blw.keptB GD.out hb)
  have USe := Lib.hid (USD.out.below hb)
  have UGe := Lib.hid (UGD.out.below hb)
  clear hb HBD YD GD USD UGD HBc Yc USc UGc
  obtain ⟨g0, g1, g2, g3, g4, g5, g6, g7, g8, g9, g10, g11, g12, g13, g14, gz, gf⟩ := hdv.fifteen Ge.out
  go_wp2_with fail
  refine (MK.out _ _ _ UGe.out.wrs).mono ?_
  rintro e wk ⟨rfl, hm, hk⟩
  have HBk := Lib.hid (mrd.Marked.low HBe.out hm HBe.out.size UGe.out.blk (by first | (simp; done) | (simp; omega)))
  have Yk := Lib.hid (lto.keptM Ye.out hm (fun hne e => by have := UGe.out.blk hne _ e; first | omega | (simp at this; done) | (simp at this; omega)))
  have Gk := Lib.hid (lto.keptM Ge.out hm (fun hne e => by have := UGe.out.blk hne _ e; first | omega | (simp at this; done) | (simp at this; omega)))
  have USk := Lib.hid (USe.out.apart hm UGe.out.blk (by first | (simp; done) | (simp; omega)))
  have Kk := Lib.hid hk
  clear hm hk HBe Ye Ge USe UGe g0 g1 g2 g3 g4 g5 g6 g7 g8 g9 g10 g11 g12 g13 g14 gz gf
  obtain ⟨M, hM⟩ : ∃ m, m = 1 + ps.length := ⟨_, rfl⟩
  rw [← hM] at HD ⊢
  have dM : decide ((M : Int) < 0) = false := by simp
  clear hM
  obtain ⟨g0, g1, g2, g3, g4, g5, g6, g7, g8, g9, g10, g11, g12, g13, g14, gz, gf⟩ := hdv.fifteen Gk.out
  go_wp2_with fail
  refine (HD.out _ _ Kk.out).mono ?_
  rintro e wl ⟨rfl, hb⟩
  have HBl := Lib.hid (HBk.out.trans (hb.mono HBk.out.size))
  have Yl := Lib.hid (blw.keptB Yk.out hb)
  have Gl := Lib.hid (blw.keptB Gk.out hb)
  have USl := Lib.hid (USk.out.below hb)
  have Kl := Lib.hid (Rds.below Kk.out hb)
  clear hb HBk Yk Gk USk Kk g0 g1 g2 g3 g4 g5 g6 g7 g8 g9 g10 g11 g12 g13 g14 gz gf
  as_aux_lemma =>
    go_wp2_with fail
    refine (RI.out _).mono ?_
    rintro e wm ⟨uh, rfl, hb, hw⟩
    obtain ⟨ah, ch2, rfl⟩ := hms.rds_form hw.rds
    have HBm := Lib.hid (HBl.out.trans (hb.mono HBl.out.size))
    have Ym := Lib.hid (blw.keptB Yl.out hb)
    have Gm := Lib.hid (blw.keptB Gl.out hb)
    have USm := Lib.hid (USl.out.below hb)
    have Km := Lib.hid (Rds.below Kl.out hb)
    have UHm := Lib.hid hw.rds
    clear hb hw HBl Yl Gl USl Kl
    obtain ⟨y0, y1, y2, y3, y4, y5, y6, y7, y8, y9, y10, y11, y12, y13, y14, yz, yf⟩ := hdv.fifteen Ym.out
    go_wp2_with fail
    have kH := blw.al0 (w := wm) (.cells #[.int .i64 k, .int .i64 f, .int .i64 t, .int .i64 c, .slice ah ps.length ch2, .string ⟨a.toArray⟩, .string ⟨b.toArray⟩, .string ⟨pe.toArray⟩, .string ⟨st.toArray⟩, .string ⟨ep.toArray⟩, .string ⟨ch.toArray⟩, .string ⟨se.toArray⟩, .string ⟨he.toArray⟩, .string ⟨ky.toArray⟩, .int .i64 cd] 28)
    have HBM := Lib.hid (HBm.out.trans (kH.mono HBm.out.size))
    have GM := Lib.hid (blw.keptB Gm.out kH)
    have USM := Lib.hid (USm.out.below kH)
    have KM := Lib.hid (Rds.below Km.out kH)
    have UHM := Lib.hid (Rds.below UHm.out kH)
    clear kH HBm Ym Gm USm Km UHm y0 y1 y2 y3 y4 y5 y6 y7 y8 y9 y10 y11 y12 y13 y14 yz yf
    refine (EO.out _ _ _ UHM.out USM.out.rb.rds).mono ?_
    rintro e wn ⟨rfl, hb⟩
    have HBn := Lib.hid (HBM.out.trans (hb.mono HBM.out.size))
    have Gn := Lib.hid (blw.keptB GM.out hb)
    have Kn := Lib.hid (Rds.below KM.out hb)
    clear hb HBM GM USM KM UHM
    obtain ⟨g0, g1, g2, g3, g4, g5, g6, g7, g8, g9, g10, g11, g12, g13, g14, gz, gf⟩ := hdv.fifteen Gn.out
    go_wp2_with fail
    refine (HD.out _ _ Kn.out).mono ?_
    rintro e wo ⟨rfl, hb⟩
    have HBo := Lib.hid (HBn.out.trans (hb.mono HBn.out.size))
    clear hb HBn Gn Kn g0 g1 g2 g3 g4 g5 g6 g7 g8 g9 g10 g11 g12 g13 g14 gz gf
    go_wp2_with fail
    go_ret
    exact ⟨rfl, HBo.out⟩

set_option maxRecDepth 100000 in
theorem lifted (os : Os) (started : os.Started) (H : Type) (enc : TypeId × Value → H) :
    ReturnsInHanded {} Tryz.checked os 3 .any (Rows.fnExactInitMakeSpec.pre6 enc Tryz.prog Tryz.f3 Rows.fnExactInitMakeRow.domain false) (Rows.fnExactInitMakeSpec.post enc Tryz.prog Tryz.f3 false true false false) := by
  refine returnsInHanded_of_change (C := Tryz.checked) frm.own started (by kernel_rfl) Tryz.func3
    (ChangeSpec.witness6 (enc := enc) (C := Tryz.checked) false ⟨#[], #[.int .i64 0, .string ByteArray.empty, .string ByteArray.empty, .string ByteArray.empty, .string ByteArray.empty], []⟩ 8 (by kernel_rfl) (by kernel_rfl) (by kernel_rfl) (by kernel_rfl)) ?_
  intro W base args ds gs before hval0 hW hcnd _
  have hval : ∀ (j : Nat) t v, Tryz.f3.params[j]? = some t → args[j]? = some v → Value.okWide Tryz.prog W .any base t v := hval0
  have hW' := hW
  obtain ⟨p, q, hA0, hV, rfl, hfz, hnd⟩ := hW
  have hlt : ∀ x ∈ p, x.block < W.heap.size := fun x hx => hW'.lt x (by simp [hx])
  have hA : DataW.TrodAll enc Tryz.prog W 0 (fun _ => true) true Tryz.f3.params.toList args.toList ds p := hA0
  rw [Tryz.params3] at hA hval
  obtain ⟨v0, vs0, d0, ds0, p0, q0, hargs, rfl, rfl, g0, r0⟩ := trodAll_cons hA
  obtain ⟨v1, vs1, d1, ds1, p1, q1, rfl, rfl, rfl, g1, r1⟩ := trodAll_cons r0
  obtain ⟨v2, vs2, d2, ds2, p2, q2, rfl, rfl, rfl, g2, r2⟩ := trodAll_cons r1
  obtain ⟨v3, vs3, d3, ds3, p3, q3, rfl, rfl, rfl, g3, r3⟩ := trodAll_cons r2
  obtain ⟨v4, vs4, d4, ds4, p4, q4, rfl, rfl, rfl, g4, r4⟩ := trodAll_cons r3
  obtain ⟨rfl, rfl, rfl⟩ := trodAll_nil r4
  obtain rfl : args = #[v0, v1, v2, v3, v4] := by cases args; simp_all
  obtain ⟨rfl, rfl⟩ := trodVars_none hV
  obtain ⟨n0, rfl, rfl, rfl, w0⟩ := open_int Tryz.underlying2 (hval 0 2 v0 rfl rfl) g0
  obtain ⟨a1, rfl, rfl, rfl, w1⟩ := open_string Tryz.underlying9 (hval 1 9 v1 rfl rfl) g1
  obtain ⟨a2, rfl, rfl, rfl, w2⟩ := open_string Tryz.underlying9 (hval 2 9 v2 rfl rfl) g2
  obtain ⟨a3, rfl, rfl, rfl, w3⟩ := open_string Tryz.underlying9 (hval 3 9 v3 rfl rfl) g3
  obtain ⟨a4, rfl, rfl, rfl, w4⟩ := open_string Tryz.underlying9 (hval 4 9 v4 rfl rfl) g4
  clear hA0 hval0
  refine (walk W n0 w0 a1 w1 a2 w2 a3 w3 a4 w4).mono fun e W' ⟨he, hg⟩ => ?_
  subst he
  exact ⟨_, rfl, _, _, _, [], _, [], hW', (trodAll_cons_mk (shut_bool Tryz.underlying4 _) trodAll_mk0), (trodAll_cons_mk (Below.trod frm.laidOut (by kernel_rfl) (of_decide_eq_true (by kernel_rfl)) g0 hg (fun x hx => by cases hx)) (trodAll_cons_mk (shut_string Tryz.underlying9 w1) (trodAll_cons_mk (shut_string Tryz.underlying9 w2) (trodAll_cons_mk (shut_string Tryz.underlying9 w3) (trodAll_cons_mk (shut_string Tryz.underlying9 w4) trodAll_mk0))))), rfl, hg.frame _, fun h => by cases h⟩

set_option maxRecDepth 100000 in
theorem over : Rows.fnExactInitMakeRow.holds Tryz.pinned (OpenSpec.ofChange Rows.fnExactInitMakeSpec) :=
  OpenClaim.holds_of_wide 3 Tryz.f3 rfl rfl rfl rfl rfl rfl rfl ⟨rfl, rfl, rfl, rfl, rfl⟩ rfl rfl rfl rfl rfl (by kernel_rfl) Tryz.func3 (by kernel_rfl)
    (of_decide_eq_true (by kernel_rfl)) (by unfold Func.isWrapper; first | (rw [if_pos (by decide +kernel)]; kernel_rfl) | (rw [if_neg (by decide +kernel)]; exact ⟨rfl, rfl⟩))
    (fun os started H enc _ => lifted os started H enc)

theorem proved : Rows.FnExactInitMakeSaid :=
  over

end Go.Proofs.YtonjohlecomeoaaGreat.fnExactInitMake
