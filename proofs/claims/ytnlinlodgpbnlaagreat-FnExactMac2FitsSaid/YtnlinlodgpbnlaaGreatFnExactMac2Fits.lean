/- Mac2Fits of the program answers as Mac2Fits of the model, for every letter and every text, and writes nothing into its argument; no condition. -/
import Derived.Test.YtnlinlodgpbnlaaGreatRows
import Derived.Test.YtnlinlodgpbnlaaGreatQc
import Derived.Test.YtnlinlodgpbnlaaGreatQd
import Derived.WalkKit
import Derived.Test.YtnlinlodgpbnlaaGreatQk
import Derived.Test.YtnlinlodgpbnlaaGreatFtmq
import Derived.Test.YtnlinlodgpbnlaaGreatQg
import Derived.RegionTactic
import Derived.BigRegion
import Derived.Deep.RegionWith
namespace Go.Proofs.YtnlinlodgpbnlaaGreat.fnExactMac2Fits
open Go.ChangeShapes Go.WideShapes Go.ChangeAt Go.RowKit
open Go.ChangeMaps (open_string shut_string)
open Go.Proofs.YtnlinlodgpbnlaaGreat.tm Go.Proofs.YtnlinlodgpbnlaaGreat.bld Go.Proofs.YtnlinlodgpbnlaaGreat.mrk Go.Proofs.YtnlinlodgpbnlaaGreat.frm
set_option linter.unusedVariables false

set_option maxHeartbeats 8000000 in
set_option maxRecDepth 100000 in
theorem walk (w : World) (m0 : ltv.Lt) (sv0 : Value) (h0 : fml.LtIn w m0 sv0) (a1 : ByteArray) (w1 : a1.size ≤ maxLen) :
    Calls Tryz.prog 8 #[.agg (ltv.letA m0 sv0), .string a1] w fun e w' => e = .returned (.bool true) ∧ Below w.heap.size w w' := by
  have hs1 := w1
  unfold maxLen at hs1
  by_cases hbig : 1048576 < a1.size
  · have d0 : decide ((1048576 : Int) < a1.size) = true := by simp; omega
    obtain ⟨ad, cap, hsv⟩ := lth.rds_form h0.rds
    rw [hsv]
    clear h0
    obtain ⟨k, f, t, c, ps, a, b⟩ := m0
    unfold ltv.letA
    simp only
    go_enter Tryz.func8, Tryz.ntmps8
    go_wp2_with fail
    go_ret
    exact ⟨rfl, lth.new1 _ _⟩
  have d9 : decide ((1048576 : Int) < a1.size) = false := by simp; omega
  have hlk : a1.data.toList.length ≤ 4000000 := by show a1.size ≤ 4000000; omega
  have sz := fun w' k => lth.szLetter_calls m0 sv0 w' (h0.below k)
  have SZ := Lib.hid sz
  have H := Lib.hid h0
  have tl := fun w' k (hs : lth.Small m0) => lth.toLetter_calls m0 sv0 w' (Rds.below h0.rds k) (by have := hs.len; omega)
  have rs := fun (w' : World) u (hs : lth.Small m0) h => ftm.fits2_calls m0 u a1.data.toList w' h (by have := hs.len; omega) (fun x hx => by have := hs.each x hx; omega) (by have := hs.a; omega) (by have := hs.b; omega) hlk
  have ri := fun (w' : World) u (hs : lth.Small m0) h => fts.implFits2_calls m0 u a1.data.toList w' h (by have := hs.len; omega) (fun x hx => by have := hs.each x hx; omega) (by have := hs.a; omega) (by have := hs.b; omega) hlk
  have eq := fun (w' : World) u v (hs : lth.Small m0) h k => lth.eqLetter_calls m0 u v w' h k (by have := hs.len; omega)
  obtain ⟨ad, cap, hsv⟩ := lth.rds_form h0.rds
  rw [hsv] at SZ tl ⊢
  obtain ⟨bb, hbb⟩ : ∃ b, b = ltp.fits2 m0 a1.data.toList := ⟨_, rfl⟩
  simp only [← hbb] at rs ri
  change ∀ (w' : World) u (hs : lth.Small m0) h, Calls _ _ #[_, .string a1] w' _ at rs
  change ∀ (w' : World) u (hs : lth.Small m0) h, Calls _ _ #[_, .string a1] w' _ at ri
  have TL := Lib.hid tl
  have RS := Lib.hid rs
  have RI := Lib.hid ri
  have EQ := Lib.hid eq
  unfold ltv.letA at SZ TL RS RI EQ ⊢
  obtain ⟨k, f, t, c, ps, a, b⟩ := m0
  simp only at SZ TL RS RI EQ ⊢
  obtain ⟨n, hn⟩ : ∃ n, n = ps.length := ⟨_, rfl⟩
  rw [← hn] at SZ TL ⊢
  have HN := Lib.hid hn
  have H0 := Lib.hid h0.rds
  clear h0 sz tl rs ri eq hsv hbb hn hlk hs1 hbig
  go_enter Tryz.func8, Tryz.ntmps8
  go_wp2_with fail
  refine (SZ.out _ (lth.new1 _ _)).mono ?_
  rintro e w1 ⟨hb, rfl | ⟨L, rfl, hs⟩⟩
  · have HB := Lib.hid ((lth.new1 _ _).trans (hb.mono (by simp)))
    clear hb
    go_wp2_with fail
    go_ret
    exact ⟨rfl, HB.out⟩
  have HS := Lib.hid hs
  have X1 := Lib.hid (lri.keptB (heap_alloc_new w _) hb)
  have HB1 := Lib.hid ((lth.new1 _ _).trans (hb.mono (by simp)))
  clear hb hs
  obtain ⟨p0, p1, p2, p3, p4, p5, p6, pz⟩ := lth.seven X1.out
  have d0 : decide ((L : Int) < 0) = false := by simp
  go_wp2_with fail
  refine (TL.out _ HB1.out HS.out).mono ?_
  rintro e w2 ⟨u2, rfl, hb2, hw2⟩
  obtain ⟨a2, c2, rfl⟩ := lth.rds_form hw2.rds
  have HB2 := Lib.hid (HB1.out.trans (hb2.mono HB1.out.size))
  have X2 := Lib.hid (lri.keptB X1.out hb2)
  have R2 := Lib.hid hw2.rds
  clear hb2 hw2 p0 p1 p2 p3 p4 p5 p6 pz
  go_wp2_with fail
  refine (RS.out _ _ HS.out R2.out).mono ?_
  rintro e w3 ⟨rfl, hb3⟩
  have HB3 := Lib.hid (HB2.out.trans (hb3.mono HB2.out.size))
  have X3 := Lib.hid (lri.keptB X2.out hb3)
  clear hb3
  obtain ⟨p0, p1, p2, p3, p4, p5, p6, pz⟩ := lth.seven X3.out
  go_wp2_with fail
  refine (TL.out _ HB3.out HS.out).mono ?_
  rintro e w4 ⟨u4, rfl, hb4, hw4⟩
  obtain ⟨a4, c4, rfl⟩ := lth.rds_form hw4.rds
  have HB4 := Lib.hid (HB3.out.trans (hb4.mono HB3.out.size))
  have X4 := Lib.hid (lri.keptB X3.out hb4)
  have R4 := Lib.hid hw4.rds
  clear hb4 hw4 p0 p1 p2 p3 p4 p5 p6 pz
  go_wp2_with fail
  have Y4 := Lib.hid (heap_alloc_new w4 (.cells #[.int .i64 k, .int .i64 f, .int .i64 t, .int .i64 c, .slice a4 ps.length c4, .string ⟨a.toArray⟩, .string ⟨b.toArray⟩] 53))
  have q1 := lri.new1 w4 (.cells #[.int .i64 k, .int .i64 f, .int .i64 t, .int .i64 c, .slice a4 ps.length c4, .string ⟨a.toArray⟩, .string ⟨b.toArray⟩] 53)
  have X5 := Lib.hid (lri.keptB X4.out q1)
  have R5 := Lib.hid (Rds.below R4.out q1)
  have HB5 := Lib.hid (HB4.out.trans (q1.mono HB4.out.size))
  clear q1
  go_wp2_with fail
  refine (RI.out _ _ HS.out R5.out).mono ?_
  rintro e w6 ⟨rfl, hb6⟩
  have HB6 := Lib.hid (HB5.out.trans (hb6.mono HB5.out.size))
  have X6 := Lib.hid (lri.keptB X5.out hb6)
  have Y6 := Lib.hid (lri.keptB Y4.out hb6)
  have R6 := Lib.hid (Rds.below R5.out hb6)
  clear hb6 X4 X5 Y4 R4 R5 HB4 HB5 R2 X2 X3 HB2 HB3
  obtain ⟨p0, p1, p2, p3, p4, p5, p6, pz⟩ := lth.seven X6.out
  obtain ⟨q0, q1, q2, q3, q4, q5, q6, qz⟩ := lth.seven Y6.out
  have db : (bb != bb) = false := by simp
  go_wp2_with fail
  have HD := Lib.hid (HB6.out.trans ((rdr.Still.drewN w6 1).below _))
  have RD := Lib.hid (Rds.still R6.out (rdr.Still.drewN w6 1))
  clear R6 HB6 HB1
  go_region_with (first | (go_at_call 46; refine (TL.out _ HD.out HS.out).mono ?_; rintro e w7 ⟨u7, rfl, hb7, hw7⟩; obtain ⟨a7, c7, rfl⟩ := lth.rds_form hw7.rds; have RW := Lib.hid hw7.rds; have RZ := Lib.hid (Rds.below RD.out hb7); have HB7 := Lib.hid (HD.out.trans (hb7.mono HD.out.size)); have P7 := lri.keptB (W := w6.drew) Y6.out hb7; obtain ⟨s0, s1, s2, s3, s4, s5, s6, sz⟩ := lth.seven P7; clear P7 hb7 hw7) | (go_at_call 49; refine (EQ.out _ _ _ HS.out RZ.out RW.out).mono ?_; rintro e w8 ⟨rfl, hb8⟩; have HB8 := Lib.hid (HB7.out.trans (hb8.mono HB7.out.size)); clear hb8))
  all_goals (go_wp2_with fail; go_ret; exact ⟨rfl, HB8.out⟩)

set_option maxRecDepth 100000 in
theorem lifted (os : Os) (started : os.Started) (H : Type) (enc : TypeId × Value → H) :
    ReturnsInHanded {} Tryz.checked os 8 .any (Rows.fnExactMac2FitsSpec.pre6 enc Tryz.prog Tryz.f8 Rows.fnExactMac2FitsRow.domain false) (Rows.fnExactMac2FitsSpec.post enc Tryz.prog Tryz.f8 false true false false) := by
  refine returnsInHanded_of_change (C := Tryz.checked) frm.own started (by kernel_rfl) Tryz.func8
    (ChangeSpec.witness6 (enc := enc) (C := Tryz.checked) false ⟨#[], #[.agg #[.int .i64 0, .int .i64 0, .int .i64 0, .int .i64 0, .slice none 0 0, .string ByteArray.empty, .string ByteArray.empty], .string ByteArray.empty], []⟩ 8 (by kernel_rfl) (by kernel_rfl) (by kernel_rfl) (by kernel_rfl)) ?_
  intro W base args ds gs before hval0 hW hcnd _
  have hval : ∀ (j : Nat) t v, Tryz.f8.params[j]? = some t → args[j]? = some v → Value.okWide Tryz.prog W .any base t v := hval0
  have hW' := hW
  obtain ⟨p, q, hA0, hV, rfl, hfz, hnd⟩ := hW
  have hlt : ∀ x ∈ p, x.block < W.heap.size := fun x hx => hW'.lt x (by simp [hx])
  have hA : DataW.TrodAll enc Tryz.prog W 0 (fun _ => true) true Tryz.f8.params.toList args.toList ds p := hA0
  rw [Tryz.params8] at hA hval
  obtain ⟨v0, vs0, d0, ds0, p0, q0, hargs, rfl, rfl, g0, r0⟩ := trodAll_cons hA
  obtain ⟨v1, vs1, d1, ds1, p1, q1, rfl, rfl, rfl, g1, r1⟩ := trodAll_cons r0
  obtain ⟨rfl, rfl, rfl⟩ := trodAll_nil r1
  obtain rfl : args = #[v0, v1] := by cases args; simp_all
  obtain ⟨rfl, rfl⟩ := trodVars_none hV
  obtain ⟨m0, sv0, rfl, hl0⟩ := fml.open_letter (hval 0 51 v0 rfl rfl) g0
  obtain ⟨a1, rfl, rfl, rfl, w1⟩ := open_string Tryz.underlying9 (hval 1 9 v1 rfl rfl) g1
  clear hA0 hval0
  refine (walk W m0 sv0 hl0 a1 w1).mono fun e W' ⟨he, hg⟩ => ?_
  subst he
  exact ⟨_, rfl, _, _, _, [], _, [], hW', (trodAll_cons_mk (shut_bool Tryz.underlying4 _) trodAll_mk0), (trodAll_cons_mk (Below.trod frm.laidOut (by kernel_rfl) (of_decide_eq_true (by kernel_rfl)) g0 hg (fun x hx => hlt x (by simp [hx]))) (trodAll_cons_mk (shut_string Tryz.underlying9 w1) trodAll_mk0)), rfl, hg.frame _, fun h => by cases h⟩

set_option maxRecDepth 100000 in
theorem over : Rows.fnExactMac2FitsRow.holds Tryz.pinned (OpenSpec.ofChange Rows.fnExactMac2FitsSpec) :=
  OpenClaim.holds_of_wide 8 Tryz.f8 rfl rfl rfl rfl rfl rfl rfl ⟨rfl, rfl, rfl, rfl, rfl⟩ rfl rfl rfl rfl rfl (by kernel_rfl) Tryz.func8 (by kernel_rfl)
    (of_decide_eq_true (by kernel_rfl)) (by unfold Func.isWrapper; first | (rw [if_pos (by decide +kernel)]; kernel_rfl) | (rw [if_neg (by decide +kernel)]; exact ⟨rfl, rfl⟩))
    (fun os started H enc _ => lifted os started H enc)

theorem proved : Rows.FnExactMac2FitsSaid :=
  over

end Go.Proofs.YtnlinlodgpbnlaaGreat.fnExactMac2Fits
