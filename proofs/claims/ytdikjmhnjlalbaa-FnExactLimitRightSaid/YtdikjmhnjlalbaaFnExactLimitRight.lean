/- LimitRight of the program answers as LimitRight of the model, for every limit, and writes nothing into its argument; no condition. -/
import Derived.Test.YtdikjmhnjlalbaaRows
import Derived.Test.YtdikjmhnjlalbaaFrm
import Derived.Test.YtdikjmhnjlalbaaFmm
import Derived.WalkKit
import Derived.Test.YtdikjmhnjlalbaaLms
import Derived.Test.YtdikjmhnjlalbaaBlo
import Derived.RegionTactic
import Derived.BigRegion
import Derived.Deep.RegionWith
namespace Go.Proofs.Ytdikjmhnjlalbaa.fnExactLimitRight
open Go.ChangeShapes Go.WideShapes Go.ChangeAt Go.RowKit
open Go.ChangeMaps (open_string shut_string)
open Go.Proofs.Ytdikjmhnjlalbaa.tm Go.Proofs.Ytdikjmhnjlalbaa.bld Go.Proofs.Ytdikjmhnjlalbaa.mrk Go.Proofs.Ytdikjmhnjlalbaa.frm
set_option linter.unusedVariables false

set_option maxHeartbeats 8000000 in
set_option maxRecDepth 100000 in
theorem walk (w : World) (rate0 burst0 : Int) (sv0 : Value) (bs0 : List gdp.Bk) (h0 : fmg.LmIn w rate0 burst0 sv0 bs0) :
    Calls Try.prog 4 #[.agg (rbk.lmA rate0 burst0 sv0)] w fun e w' => e = .returned (.bool true) ∧ Below w.heap.size w w' := by
  have hbw := fun w' (k : Below w.heap.size w w') => h0.below k
  have sz := fun w' k => blh.szLimit_calls rate0 burst0 sv0 bs0 w' (hbw w' k)
  have SZ := Lib.hid sz
  have tl := fun w' k (hl : bs0.length ≤ 1048576) => blo.toLimit_calls rate0 burst0 sv0 bs0 w' (h0.rbk.below k) (by omega)
  have rs := fun (w' : World) u (hl : bs0.length ≤ 1048576) (hs : ∀ b ∈ bs0, b.st.length ≤ 1048576) h => lms.specLim_calls rate0 burst0 u bs0 w' h (by omega) (fun b hb => by have := hs b hb; omega)
  have ri := fun (w' : World) u (hl : bs0.length ≤ 1048576) (hs : ∀ b ∈ bs0, b.st.length ≤ 1048576) h => lmr.implLim_calls rate0 burst0 u bs0 w' h (by omega) (fun b hb => by have := hs b hb; omega)
  have eq := fun (w' : World) u v (hl : bs0.length ≤ 1048576) h k => blo.eqLimit_calls rate0 burst0 u v bs0 w' h k (by omega)
  obtain ⟨bb, hbb⟩ : ∃ b, b = gdp.limR rate0 burst0 bs0 := ⟨_, rfl⟩
  simp only [← hbb] at rs ri
  obtain ⟨ad, cap, hsv⟩ := h0.rbk.form
  rw [hsv] at SZ tl ⊢
  have TL := Lib.hid tl
  have RS := Lib.hid rs
  have RI := Lib.hid ri
  have EQ := Lib.hid eq
  unfold rbk.lmA at SZ TL RS RI EQ ⊢
  obtain ⟨n, hn⟩ : ∃ n, n = bs0.length := ⟨_, rfl⟩
  rw [← hn] at SZ TL ⊢
  have HN := Lib.hid hn
  clear h0 hbw sz tl rs ri eq hsv hbb hn
  have db : (bb != bb) = false := by simp
  go_enter Try.func4, Try.ntmps4
  go_wp2_with fail
  refine (SZ.out _ (glh.new1 _ _)).mono ?_
  rintro e w1 ⟨hb, rfl | ⟨L, hL, rfl, hl, hs⟩⟩
  · have HB := Lib.hid ((glh.new1 _ _).trans (hb.mono (by simp)))
    clear hb
    go_wp2_with fail
    go_ret
    exact ⟨rfl, HB.out⟩
  have HL := Lib.hid (show bs0.length ≤ 1048576 from hl)
  have HS := Lib.hid hs
  have X1 := Lib.hid (glh.keptB (heap_alloc_new w _) hb)
  have HB1 := Lib.hid ((glh.new1 _ _).trans (hb.mono (by simp)))
  clear hb hs hl hL
  obtain ⟨p0, p1, p2, pz⟩ := glh.three X1.out
  have d0 : decide ((L : Int) < 0) = false := by simp
  go_wp2_with fail
  refine (TL.out _ HB1.out (by have := HL.out; have := HN.out; omega)).mono ?_
  rintro e w2 ⟨u2, rfl, hb, hw⟩
  obtain ⟨a2, c2, rfl⟩ := hw.rbk.form
  have X2 := Lib.hid (glh.keptB X1.out hb)
  have HB2 := Lib.hid (HB1.out.trans (hb.mono HB1.out.size))
  have R2 := Lib.hid hw.rbk
  clear hb hw p0 p1 p2 pz
  go_wp2_with fail
  refine (RS.out _ _ HL.out HS.out R2.out).mono ?_
  rintro e w3 ⟨rfl, hb⟩
  have X3 := Lib.hid (glh.keptB X2.out hb)
  have HB3 := Lib.hid (HB2.out.trans (hb.mono HB2.out.size))
  clear hb R2
  obtain ⟨p0, p1, p2, pz⟩ := glh.three X3.out
  go_wp2_with fail
  refine (TL.out _ HB3.out (by have := HL.out; have := HN.out; omega)).mono ?_
  rintro e w4 ⟨u4, rfl, hb, hw⟩
  obtain ⟨a4, c4, rfl⟩ := hw.rbk.form
  have X4 := Lib.hid (glh.keptB X3.out hb)
  have HB4 := Lib.hid (HB3.out.trans (hb.mono HB3.out.size))
  have R4 := Lib.hid hw.rbk
  clear hb hw p0 p1 p2 pz
  go_wp2_with fail
  have Y4 := Lib.hid (heap_alloc_new w4 (.cells #[.int .i64 rate0, .int .i64 burst0, .slice a4 bs0.length c4] 36))
  have q1 := glh.new1 w4 (.cells #[.int .i64 rate0, .int .i64 burst0, .slice a4 bs0.length c4] 36)
  have X5 := Lib.hid (glh.keptB X4.out q1)
  have R5 := Lib.hid (R4.out.below q1)
  have HB5 := Lib.hid (HB4.out.trans (q1.mono HB4.out.size))
  clear q1
  go_wp2_with fail
  refine (RI.out _ _ HL.out HS.out R5.out).mono ?_
  rintro e w6 ⟨rfl, hb⟩
  have HB6 := Lib.hid (HB5.out.trans (hb.mono HB5.out.size))
  have X6 := Lib.hid (glh.keptB X5.out hb)
  have Y6 := Lib.hid (glh.keptB Y4.out hb)
  have R6 := Lib.hid (R5.out.below hb)
  clear hb X4 X5 Y4 R4 R5 HB4 HB5 X2 X3 HB2 HB3
  obtain ⟨p0, p1, p2, pz⟩ := glh.three X6.out
  obtain ⟨q0, q1, q2, qz⟩ := glh.three Y6.out
  go_wp2_with fail
  have HD := Lib.hid (HB6.out.trans ((rdr.Still.drewN w6 1).below _))
  have RD := Lib.hid (R6.out.still (rdr.Still.drewN w6 1))
  have HNL := Lib.hid (show n ≤ 1048576 by have := HL.out; have := HN.out; omega)
  clear R6 HB6 HB1
  go_region_with (first | (go_at_call 16; refine (TL.out _ HD.out HNL.out).mono ?_; rintro e w7 ⟨u7, rfl, hb7, hw7⟩; obtain ⟨a7, c7, rfl⟩ := hw7.rbk.form; have RW := Lib.hid hw7.rbk; have RZ := Lib.hid (RD.out.below hb7); have HB7 := Lib.hid (HD.out.trans (hb7.mono HD.out.size)); have P7 := glh.keptB (W := w6.drew) Y6.out hb7; obtain ⟨s0, s1, s2, sz⟩ := glh.three P7; clear P7 hb7 hw7) | (go_at_call 18; refine (EQ.out _ _ _ HL.out RZ.out RW.out).mono ?_; rintro e w8 ⟨rfl, hb8⟩; have HB8 := Lib.hid (HB7.out.trans (hb8.mono HB7.out.size)); clear hb8))
  all_goals (go_wp2_with fail; go_ret; exact ⟨rfl, HB8.out⟩)

set_option maxRecDepth 100000 in
theorem lifted (os : Os) (started : os.Started) (H : Type) (enc : TypeId × Value → H) :
    ReturnsInHanded {} Try.checked os 4 .any (Rows.fnExactLimitRightSpec.pre6 enc Try.prog Try.f4 Rows.fnExactLimitRightRow.domain false) (Rows.fnExactLimitRightSpec.post enc Try.prog Try.f4 false true false false) := by
  refine returnsInHanded_of_change (C := Try.checked) frm.own started (by kernel_rfl) Try.func4
    (ChangeSpec.witness6 (enc := enc) (C := Try.checked) false ⟨#[], #[.agg #[.int .i64 0, .int .i64 0, .slice none 0 0]], []⟩ 8 (by kernel_rfl) (by kernel_rfl) (by kernel_rfl) (by kernel_rfl)) ?_
  intro W base args ds gs before hval0 hW hcnd _
  have hval : ∀ (j : Nat) t v, Try.f4.params[j]? = some t → args[j]? = some v → Value.okWide Try.prog W .any base t v := hval0
  have hW' := hW
  obtain ⟨p, q, hA0, hV, rfl, hfz, hnd⟩ := hW
  have hlt : ∀ x ∈ p, x.block < W.heap.size := fun x hx => hW'.lt x (by simp [hx])
  have hA : DataW.TrodAll enc Try.prog W 0 (fun _ => true) true Try.f4.params.toList args.toList ds p := hA0
  rw [Try.params4] at hA hval
  obtain ⟨v0, vs0, d0, ds0, p0, q0, hargs, rfl, rfl, g0, r0⟩ := trodAll_cons hA
  obtain ⟨rfl, rfl, rfl⟩ := trodAll_nil r0
  obtain rfl : args = #[v0] := by cases args; simp_all
  obtain ⟨rfl, rfl⟩ := trodVars_none hV
  obtain ⟨rate0, burst0, sv0, bs0, rfl, h0⟩ := fmg.open_limit (hval 0 31 v0 rfl rfl) g0
  clear hA0 hval0
  refine (walk W rate0 burst0 sv0 bs0 h0).mono fun e W' ⟨he, hg⟩ => ?_
  subst he
  exact ⟨_, rfl, _, _, _, [], _, [], hW', (trodAll_cons_mk (shut_bool Try.underlying4 _) trodAll_mk0), (trodAll_cons_mk (Below.trod frm.laidOut (by kernel_rfl) (of_decide_eq_true (by kernel_rfl)) g0 hg (fun x hx => hlt x (by simp [hx]))) trodAll_mk0), rfl, hg.frame _, fun h => by cases h⟩

set_option maxRecDepth 100000 in
theorem over : Rows.fnExactLimitRightRow.holds Try.pinned (OpenSpec.ofChange Rows.fnExactLimitRightSpec) :=
  OpenClaim.holds_of_wide 4 Try.f4 rfl rfl rfl rfl rfl rfl rfl ⟨rfl, rfl, rfl, rfl, rfl⟩ rfl rfl rfl rfl rfl (by kernel_rfl) Try.func4 (by kernel_rfl)
    (of_decide_eq_true (by kernel_rfl)) (by unfold Func.isWrapper; first | (rw [if_pos (by decide +kernel)]; kernel_rfl) | (rw [if_neg (by decide +kernel)]; exact ⟨rfl, rfl⟩))
    (fun os started H enc _ => lifted os started H enc)

theorem proved : Rows.FnExactLimitRightSaid :=
  over

end Go.Proofs.Ytdikjmhnjlalbaa.fnExactLimitRight
