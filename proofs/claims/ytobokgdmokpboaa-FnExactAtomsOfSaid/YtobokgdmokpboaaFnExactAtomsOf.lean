/- AtomsOf of the program answers as AtomsOf of the model, for every text, and its list is its own; no condition. -/
import Derived.Test.YtobokgdmokpboaaRows
import Derived.WalkKit
import Derived.Test.YtobokgdmokpboaaAtl
import Derived.Test.YtobokgdmokpboaaEqn2
import Derived.ProofKit
import Derived.OpenShut
import Derived.ShutString
import Derived.ChangeOld
import Derived.Below
namespace Go.Proofs.Ytobokgdmokpboaa.fnExactAtomsOf
open Go.ChangeShapes Go.WideShapes Go.ChangeAt Go.RowKit
open Go.ChangeMaps (open_string shut_string)
set_option linter.unusedVariables false      -- a walk need not use every 'w<i>' (that an integer argument fits its kind)

theorem own : ownKnob Try.prog.godebug = none := by kernel_rfl

theorem walk (a0 : ByteArray) (w0 : a0.size ≤ maxLen) (w : World) :
    Calls Try.prog 10 #[.string a0] w fun e w' => e = .returned (.bool true) ∧ Below w.heap.size w w' := by
  have hs := w0
  unfold maxLen at hs
  by_cases hbig : 1048576 < a0.size
  · have d0 : decide ((1048576 : Int) < a0.size) = true := by simp; omega
    go_enter Try.func10, Try.ntmps10
    go_wp2_with fail
    go_ret
    exact ⟨rfl, Below.refl _ _⟩
  have d0 : decide ((1048576 : Int) < a0.size) = false := by simp; omega
  have c1 := atl.specAtomsOf_calls a0 w0
  have c2 := addt.implAtomsOf_calls a0 w0
  have hle := atl.atomsR_len a0.data.toList
  obtain ⟨ls, hls⟩ : ∃ ls, ls = addt.atomsR a0.data.toList := ⟨_, rfl⟩
  simp only [← hls] at c1 c2 hle
  clear hls
  go_enter Try.func10, Try.ntmps10
  go_wp2_with fail
  refine (c1 _).mono ?_
  rintro e w1 ⟨vs, rfl, hb1, hr1⟩
  have HR1 := Lib.hid hr1
  have HB1 := Lib.hid hb1
  clear hr1 hb1
  go_wp2_with fail
  refine (c2 _).mono ?_
  rintro e w2 ⟨vi, rfl, hb2, hw2⟩
  have HR2 := Lib.hid (mrk.Rds.below HR1.out hb2)
  have HB2 := Lib.hid (HB1.out.trans (hb2.mono HB1.out.size))
  have HW2 := Lib.hid hw2
  clear hb2 hw2
  go_wp2_with fail
  refine (mrk.eqStringS_calls _ _ ls _ HW2.out.rds HR2.out (by omega)).mono ?_
  rintro e w3 ⟨rfl, hb3⟩
  have HR3 := Lib.hid (mrk.Rds.still HR2.out hb3)
  have HW3 := Lib.hid (eqn2.Wrs.below HW2.out (hb3.below _))
  have HB3 := Lib.hid (HB2.out.trans (hb3.below _))
  clear hb3
  go_wp2_with fail
  refine (mrs.markStringS_calls _ ls _ _ HW3.out (by omega) 1 (by omega) (by omega)).mono ?_
  rintro e w4 ⟨rfl, hm4, hk4⟩
  have HR4 := Lib.hid (atl.Rds.marked HR3.out hm4 (fun hne g hg => eqn2.Rds.own HR1.out hne g hg) (fun hne g hg => (eqn2.Wrs.own HW2.out hne g hg).1))
  have HB4 := Lib.hid (atl.Marked.below HB3.out hm4 HB1.out.size (fun hne g hg => (eqn2.Wrs.own HW2.out hne g hg).1))
  have HK4 := Lib.hid hk4
  clear hm4 hk4
  go_wp2_with fail
  refine (mrs.heldStringS_calls _ ls.length _ 1 HK4.out (by omega) (by omega) (by omega)).mono ?_
  rintro e w5 ⟨rfl, hb5⟩
  have HR5 := Lib.hid (mrk.Rds.below HR4.out hb5)
  have HK5 := Lib.hid (mrk.Rds.below HK4.out hb5)
  have HB5 := Lib.hid (HB4.out.trans (hb5.mono HB4.out.size))
  clear hb5
  obtain ⟨n, hn⟩ : ∃ n, n = 1 + ls.length := ⟨_, rfl⟩
  rw [← hn]
  go_wp2_with fail
  refine (c2 _).mono ?_
  rintro e w6 ⟨vh, rfl, hb6, hw6⟩
  have HR6 := Lib.hid (mrk.Rds.below HR5.out hb6)
  have HK6 := Lib.hid (mrk.Rds.below HK5.out hb6)
  have HB6 := Lib.hid (HB5.out.trans (hb6.mono HB5.out.size))
  have HW6 := Lib.hid hw6
  clear hb6 hw6
  go_wp2_with fail
  refine (mrk.eqStringS_calls _ _ ls _ HW6.out.rds HR6.out (by omega)).mono ?_
  rintro e w7 ⟨rfl, hb7⟩
  have HK7 := Lib.hid (mrk.Rds.still HK6.out hb7)
  have HB7 := Lib.hid (HB6.out.trans (hb7.below _))
  clear hb7
  go_wp2_with fail
  refine (mrs.heldStringS_calls _ ls.length _ 1 HK7.out (by omega) (by omega) (by omega)).mono ?_
  rintro e w8 ⟨rfl, hb8⟩
  have HB8 := Lib.hid (HB7.out.trans (hb8.mono HB7.out.size))
  clear hb8
  rw [← hn]
  go_wp2_with fail
  go_ret
  exact ⟨rfl, HB8.out⟩

set_option maxRecDepth 100000 in
theorem lifted (os : Os) (started : os.Started) (H : Type) (enc : TypeId × Value → H) :
    ReturnsInHanded {} Try.checked os 10 .any (Rows.fnExactAtomsOfSpec.pre6 enc Try.prog Try.f10 Rows.fnExactAtomsOfRow.domain false) (Rows.fnExactAtomsOfSpec.post enc Try.prog Try.f10 false true false false) := by
  refine returnsInHanded_of_change (C := Try.checked) own started (by kernel_rfl) Try.func10
    (ChangeSpec.witness6 (enc := enc) (C := Try.checked) false ⟨#[], #[.string ByteArray.empty], []⟩ 8 (by kernel_rfl) (by kernel_rfl) (by kernel_rfl) (by kernel_rfl)) ?_
  intro W base args ds gs before hval0 hW hcnd _
  have hval : ∀ (j : Nat) t v, Try.f10.params[j]? = some t → args[j]? = some v → Value.okWide Try.prog W .any base t v := hval0
  have hW' := hW
  obtain ⟨p, q, hA0, hV, rfl, hfz, hnd⟩ := hW
  have hA : DataW.TrodAll enc Try.prog W 0 (fun _ => true) true Try.f10.params.toList args.toList ds p := hA0
  rw [Try.params10] at hA hval
  obtain ⟨v0, vs0, d0, ds0, p0, q0, hargs, rfl, rfl, h0, r0⟩ := trodAll_cons hA
  obtain ⟨rfl, rfl, rfl⟩ := trodAll_nil r0
  obtain rfl : args = #[v0] := by cases args; simp_all
  obtain ⟨rfl, rfl⟩ := trodVars_none hV
  obtain ⟨a0, rfl, rfl, rfl, w0⟩ := open_string Try.underlying9 (hval 0 9 v0 rfl rfl) h0
  clear hA0 hval0
  refine (walk a0 w0 W).mono fun e W' ⟨he, hg⟩ => ?_
  subst he
  exact ⟨_, rfl, _, _, _, [], _, [], hW', (trodAll_cons_mk (shut_bool Try.underlying4 _) trodAll_mk0), (trodAll_cons_mk (shut_string Try.underlying9 w0) trodAll_mk0), rfl, hg.frame _, fun h => by cases h⟩

theorem over : Rows.fnExactAtomsOfRow.holds Try.pinned (OpenSpec.ofChange Rows.fnExactAtomsOfSpec) :=
  OpenClaim.holds_of_wide 10 Try.f10 rfl rfl rfl rfl rfl rfl rfl ⟨rfl, rfl, rfl, rfl, rfl⟩ rfl rfl rfl rfl rfl (by kernel_rfl) Try.func10 (by kernel_rfl)
    (of_decide_eq_true (by kernel_rfl)) (by unfold Func.isWrapper; first | (rw [if_pos (by decide +kernel)]; kernel_rfl) | (rw [if_neg (by decide +kernel)]; exact ⟨rfl, rfl⟩))
    (fun os started H enc _ => lifted os started H enc)

theorem proved : Rows.FnExactAtomsOfSaid :=
  over
end Go.Proofs.Ytobokgdmokpboaa.fnExactAtomsOf
