/- NodeOf of the program answers as NodeOf of the model, every field, for every text, and its list is its own; no condition. -/
import Derived.Test.YtdikjmhnjlalbabRows
import Derived.WalkKit
import Derived.Test.YtdikjmhnjlalbabEqn2
import Derived.ProofKit
import Derived.OpenShut
import Derived.ShutString
import Derived.ChangeOld
import Derived.Below
namespace Go.Proofs.Ytdikjmhnjlalbab.fnExactNodeOf
open Go.ChangeShapes Go.WideShapes Go.ChangeAt Go.RowKit
open Go.ChangeMaps (open_string shut_string)
set_option linter.unusedVariables false      -- a walk need not use every 'w<i>' (that an integer argument fits its kind)

theorem own : ownKnob Try.prog.godebug = none := by kernel_rfl

theorem walk (a0 : ByteArray) (w0 : a0.size ≤ maxLen) (w : World) :
    Calls Try.prog 7 #[.string a0] w fun e w' => e = .returned (.bool true) ∧ Below w.heap.size w w' := by
  have hs := w0
  unfold maxLen at hs
  by_cases hbig : 1048576 < a0.size
  · have d0 : decide ((1048576 : Int) < a0.size) = true := by simp; omega
    go_enter Try.func7, Try.ntmps7
    go_wp2_with fail
    go_ret
    exact ⟨rfl, Below.refl _ _⟩
  have d0 : decide ((1048576 : Int) < a0.size) = false := by simp; omega
  have c1 := ndo.specNodeOf_calls a0 w0
  have c2 := ndo.implNodeOf_calls a0 w0
  have hle := eqn2.argsR_le a0.data.toList
  obtain ⟨O, hO⟩ : ∃ O, O = ndo.opR a0.data.toList := ⟨_, rfl⟩
  obtain ⟨ls, hls⟩ : ∃ ls, ls = ndo.argsR a0.data.toList := ⟨_, rfl⟩
  simp only [← hO, ← hls] at c1 c2 hle
  clear hO hls
  go_enter Try.func7, Try.ntmps7
  go_wp2_with fail
  refine (c1 _).mono ?_
  rintro e w1 ⟨vs, rfl, hb1, hr1⟩
  obtain ⟨sa, ns, cs, rfl⟩ := eqd.Rds.form hr1
  have HR1 := Lib.hid hr1
  have HB1 := Lib.hid hb1
  clear hr1 hb1
  go_wp2_with fail
  refine (c2 _).mono ?_
  rintro e w2 ⟨vi, rfl, hb2, hw2⟩
  have hform : ∃ ad n cap, vi = .slice ad n cap := eqd.Rds.form hw2.rds
  obtain ⟨ai, ni, ci, rfl⟩ := hform
  have HS2 := Lib.hid (eqn2.St.start (vi := .slice ai ni ci) HB1.out HR1.out hb2)
  have HW2 := Lib.hid (eqn2.Wrs.below hw2 ((Below.refl _ _).alloc (Nat.le_refl _) (.cells #[bld.str O, .slice ai ni ci] 30)))
  have HW0 := Lib.hid hw2
  have hz2 := hb2.size
  simp at hz2
  have hz1 := HB1.out.size
  obtain ⟨p0, p1, p2, p3, p4⟩ := rdr.two HS2.out.h3
  clear hb2 hw2
  go_wp2_with fail
  refine (eqd.eqNode_calls O _ _ ls _ HW2.out.rds HS2.out.rs (by omega)).mono ?_
  rintro e w3 ⟨rfl, hb3⟩
  have HS3 := Lib.hid (HS2.out.below hb3)
  have HW3 := Lib.hid (eqn2.Wrs.below HW2.out hb3)
  clear p0 p1 p2 p3 p4 hb3
  obtain ⟨q0, q1, q2, q3, q4⟩ := rdr.two HS3.out.h4
  go_wp2_with fail
  refine (eqd.markNode_calls O _ ls _ _ HW3.out (by omega)).mono ?_
  rintro e w4 ⟨rfl, hb4, hm4⟩
  have HS4 := Lib.hid (HS3.out.marked hb4 (by omega) (fun hne g hg => by have := eqn2.Wrs.own HW0.out hne g hg; simp at this; omega) (fun g hg hne => eqn2.Rds.own HR1.out hne g hg) (by omega))
  have HM4 := Lib.hid hm4
  clear hb4 hm4 q0 q1 q2 q3 q4
  obtain ⟨q0, q1, q2, q3, q4⟩ := rdr.two HS4.out.h4
  go_wp2_with fail
  refine (eqd.heldNode_calls O _ ls.length _ HM4.out (by omega)).mono ?_
  rintro e w5 ⟨rfl, hb5⟩
  have HS5 := Lib.hid (HS4.out.below hb5)
  have HM5 := Lib.hid (mrk.Rds.below HM4.out hb5)
  clear hb5 q0 q1 q2 q3 q4
  obtain ⟨n, hn⟩ : ∃ n, n = 1 + ls.length := ⟨_, rfl⟩
  rw [← hn]
  go_wp2_with fail
  refine (c2 _).mono ?_
  rintro e w6 ⟨vh, rfl, hb6, hw6⟩
  obtain ⟨ah, nh, ch, rfl⟩ := eqd.Rds.form hw6.rds
  have HS6 := Lib.hid ((HS5.out.below hb6).below ((Below.refl _ _).alloc (Nat.le_refl _) (.cells #[bld.str O, .slice ah nh ch] 30)))
  have HM6 := Lib.hid (mrk.Rds.below (mrk.Rds.below HM5.out hb6) ((Below.refl _ _).alloc (Nat.le_refl _) (.cells #[bld.str O, .slice ah nh ch] 30)))
  have HW6 := Lib.hid (mrk.Rds.below hw6.rds ((Below.refl _ _).alloc (Nat.le_refl _) (.cells #[bld.str O, .slice ah nh ch] 30)))
  have HS60 := Lib.hid (HS5.out.below hb6)
  clear hb6 hw6
  obtain ⟨r0, r1, r2, r3, r4⟩ := rdr.two HS60.out.h3
  go_wp2_with fail
  refine (eqd.eqNode_calls O _ _ ls _ HW6.out HS6.out.rs (by omega)).mono ?_
  rintro e w7 ⟨rfl, hb7⟩
  have HS7 := Lib.hid (HS6.out.below hb7)
  have HM7 := Lib.hid (mrk.Rds.below HM6.out hb7)
  clear hb7 r0 r1 r2 r3 r4
  obtain ⟨q0, q1, q2, q3, q4⟩ := rdr.two HS7.out.h4
  go_wp2_with fail
  refine (eqd.heldNode_calls O _ ls.length _ HM7.out (by omega)).mono ?_
  rintro e w8 ⟨rfl, hb8⟩
  have HS8 := Lib.hid (HS7.out.below hb8)
  clear hb8 q0 q1 q2 q3 q4
  rw [← hn]
  go_wp2_with fail
  go_ret
  exact ⟨rfl, HS8.out.bel⟩

set_option maxRecDepth 100000 in
theorem lifted (os : Os) (started : os.Started) (H : Type) (enc : TypeId × Value → H) :
    ReturnsInHanded {} Try.checked os 7 .any (Rows.fnExactNodeOfSpec.pre6 enc Try.prog Try.f7 Rows.fnExactNodeOfRow.domain false) (Rows.fnExactNodeOfSpec.post enc Try.prog Try.f7 false true false false) := by
  refine returnsInHanded_of_change (C := Try.checked) own started (by kernel_rfl) Try.func7
    (ChangeSpec.witness6 (enc := enc) (C := Try.checked) false ⟨#[], #[.string ByteArray.empty], []⟩ 8 (by kernel_rfl) (by kernel_rfl) (by kernel_rfl) (by kernel_rfl)) ?_
  intro W base args ds gs before hval0 hW hcnd _
  have hval : ∀ (j : Nat) t v, Try.f7.params[j]? = some t → args[j]? = some v → Value.okWide Try.prog W .any base t v := hval0
  have hW' := hW
  obtain ⟨p, q, hA0, hV, rfl, hfz, hnd⟩ := hW
  have hA : DataW.TrodAll enc Try.prog W 0 (fun _ => true) true Try.f7.params.toList args.toList ds p := hA0
  rw [Try.params7] at hA hval
  obtain ⟨v0, vs0, d0, ds0, p0, q0, hargs, rfl, rfl, h0, r0⟩ := trodAll_cons hA
  obtain ⟨rfl, rfl, rfl⟩ := trodAll_nil r0
  obtain rfl : args = #[v0] := by cases args; simp_all
  obtain ⟨rfl, rfl⟩ := trodVars_none hV
  obtain ⟨a0, rfl, rfl, rfl, w0⟩ := open_string Try.underlying9 (hval 0 9 v0 rfl rfl) h0
  clear hA0 hval0
  refine (walk a0 w0 W).mono fun e W' ⟨he, hg⟩ => ?_
  subst he
  exact ⟨_, rfl, _, _, _, [], _, [], hW', (trodAll_cons_mk (shut_bool Try.underlying4 _) trodAll_mk0), (trodAll_cons_mk (shut_string Try.underlying9 w0) trodAll_mk0), rfl, hg.frame _, fun h => by cases h⟩

theorem over : Rows.fnExactNodeOfRow.holds Try.pinned (OpenSpec.ofChange Rows.fnExactNodeOfSpec) :=
  OpenClaim.holds_of_wide 7 Try.f7 rfl rfl rfl rfl rfl rfl rfl ⟨rfl, rfl, rfl, rfl, rfl⟩ rfl rfl rfl rfl rfl (by kernel_rfl) Try.func7 (by kernel_rfl)
    (of_decide_eq_true (by kernel_rfl)) (by unfold Func.isWrapper; first | (rw [if_pos (by decide +kernel)]; kernel_rfl) | (rw [if_neg (by decide +kernel)]; exact ⟨rfl, rfl⟩))
    (fun os started H enc _ => lifted os started H enc)

theorem proved : Rows.FnExactNodeOfSaid :=
  over
end Go.Proofs.Ytdikjmhnjlalbab.fnExactNodeOf
