/- Knows of the program answers as Knows of the model, for every list of texts and every text, and turns it not; no condition. -/
import Derived.Test.YtdikjmhnjlalbabRows
import Derived.Test.YtdikjmhnjlalbabFrm
import Derived.WalkKit
import Derived.Test.YtdikjmhnjlalbabKws
import Derived.Test.YtdikjmhnjlalbabTsz
import Derived.Test.YtdikjmhnjlalbabEqs
namespace Go.Proofs.Ytdikjmhnjlalbab.fnExactKnows
open Go.ChangeShapes Go.WideShapes Go.ChangeAt Go.RowKit
open Go.ChangeMaps (open_string shut_string)
open Go.Proofs.Ytdikjmhnjlalbab.tm Go.Proofs.Ytdikjmhnjlalbab.bld Go.Proofs.Ytdikjmhnjlalbab.mrk Go.Proofs.Ytdikjmhnjlalbab.frm
set_option linter.unusedVariables false

set_option maxHeartbeats 8000000 in
set_option maxRecDepth 100000 in
theorem walk (w : World) (ad0 : Option Addr) (n0 cap0 : Nat) (ls0 : List Bs) (hn0 : n0 = ls0.length) (h0 : Rds w (.slice ad0 n0 cap0) ls0) (hm0 : n0 ≤ maxLen) (hw0 : ∀ x ∈ ls0, x.length ≤ maxLen) (a1 : ByteArray) (w1 : a1.size ≤ maxLen) :
    Calls Try.prog 3 #[.slice ad0 n0 cap0, .string a1] w fun e w' => e = .returned (.bool true) ∧ Below w.heap.size w w' := by
  have hs := w1
  unfold maxLen at hs
  by_cases hbig : 1048576 < a1.size
  · have d0 : decide ((1048576 : Int) < a1.size) = true := by simp; omega
    clear h0 hw0
    go_enter Try.func3, Try.ntmps3
    go_wp2_with fail
    go_ret
    exact ⟨rfl, Below.refl _ _⟩
  have d0 : decide ((1048576 : Int) < a1.size) = false := by simp; omega
  have cz := tsz.szStringS_calls ad0 n0 cap0 ls0 w hn0 h0 hm0 hw0
  have ct := fun w => tsz.toStringS_calls ad0 n0 cap0 ls0 w hn0
  have hml : ls0.length ≤ maxLen := by rw [← hn0]; exact hm0
  have htl : a1.data.toList.length ≤ maxLen := by unfold maxLen; show a1.size ≤ _; omega
  have cs := fun a c' (w : World) h => kws.specKnows_calls a ls0.length c' ls0 a1.data.toList htl w rfl h hml hw0
  have ci := fun a c' (w : World) h => kws.implKnows_calls a ls0.length c' ls0 a1.data.toList htl w rfl h hml hw0
  change ∀ a c' (w : World), Rds w (.slice a ls0.length c') ls0 → Calls _ _ #[_, .string a1] w _ at cs
  change ∀ a c' (w : World), Rds w (.slice a ls0.length c') ls0 → Calls _ _ #[_, .string a1] w _ at ci
  have H := Lib.hid h0
  have CZ := Lib.hid cz
  have CT := Lib.hid ct
  have CS := Lib.hid cs
  have CI := Lib.hid ci
  clear h0 hn0 hw0 cz ct cs ci hml htl
  go_enter Try.func3, Try.ntmps3
  go_wp2_with fail
  refine CZ.out.mono ?_
  rintro e w1 ⟨rfl, rfl | ⟨L, hL, rfl, hln, hxs⟩⟩
  · go_wp2_with fail
    go_ret
    exact ⟨rfl, Below.refl _ _⟩
  have d1 : decide ((L : Int) < 0) = false := by simp
  clear hxs
  go_wp2_with fail
  refine (CT.out w H.out (by omega)).mono ?_
  rintro e w2 ⟨v2, rfl, hb2, hw2⟩
  obtain ⟨a2, c2, rfl⟩ := rds_len hw2.rds
  have HB2 := Lib.hid hb2
  have R2 := Lib.hid hw2.rds
  clear hb2 hw2
  go_wp2_with fail
  refine (CS.out a2 c2 w2 R2.out).mono ?_
  rintro e w3 ⟨hb3, h3⟩
  have HB3 := Lib.hid (HB2.out.trans (hb3.mono HB2.out.size))
  clear hb3
  obtain ⟨b, rfl, HK⟩ : ∃ b : Bool, e = .returned (.bool b) ∧ Hid ((∃ Ts, pso.Kn ls0 Ts) ∧ (∀ R, kmp.Least ls0 R → b = bui.asks R a1.data.toList) ∨ (∀ Ts, ¬ pso.Kn ls0 Ts) ∧ b = false) := by
    rcases h3 with ⟨h, b, rfl, hR⟩ | ⟨h, rfl⟩
    · exact ⟨b, rfl, Lib.hid (.inl ⟨h, hR⟩)⟩
    · exact ⟨_, rfl, Lib.hid (.inr ⟨h, rfl⟩)⟩
  clear h3
  go_wp2_with fail
  refine (CT.out _ (Rds.below H.out HB3.out) (by omega)).mono ?_
  rintro e w4 ⟨v4, rfl, hb4, hw4⟩
  obtain ⟨a4, c4, rfl⟩ := rds_len hw4.rds
  have HB4 := Lib.hid (HB3.out.trans (hb4.mono HB3.out.size))
  have R4 := Lib.hid hw4.rds
  clear hb4 hw4
  go_wp2_with fail
  refine (CI.out a4 c4 w4 R4.out).mono ?_
  rintro e w5 ⟨hb5, h5⟩
  have R5 := Lib.hid (Rds.below R4.out hb5)
  have HB5 := Lib.hid (HB4.out.trans (hb5.mono HB4.out.size))
  clear hb5
  obtain rfl : e = .returned (.bool b) := by
    rcases h5 with ⟨Ts, R, h, hR, rfl⟩ | ⟨h, rfl⟩ <;> rcases HK.out with ⟨⟨Us, h'⟩, hb⟩ | ⟨h', hb⟩
    · rw [hb R hR]
    · exact absurd h (h' Ts)
    · exact absurd h' (h Us)
    · rw [hb]
  clear h5
  have db : (b != b) = false := by simp
  go_wp2_with fail
  refine (CT.out _ (Rds.below H.out HB5.out) (by omega)).mono ?_
  rintro e w6 ⟨v6, rfl, hb6, hw6⟩
  have R6 := Lib.hid hw6.rds
  have R56 := Lib.hid (Rds.below R5.out hb6)
  have HB6 := Lib.hid (HB5.out.trans (hb6.mono HB5.out.size))
  clear hb6 hw6
  go_wp2_with fail
  refine (mrk.eqStringS_calls _ _ ls0 _ R56.out R6.out (by omega)).mono ?_
  rintro e w7 ⟨rfl, hb7⟩
  have HB7 := Lib.hid (HB6.out.trans (hb7.below _))
  clear hb7
  go_wp2_with fail
  go_ret
  exact ⟨rfl, HB7.out⟩

set_option maxRecDepth 100000 in
theorem lifted (os : Os) (started : os.Started) (H : Type) (enc : TypeId × Value → H) :
    ReturnsInHanded {} Try.checked os 3 .any (Rows.fnExactKnowsSpec.pre6 enc Try.prog Try.f3 Rows.fnExactKnowsRow.domain false) (Rows.fnExactKnowsSpec.post enc Try.prog Try.f3 false true false false) := by
  refine returnsInHanded_of_change (C := Try.checked) frm.own started (by kernel_rfl) Try.func3
    (ChangeSpec.witness6 (enc := enc) (C := Try.checked) false ⟨#[], #[.slice none 0 0, .string ByteArray.empty], []⟩ 8 (by kernel_rfl) (by kernel_rfl) (by kernel_rfl) (by kernel_rfl)) ?_
  intro W base args ds gs before hval0 hW hcnd _
  have hval : ∀ (j : Nat) t v, Try.f3.params[j]? = some t → args[j]? = some v → Value.okWide Try.prog W .any base t v := hval0
  have hW' := hW
  obtain ⟨p, q, hA0, hV, rfl, hfz, hnd⟩ := hW
  have hlt : ∀ x ∈ p, x.block < W.heap.size := fun x hx => hW'.lt x (by simp [hx])
  have hA : DataW.TrodAll enc Try.prog W 0 (fun _ => true) true Try.f3.params.toList args.toList ds p := hA0
  rw [Try.params3] at hA hval
  obtain ⟨v0, vs0, d0, ds0, p0, q0, hargs, rfl, rfl, g0, r0⟩ := trodAll_cons hA
  obtain ⟨v1, vs1, d1, ds1, p1, q1, rfl, rfl, rfl, g1, r1⟩ := trodAll_cons r0
  obtain ⟨rfl, rfl, rfl⟩ := trodAll_nil r1
  obtain rfl : args = #[v0, v1] := by cases args; simp_all
  obtain ⟨rfl, rfl⟩ := trodVars_none hV
  obtain ⟨ad0, n0, cap0, rfl⟩ := okWide_slice Try.underlying22 (hval 0 22 v0 rfl rfl)
  obtain ⟨ls0, hn0, hr0, hm0, hw0⟩ := frm.open_rds g0
  obtain ⟨a1, rfl, rfl, rfl, w1⟩ := open_string Try.underlying9 (hval 1 9 v1 rfl rfl) g1
  clear hA0 hval0
  refine (walk W ad0 n0 cap0 ls0 hn0 hr0 hm0 hw0 a1 w1).mono fun e W' ⟨he, hg⟩ => ?_
  subst he
  exact ⟨_, rfl, _, _, _, [], _, [], hW', (trodAll_cons_mk (shut_bool Try.underlying4 _) trodAll_mk0), (trodAll_cons_mk (Below.trod frm.laidOut (by kernel_rfl) (of_decide_eq_true (by kernel_rfl)) g0 hg (fun x hx => hlt x (by simp [hx]))) (trodAll_cons_mk (shut_string Try.underlying9 w1) trodAll_mk0)), rfl, hg.frame _, fun h => by cases h⟩

set_option maxRecDepth 100000 in
theorem over : Rows.fnExactKnowsRow.holds Try.pinned (OpenSpec.ofChange Rows.fnExactKnowsSpec) :=
  OpenClaim.holds_of_wide 3 Try.f3 rfl rfl rfl rfl rfl rfl rfl ⟨rfl, rfl, rfl, rfl, rfl⟩ rfl rfl rfl rfl rfl (by kernel_rfl) Try.func3 (by kernel_rfl)
    (of_decide_eq_true (by kernel_rfl)) (by unfold Func.isWrapper; first | (rw [if_pos (by decide +kernel)]; kernel_rfl) | (rw [if_neg (by decide +kernel)]; exact ⟨rfl, rfl⟩))
    (fun os started H enc _ => lifted os started H enc)

theorem proved : Rows.FnExactKnowsSaid :=
  over

end Go.Proofs.Ytdikjmhnjlalbab.fnExactKnows
