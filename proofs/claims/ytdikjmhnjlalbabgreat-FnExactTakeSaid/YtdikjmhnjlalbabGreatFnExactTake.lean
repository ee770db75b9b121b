/- Take of the program answers as Take of the model, for every list of texts, turns it not, and its list is its own; no condition. -/
import Derived.Test.YtdikjmhnjlalbabGreatRows
import Derived.Test.YtdikjmhnjlalbabGreatFrm
import Derived.WalkKit
import Derived.Test.YtdikjmhnjlalbabGreatTak
import Derived.Test.YtdikjmhnjlalbabGreatMrd
import Derived.Test.YtdikjmhnjlalbabGreatMrs
import Derived.Test.YtdikjmhnjlalbabGreatTsz
import Derived.Test.YtdikjmhnjlalbabGreatEqs
namespace Go.Proofs.YtdikjmhnjlalbabGreat.fnExactTake
open Go.ChangeShapes Go.WideShapes Go.ChangeAt Go.RowKit
open Go.ChangeMaps (open_string shut_string)
open Go.Proofs.YtdikjmhnjlalbabGreat.tm Go.Proofs.YtdikjmhnjlalbabGreat.bld Go.Proofs.YtdikjmhnjlalbabGreat.mrk Go.Proofs.YtdikjmhnjlalbabGreat.frm
set_option linter.unusedVariables false

set_option maxHeartbeats 8000000 in
set_option maxRecDepth 100000 in
theorem walk (w : World) (ad0 : Option Addr) (n0 cap0 : Nat) (ls0 : List Bs) (hn0 : n0 = ls0.length) (h0 : Rds w (.slice ad0 n0 cap0) ls0) (hm0 : n0 ≤ maxLen) (hw0 : ∀ x ∈ ls0, x.length ≤ maxLen) :
    Calls Tryz.prog 4 #[.slice ad0 n0 cap0] w fun e w' => e = .returned (.bool true) ∧ Below w.heap.size w w' := by
  have cz := tsz.szStringS_calls ad0 n0 cap0 ls0 w hn0 h0 hm0 hw0
  have ct := fun w => tsz.toStringS_calls ad0 n0 cap0 ls0 w hn0
  have hml : ls0.length ≤ maxLen := by rw [← hn0]; exact hm0
  have cs := fun a c' (w : World) h => tak.specTake_calls a ls0.length c' ls0 w rfl h hml hw0
  have ci := fun a c' (w : World) h => tak.implTake_calls a ls0.length c' ls0 w rfl h hml hw0
  have H := Lib.hid h0
  have CZ := Lib.hid cz
  have CT := Lib.hid ct
  have CS := Lib.hid cs
  have CI := Lib.hid ci
  clear h0 hn0 hw0 cz ct cs ci hml
  go_enter Tryz.func4, Tryz.ntmps4
  go_wp2_with fail
  refine CZ.out.mono ?_
  rintro e w1 ⟨rfl, rfl | ⟨L, hL, rfl, hln, hxs⟩⟩
  · go_wp2_with fail
    go_ret
    exact ⟨rfl, Below.refl _ _⟩
  have d1 : decide ((L : Int) < 0) = false := by simp
  clear hxs
  go_wp2_with fail
  refine (CT.out w H.out (by omega)).mono ?_
  rintro e w2 ⟨v2, rfl, hb2, hw2⟩
  obtain ⟨a2, c2, rfl⟩ := rds_len hw2.rds
  have B2 := Lib.hid hb2
  have R2 := Lib.hid hw2.rds
  clear hb2 hw2
  go_wp2_with fail
  refine (CS.out a2 c2 w2 R2.out).mono ?_
  rintro e w4 ⟨vs, out, rfl, hb4, hs4, hlr⟩
  have hol := hlr.len
  have B4 := Lib.hid (B2.out.trans (hb4.mono B2.out.size))
  have S4 := Lib.hid hs4
  have LR := Lib.hid hlr
  have z2 := B2.out.size
  have z24 := hb4.size
  clear hb4 hs4 hlr
  go_wp2_with fail
  refine (CT.out w4 (Rds.below H.out B4.out) (by omega)).mono ?_
  rintro e w5 ⟨v5, rfl, hb5, hw5⟩
  obtain ⟨a5, c5, rfl⟩ := rds_len hw5.rds
  have B5 := Lib.hid (B4.out.trans (hb5.mono B4.out.size))
  have S5 := Lib.hid (S4.out.below hb5)
  have X5 := Lib.hid (mrd.Wb.of hw5)
  have z45 := hb5.size
  clear hb5 hw5
  go_wp2_with fail
  refine (CI.out a5 c5 w5 X5.out.wrs.rds).mono ?_
  rintro e w7 ⟨vi, out', rfl, hb7, hs7, hlr⟩
  obtain rfl : out' = out := hlr.one LR.out
  have B7 := Lib.hid (B5.out.trans (hb7.mono B5.out.size))
  have S7 := Lib.hid (S5.out.below hb7)
  have X7 := Lib.hid (X5.out.below hb7)
  have G7 := Lib.hid (mrd.Wb.of (mrs.Strs.wrs hs7))
  have z57 := hb7.size
  clear hb7 hs7 hlr
  go_wp2_with fail
  refine (mrk.eqStringS_calls _ _ out' _ G7.out.wrs.rds S7.out.rds (by omega)).mono ?_
  rintro e w8 ⟨rfl, hb8⟩
  have k8 := hb8.below w7.heap.size
  have B8 := Lib.hid (B7.out.trans (hb8.below _))
  have S8 := Lib.hid (S7.out.below k8)
  have X8 := Lib.hid (X7.out.below k8)
  have G8 := Lib.hid (G7.out.below k8)
  clear hb8 k8
  go_wp2_with fail
  refine (CT.out w8 (Rds.below H.out B8.out) (by omega)).mono ?_
  rintro e w9 ⟨v9, rfl, hb9, hw9⟩
  have B9 := Lib.hid (B8.out.trans (hb9.mono B8.out.size))
  have S9 := Lib.hid (S8.out.below hb9)
  have X9 := Lib.hid (X8.out.below hb9)
  have G9 := Lib.hid (G8.out.below hb9)
  have Q9 := Lib.hid hw9.rds
  clear hb9 hw9
  go_wp2_with fail
  refine (mrk.eqStringS_calls _ _ ls0 _ X9.out.wrs.rds Q9.out (by omega)).mono ?_
  rintro e w12 ⟨rfl, hb12⟩
  have k12 := hb12.below w9.heap.size
  have B12 := Lib.hid (B9.out.trans (hb12.below _))
  have S12 := Lib.hid (S9.out.below k12)
  have X12 := Lib.hid (X9.out.below k12)
  have G12 := Lib.hid (G9.out.below k12)
  clear hb12 k12
  go_wp2_with fail
  refine (mrs.markStringS_calls _ ls0 _ _ X12.out.wrs (by omega) 1 (by omega) (by omega)).mono ?_
  rintro e w14 ⟨rfl, hm14, _⟩
  have B14 := Lib.hid (mrd.Marked.low B12.out hm14 B12.out.size X12.out.blk (by omega))
  have S14 := Lib.hid (S12.out.apart hm14 X12.out.blk (by omega))
  have G14 := Lib.hid (G12.out.apart hm14 X12.out.blk (by omega))
  clear hm14
  obtain ⟨m2, hm2e⟩ : ∃ m, m = 1 + ls0.length := ⟨_, rfl⟩
  rw [← hm2e]
  have d3 : decide ((m2 : Int) < 0) = false := by simp
  go_wp2_with fail
  refine (mrk.eqStringS_calls _ _ out' _ G14.out.wrs.rds S14.out.rds (by omega)).mono ?_
  rintro e w15 ⟨rfl, hb15⟩
  have k15 := hb15.below w14.heap.size
  have B15 := Lib.hid (B14.out.trans (hb15.below _))
  have S15 := Lib.hid (S14.out.below k15)
  have G15 := Lib.hid (G14.out.below k15)
  clear hb15 k15
  go_wp2_with fail
  refine (mrs.markStringS_calls _ out' _ _ G15.out.wrs (by omega) 1 (by omega) (by omega)).mono ?_
  rintro e w16 ⟨rfl, hm16, hk16⟩
  have B16 := Lib.hid (mrd.Marked.low B15.out hm16 B15.out.size G15.out.blk (by omega))
  have S16 := Lib.hid (S15.out.apart hm16 G15.out.blk (by omega))
  have K16 := Lib.hid hk16
  clear hm16 hk16
  obtain ⟨m3, hm3e⟩ : ∃ m, m = 1 + out'.length := ⟨_, rfl⟩
  rw [← hm3e]
  have CH := Lib.hid (fun (w : World) h => mrs.heldStringS_calls vi out'.length w 1 h (by omega) (by omega) (by omega))
  rw [← hm3e] at CH
  have d4 : decide ((m3 : Int) < 0) = false := by simp
  have d5 : ((m3 : Int) != (m3 : Int)) = false := by simp
  go_wp2_with fail
  refine (CH.out _ K16.out).mono ?_
  rintro e w17 ⟨rfl, hb17⟩
  have B17 := Lib.hid (B16.out.trans (hb17.mono B16.out.size))
  have S17 := Lib.hid (S16.out.below hb17)
  have K17 := Lib.hid (Rds.below K16.out hb17)
  clear hb17
  go_wp2_with fail
  refine (CT.out w17 (Rds.below H.out B17.out) (by omega)).mono ?_
  rintro e w18 ⟨v18, rfl, hb18, hw18⟩
  obtain ⟨a18, c18, rfl⟩ := rds_len hw18.rds
  have B18 := Lib.hid (B17.out.trans (hb18.mono B17.out.size))
  have S18 := Lib.hid (S17.out.below hb18)
  have K18 := Lib.hid (Rds.below K17.out hb18)
  have P18 := Lib.hid hw18.rds
  clear hb18 hw18
  go_wp2_with fail
  refine (CI.out a18 c18 w18 P18.out).mono ?_
  rintro e w20 ⟨vh, out'', rfl, hb20, hs20, hlr⟩
  obtain rfl : out'' = out' := hlr.one LR.out
  have B20 := Lib.hid (B18.out.trans (hb20.mono B18.out.size))
  have S20 := Lib.hid (S18.out.below hb20)
  have K20 := Lib.hid (Rds.below K18.out hb20)
  have G20 := Lib.hid (mrs.Strs.wrs hs20).rds
  clear hb20 hs20 hlr
  go_wp2_with fail
  refine (mrk.eqStringS_calls _ _ out'' _ G20.out S20.out.rds (by omega)).mono ?_
  rintro e w21 ⟨rfl, hb21⟩
  have B21 := Lib.hid (B20.out.trans (hb21.below _))
  have K21 := Lib.hid (mrk.Rds.still K20.out hb21)
  clear hb21
  go_wp2_with fail
  refine (CH.out _ K21.out).mono ?_
  rintro e w22 ⟨rfl, hb22⟩
  have B22 := Lib.hid (B21.out.trans (hb22.mono B21.out.size))
  clear hb22
  go_wp2_with fail
  go_ret
  exact ⟨rfl, B22.out⟩

set_option maxRecDepth 100000 in
theorem lifted (os : Os) (started : os.Started) (H : Type) (enc : TypeId × Value → H) :
    ReturnsInHanded {} Tryz.checked os 4 .any (Rows.fnExactTakeSpec.pre6 enc Tryz.prog Tryz.f4 Rows.fnExactTakeRow.domain false) (Rows.fnExactTakeSpec.post enc Tryz.prog Tryz.f4 false true false false) := by
  refine returnsInHanded_of_change (C := Tryz.checked) frm.own started (by kernel_rfl) Tryz.func4
    (ChangeSpec.witness6 (enc := enc) (C := Tryz.checked) false ⟨#[], #[.slice none 0 0], []⟩ 8 (by kernel_rfl) (by kernel_rfl) (by kernel_rfl) (by kernel_rfl)) ?_
  intro W base args ds gs before hval0 hW hcnd _
  have hval : ∀ (j : Nat) t v, Tryz.f4.params[j]? = some t → args[j]? = some v → Value.okWide Tryz.prog W .any base t v := hval0
  have hW' := hW
  obtain ⟨p, q, hA0, hV, rfl, hfz, hnd⟩ := hW
  have hlt : ∀ x ∈ p, x.block < W.heap.size := fun x hx => hW'.lt x (by simp [hx])
  have hA : DataW.TrodAll enc Tryz.prog W 0 (fun _ => true) true Tryz.f4.params.toList args.toList ds p := hA0
  rw [Tryz.params4] at hA hval
  obtain ⟨v0, vs0, d0, ds0, p0, q0, hargs, rfl, rfl, g0, r0⟩ := trodAll_cons hA
  obtain ⟨rfl, rfl, rfl⟩ := trodAll_nil r0
  obtain rfl : args = #[v0] := by cases args; simp_all
  obtain ⟨rfl, rfl⟩ := trodVars_none hV
  obtain ⟨ad0, n0, cap0, rfl⟩ := okWide_slice Tryz.underlying23 (hval 0 23 v0 rfl rfl)
  obtain ⟨ls0, hn0, hr0, hm0, hw0⟩ := frm.open_rds g0
  clear hA0 hval0
  refine (walk W ad0 n0 cap0 ls0 hn0 hr0 hm0 hw0).mono fun e W' ⟨he, hg⟩ => ?_
  subst he
  exact ⟨_, rfl, _, _, _, [], _, [], hW', (trodAll_cons_mk (shut_bool Tryz.underlying4 _) trodAll_mk0), (trodAll_cons_mk (Below.trod frm.laidOut (by kernel_rfl) (of_decide_eq_true (by kernel_rfl)) g0 hg (fun x hx => hlt x (by simp [hx]))) trodAll_mk0), rfl, hg.frame _, fun h => by cases h⟩

set_option maxRecDepth 100000 in
theorem over : Rows.fnExactTakeRow.holds Tryz.pinned (OpenSpec.ofChange Rows.fnExactTakeSpec) :=
  OpenClaim.holds_of_wide 4 Tryz.f4 rfl rfl rfl rfl rfl rfl rfl ⟨rfl, rfl, rfl, rfl, rfl⟩ rfl rfl rfl rfl rfl (by kernel_rfl) Tryz.func4 (by kernel_rfl)
    (of_decide_eq_true (by kernel_rfl)) (by unfold Func.isWrapper; first | (rw [if_pos (by decide +kernel)]; kernel_rfl) | (rw [if_neg (by decide +kernel)]; exact ⟨rfl, rfl⟩))
    (fun os started H enc _ => lifted os started H enc)

theorem proved : Rows.FnExactTakeSaid :=
  over

end Go.Proofs.YtdikjmhnjlalbabGreat.fnExactTake
