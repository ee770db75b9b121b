/- Learned of the program answers as Learned of the model, for every two lists of texts, turns neither, and its list is its own; no condition. -/
import Derived.Test.YtdikjmhnjlalbabRows
import Derived.Test.YtdikjmhnjlalbabFrm
import Derived.WalkKit
import Derived.Test.YtdikjmhnjlalbabLrn
import Derived.Test.YtdikjmhnjlalbabMrd
import Derived.Test.YtdikjmhnjlalbabMrs
import Derived.Test.YtdikjmhnjlalbabSzm
import Derived.Test.YtdikjmhnjlalbabEqs
namespace Go.Proofs.Ytdikjmhnjlalbab.fnExactLearned
open Go.ChangeShapes Go.WideShapes Go.ChangeAt Go.RowKit
open Go.ChangeMaps (open_string shut_string)
open Go.Proofs.Ytdikjmhnjlalbab.tm Go.Proofs.Ytdikjmhnjlalbab.bld Go.Proofs.Ytdikjmhnjlalbab.mrk Go.Proofs.Ytdikjmhnjlalbab.frm
set_option linter.unusedVariables false

set_option maxHeartbeats 8000000 in
set_option maxRecDepth 100000 in
theorem walk (w : World) (ad0 : Option Addr) (n0 cap0 : Nat) (ls0 : List Bs) (hn0 : n0 = ls0.length) (h0 : Rds w (.slice ad0 n0 cap0) ls0) (hm0 : n0 ≤ maxLen) (hw0 : ∀ x ∈ ls0, x.length ≤ maxLen) (ad1 : Option Addr) (n1 cap1 : Nat) (ls1 : List Bs) (hn1 : n1 = ls1.length) (h1 : Rds w (.slice ad1 n1 cap1) ls1) (hm1 : n1 ≤ maxLen) (hw1 : ∀ x ∈ ls1, x.length ≤ maxLen) :
    Calls Try.prog 4 #[.slice ad0 n0 cap0, .slice ad1 n1 cap1] w fun e w' => e = .returned (.bool true) ∧ Below w.heap.size w w' := by
  have cz := tsz.szStringS_calls ad0 n0 cap0 ls0 w hn0 h0 hm0 hw0
  have cz2 := fun L hL => szm.szFrom_calls L hL ad1 n1 cap1 ls1 w hn1 h1 hm1 hw1
  have ct := fun w => tsz.toStringS_calls ad0 n0 cap0 ls0 w hn0
  have ct1 := fun w => tsz.toStringS_calls ad1 n1 cap1 ls1 w hn1
  have hml : ls0.length ≤ maxLen := by rw [← hn0]; exact hm0
  have hml1 : ls1.length ≤ maxLen := by rw [← hn1]; exact hm1
  have cs := fun a c' b d (w : World) h h' => lrn.specLearned_calls a ls0.length c' b ls1.length d ls0 ls1 w rfl h hml hw0 rfl h' hml1 hw1
  have ci := fun a c' b d (w : World) h h' => lrn.implLearned_calls a ls0.length c' b ls1.length d ls0 ls1 w rfl h hml hw0 rfl h' hml1 hw1
  have H := Lib.hid h0
  have H1 := Lib.hid h1
  have CZ := Lib.hid cz
  have CZ2 := Lib.hid cz2
  have CT := Lib.hid ct
  have CT1 := Lib.hid ct1
  have CS := Lib.hid cs
  have CI := Lib.hid ci
  clear h0 h1 hn0 hn1 hw0 hw1 cz cz2 ct ct1 cs ci hml hml1
  go_enter Try.func4, Try.ntmps4
  go_wp2_with fail
  refine CZ.out.mono ?_
  rintro e w1 ⟨rfl, rfl | ⟨L, hL, rfl, hln, hxs⟩⟩
  · go_wp2_with fail
    go_ret
    exact ⟨rfl, Below.refl _ _⟩
  clear CZ
  have d1 : decide ((L : Int) < 0) = false := by simp
  clear hxs
  go_wp2_with fail
  refine (CZ2.out L hL).mono ?_
  rintro e w1 ⟨rfl, rfl | ⟨L', hL', rfl, hln1, hxs⟩⟩
  · go_wp2_with fail
    go_ret
    exact ⟨rfl, Below.refl _ _⟩
  clear CZ2
  have d2 : decide ((L' : Int) < 0) = false := by simp
  clear hxs
  go_wp2_with fail
  refine (CT.out w H.out (by omega)).mono ?_
  rintro e w2 ⟨v2, rfl, hb2, hw2⟩
  obtain ⟨a2, c2, rfl⟩ := rds_len hw2.rds
  have B2 := Lib.hid hb2
  have R2 := Lib.hid hw2.rds
  clear hb2 hw2
  go_wp2_with fail
  refine (CT1.out w2 (Rds.below H1.out B2.out) (by omega)).mono ?_
  rintro e w3 ⟨v3, rfl, hb3, hw3⟩
  obtain ⟨a3, c3, rfl⟩ := rds_len hw3.rds
  have B3 := Lib.hid (B2.out.trans (hb3.mono B2.out.size))
  clear B2
  have R23 := Lib.hid (Rds.below R2.out hb3)
  clear R2
  have R3 := Lib.hid hw3.rds
  clear hb3 hw3
  go_wp2_with fail
  refine (CS.out a2 c2 a3 c3 w3 R23.out R3.out).mono ?_
  rintro e w4 ⟨vs, out, rfl, hb4, hs4, hlr⟩
  clear CS R23 R3
  have hol := hlr.len
  have B4 := Lib.hid (B3.out.trans (hb4.mono B3.out.size))
  have S4 := Lib.hid (mrd.Rb.of hs4)
  have LR := Lib.hid hlr
  have z3 := B3.out.size
  clear B3
  have z34 := hb4.size
  clear hb4 hs4 hlr
  go_wp2_with fail
  refine (CT.out w4 (Rds.below H.out B4.out) (by omega)).mono ?_
  rintro e w5 ⟨v5, rfl, hb5, hw5⟩
  obtain ⟨a5, c5, rfl⟩ := rds_len hw5.rds
  have B5 := Lib.hid (B4.out.trans (hb5.mono B4.out.size))
  clear B4
  have S5 := Lib.hid (S4.out.below hb5)
  clear S4
  have X5 := Lib.hid (mrd.Wb.of hw5)
  have z45 := hb5.size
  clear hb5 hw5
  go_wp2_with fail
  refine (CT1.out w5 (Rds.below H1.out B5.out) (by omega)).mono ?_
  rintro e w6 ⟨v6, rfl, hb6, hw6⟩
  obtain ⟨a6, c6, rfl⟩ := rds_len hw6.rds
  have B6 := Lib.hid (B5.out.trans (hb6.mono B5.out.size))
  clear B5
  have S6 := Lib.hid (S5.out.below hb6)
  clear S5
  have X6 := Lib.hid (X5.out.below hb6)
  clear X5
  have Y6 := Lib.hid (mrd.Wb.of hw6)
  have z56 := hb6.size
  clear hb6 hw6
  go_wp2_with fail
  refine (CI.out a5 c5 a6 c6 w6 X6.out.wrs.rds Y6.out.wrs.rds).mono ?_
  rintro e w7 ⟨vi, out', rfl, hb7, hs7, hlr⟩
  obtain rfl : out' = out := hlr.one LR.out
  have B7 := Lib.hid (B6.out.trans (hb7.mono B6.out.size))
  clear B6
  have S7 := Lib.hid (S6.out.below hb7)
  clear S6
  have X7 := Lib.hid (X6.out.below hb7)
  clear X6
  have Y7 := Lib.hid (Y6.out.below hb7)
  clear Y6
  have G7 := Lib.hid (mrd.Wb.of (mrs.Strs.wrs hs7))
  have z67 := hb7.size
  clear hb7 hs7 hlr
  go_wp2_with fail
  refine (mrk.eqStringS_calls _ _ out' _ G7.out.wrs.rds S7.out.rds (by omega)).mono ?_
  rintro e w8 ⟨rfl, hb8⟩
  have k8 := hb8.below w7.heap.size
  have B8 := Lib.hid (B7.out.trans (hb8.below _))
  clear B7
  have S8 := Lib.hid (S7.out.below k8)
  clear S7
  have X8 := Lib.hid (X7.out.below k8)
  clear X7
  have Y8 := Lib.hid (Y7.out.below k8)
  clear Y7
  have G8 := Lib.hid (G7.out.below k8)
  clear G7
  clear hb8 k8
  go_wp2_with fail
  refine (CT.out w8 (Rds.below H.out B8.out) (by omega)).mono ?_
  rintro e w9 ⟨v9, rfl, hb9, hw9⟩
  have B9 := Lib.hid (B8.out.trans (hb9.mono B8.out.size))
  clear B8
  have S9 := Lib.hid (S8.out.below hb9)
  clear S8
  have X9 := Lib.hid (X8.out.below hb9)
  clear X8
  have Y9 := Lib.hid (Y8.out.below hb9)
  clear Y8
  have G9 := Lib.hid (G8.out.below hb9)
  clear G8
  have Q9 := Lib.hid hw9.rds
  clear hb9 hw9
  go_wp2_with fail
  refine (mrk.eqStringS_calls _ _ ls0 _ X9.out.wrs.rds Q9.out (by omega)).mono ?_
  rintro e w10 ⟨rfl, hb10⟩
  clear Q9
  have k10 := hb10.below w9.heap.size
  have B10 := Lib.hid (B9.out.trans (hb10.below _))
  clear B9
  have S10 := Lib.hid (S9.out.below k10)
  clear S9
  have X10 := Lib.hid (X9.out.below k10)
  clear X9
  have Y10 := Lib.hid (Y9.out.below k10)
  clear Y9
  have G10 := Lib.hid (G9.out.below k10)
  clear G9
  clear hb10 k10
  go_wp2_with fail
  refine (CT1.out w10 (Rds.below H1.out B10.out) (by omega)).mono ?_
  rintro e w11 ⟨v11, rfl, hb11, hw11⟩
  have B11 := Lib.hid (B10.out.trans (hb11.mono B10.out.size))
  clear B10
  have S11 := Lib.hid (S10.out.below hb11)
  clear S10
  have X11 := Lib.hid (X10.out.below hb11)
  clear X10
  have Y11 := Lib.hid (Y10.out.below hb11)
  clear Y10
  have G11 := Lib.hid (G10.out.below hb11)
  clear G10
  have Q11 := Lib.hid hw11.rds
  clear hb11 hw11
  go_wp2_with fail
  refine (mrk.eqStringS_calls _ _ ls1 _ Y11.out.wrs.rds Q11.out (by omega)).mono ?_
  rintro e w12 ⟨rfl, hb12⟩
  clear Q11
  have k12 := hb12.below w11.heap.size
  have B12 := Lib.hid (B11.out.trans (hb12.below _))
  clear B11
  have S12 := Lib.hid (S11.out.below k12)
  clear S11
  have X12 := Lib.hid (X11.out.below k12)
  clear X11
  have Y12 := Lib.hid (Y11.out.below k12)
  clear Y11
  have G12 := Lib.hid (G11.out.below k12)
  clear G11
  clear hb12 k12
  go_wp2_with fail
  refine (mrs.markStringS_calls _ ls0 _ _ X12.out.wrs (by omega) 1 (by omega) (by omega)).mono ?_
  rintro e w13 ⟨rfl, hm13, _⟩
  have B13 := Lib.hid (mrd.Marked.low B12.out hm13 B12.out.size X12.out.blk (by omega))
  clear B12
  have S13 := Lib.hid (S12.out.apart hm13 X12.out.blk (by omega))
  clear S12
  have Y13 := Lib.hid (Y12.out.apart hm13 X12.out.blk (by omega))
  clear Y12
  have G13 := Lib.hid (G12.out.apart hm13 X12.out.blk (by omega))
  clear G12 X12
  clear hm13
  obtain ⟨m1, hm1e⟩ : ∃ m, m = 1 + ls0.length := ⟨_, rfl⟩
  rw [← hm1e]
  have HM1 := Lib.hid hm1e
  clear hm1e
  go_wp2_with fail
  refine (mrs.markStringS_calls _ ls1 _ _ Y13.out.wrs (by omega) m1 (by have := HM1.out; omega) (by have := HM1.out; omega)).mono ?_
  rintro e w14 ⟨rfl, hm14, _⟩
  have B14 := Lib.hid (mrd.Marked.low B13.out hm14 B13.out.size Y13.out.blk (by omega))
  clear B13
  have S14 := Lib.hid (S13.out.apart hm14 Y13.out.blk (by omega))
  clear S13
  have G14 := Lib.hid (G13.out.apart hm14 Y13.out.blk (by omega))
  clear G13 Y13
  clear hm14
  obtain ⟨m2, hm2e⟩ : ∃ m, m = m1 + ls1.length := ⟨_, rfl⟩
  rw [← hm2e]
  clear hm2e HM1
  have d3 : decide ((m2 : Int) < 0) = false := by simp
  go_wp2_with fail
  refine (mrk.eqStringS_calls _ _ out' _ G14.out.wrs.rds S14.out.rds (by omega)).mono ?_
  rintro e w15 ⟨rfl, hb15⟩
  have k15 := hb15.below w14.heap.size
  have B15 := Lib.hid (B14.out.trans (hb15.below _))
  clear B14
  have S15 := Lib.hid (S14.out.below k15)
  clear S14
  have G15 := Lib.hid (G14.out.below k15)
  clear G14
  clear hb15 k15
  go_wp2_with fail
  refine (mrs.markStringS_calls _ out' _ _ G15.out.wrs (by omega) 1 (by omega) (by omega)).mono ?_
  rintro e w16 ⟨rfl, hm16, hk16⟩
  have B16 := Lib.hid (mrd.Marked.low B15.out hm16 B15.out.size G15.out.blk (by omega))
  clear B15
  have S16 := Lib.hid (S15.out.apart hm16 G15.out.blk (by omega))
  clear G15 S15
  have K16 := Lib.hid hk16
  clear hm16 hk16
  obtain ⟨m3, hm3e⟩ : ∃ m, m = 1 + out'.length := ⟨_, rfl⟩
  rw [← hm3e]
  have CH := Lib.hid (fun (w : World) h => mrs.heldStringS_calls vi out'.length w 1 h (by omega) (by omega) (by omega))
  rw [← hm3e] at CH
  clear hm3e
  have d4 : decide ((m3 : Int) < 0) = false := by simp
  have d5 : ((m3 : Int) != (m3 : Int)) = false := by simp
  go_wp2_with fail
  refine (CH.out _ K16.out).mono ?_
  rintro e w17 ⟨rfl, hb17⟩
  have B17 := Lib.hid (B16.out.trans (hb17.mono B16.out.size))
  clear B16
  have S17 := Lib.hid (S16.out.below hb17)
  clear S16
  have K17 := Lib.hid (Rds.below K16.out hb17)
  clear K16
  clear hb17
  go_wp2_with fail
  refine (CT.out w17 (Rds.below H.out B17.out) (by omega)).mono ?_
  rintro e w18 ⟨v18, rfl, hb18, hw18⟩
  clear CT H
  obtain ⟨a18, c18, rfl⟩ := rds_len hw18.rds
  have B18 := Lib.hid (B17.out.trans (hb18.mono B17.out.size))
  clear B17
  have S18 := Lib.hid (S17.out.below hb18)
  clear S17
  have K18 := Lib.hid (Rds.below K17.out hb18)
  clear K17
  have P18 := Lib.hid hw18.rds
  clear hb18 hw18
  go_wp2_with fail
  refine (CT1.out w18 (Rds.below H1.out B18.out) (by omega)).mono ?_
  rintro e w19 ⟨v19, rfl, hb19, hw19⟩
  clear CT1 H1
  obtain ⟨a19, c19, rfl⟩ := rds_len hw19.rds
  have B19 := Lib.hid (B18.out.trans (hb19.mono B18.out.size))
  clear B18
  have S19 := Lib.hid (S18.out.below hb19)
  clear S18
  have K19 := Lib.hid (Rds.below K18.out hb19)
  clear K18
  have P19 := Lib.hid (Rds.below P18.out hb19)
  clear P18
  have O19 := Lib.hid hw19.rds
  clear hb19 hw19
  go_wp2_with fail
  refine (CI.out a18 c18 a19 c19 w19 P19.out O19.out).mono ?_
  rintro e w20 ⟨vh, out'', rfl, hb20, hs20, hlr⟩
  clear CI O19 P19
  obtain rfl : out'' = out' := hlr.one LR.out
  clear LR
  have B20 := Lib.hid (B19.out.trans (hb20.mono B19.out.size))
  clear B19
  have S20 := Lib.hid (S19.out.below hb20)
  clear S19
  have K20 := Lib.hid (Rds.below K19.out hb20)
  clear K19
  have G20 := Lib.hid (mrs.Strs.wrs hs20).rds
  clear hb20 hs20 hlr
  go_wp2_with fail
  refine (mrk.eqStringS_calls _ _ out'' _ G20.out S20.out.rds (by omega)).mono ?_
  rintro e w21 ⟨rfl, hb21⟩
  clear G20 S20
  have B21 := Lib.hid (B20.out.trans (hb21.below _))
  clear B20
  have K21 := Lib.hid (mrk.Rds.still K20.out hb21)
  clear K20
  clear hb21
  go_wp2_with fail
  refine (CH.out _ K21.out).mono ?_
  rintro e w22 ⟨rfl, hb22⟩
  clear CH K21
  have B22 := Lib.hid (B21.out.trans (hb22.mono B21.out.size))
  clear B21
  clear hb22
  go_wp2_with fail
  go_ret
  exact ⟨rfl, B22.out⟩

set_option maxRecDepth 100000 in
theorem lifted (os : Os) (started : os.Started) (H : Type) (enc : TypeId × Value → H) :
    ReturnsInHanded {} Try.checked os 4 .any (Rows.fnExactLearnedSpec.pre6 enc Try.prog Try.f4 Rows.fnExactLearnedRow.domain false) (Rows.fnExactLearnedSpec.post enc Try.prog Try.f4 false true false false) := by
  refine returnsInHanded_of_change (C := Try.checked) frm.own started (by kernel_rfl) Try.func4
    (ChangeSpec.witness6 (enc := enc) (C := Try.checked) false ⟨#[], #[.slice none 0 0, .slice none 0 0], []⟩ 8 (by kernel_rfl) (by kernel_rfl) (by kernel_rfl) (by kernel_rfl)) ?_
  intro W base args ds gs before hval0 hW hcnd _
  have hval : ∀ (j : Nat) t v, Try.f4.params[j]? = some t → args[j]? = some v → Value.okWide Try.prog W .any base t v := hval0
  have hW' := hW
  obtain ⟨p, q, hA0, hV, rfl, hfz, hnd⟩ := hW
  have hlt : ∀ x ∈ p, x.block < W.heap.size := fun x hx => hW'.lt x (by simp [hx])
  have hA : DataW.TrodAll enc Try.prog W 0 (fun _ => true) true Try.f4.params.toList args.toList ds p := hA0
  rw [Try.params4] at hA hval
  obtain ⟨v0, vs0, d0, ds0, p0, q0, hargs, rfl, rfl, g0, r0⟩ := trodAll_cons hA
  obtain ⟨v1, vs1, d1, ds1, p1, q1, rfl, rfl, rfl, g1, r1⟩ := trodAll_cons r0
  obtain ⟨rfl, rfl, rfl⟩ := trodAll_nil r1
  obtain rfl : args = #[v0, v1] := by cases args; simp_all
  obtain ⟨rfl, rfl⟩ := trodVars_none hV
  obtain ⟨ad0, n0, cap0, rfl⟩ := okWide_slice Try.underlying22 (hval 0 22 v0 rfl rfl)
  obtain ⟨ls0, hn0, hr0, hm0, hw0⟩ := frm.open_rds g0
  obtain ⟨ad1, n1, cap1, rfl⟩ := okWide_slice Try.underlying22 (hval 1 22 v1 rfl rfl)
  obtain ⟨ls1, hn1, hr1, hm1, hw1⟩ := frm.open_rds g1
  clear hA0 hval0
  refine (walk W ad0 n0 cap0 ls0 hn0 hr0 hm0 hw0 ad1 n1 cap1 ls1 hn1 hr1 hm1 hw1).mono fun e W' ⟨he, hg⟩ => ?_
  subst he
  exact ⟨_, rfl, _, _, _, [], _, [], hW', (trodAll_cons_mk (shut_bool Try.underlying4 _) trodAll_mk0), (trodAll_cons_mk (Below.trod frm.laidOut (by kernel_rfl) (of_decide_eq_true (by kernel_rfl)) g0 hg (fun x hx => hlt x (by simp [hx]))) (trodAll_cons_mk (Below.trod frm.laidOut (by kernel_rfl) (of_decide_eq_true (by kernel_rfl)) g1 hg (fun x hx => hlt x (by simp [hx]))) trodAll_mk0)), rfl, hg.frame _, fun h => by cases h⟩

set_option maxRecDepth 100000 in
theorem over : Rows.fnExactLearnedRow.holds Try.pinned (OpenSpec.ofChange Rows.fnExactLearnedSpec) :=
  OpenClaim.holds_of_wide 4 Try.f4 rfl rfl rfl rfl rfl rfl rfl ⟨rfl, rfl, rfl, rfl, rfl⟩ rfl rfl rfl rfl rfl (by kernel_rfl) Try.func4 (by kernel_rfl)
    (of_decide_eq_true (by kernel_rfl)) (by unfold Func.isWrapper; first | (rw [if_pos (by decide +kernel)]; kernel_rfl) | (rw [if_neg (by decide +kernel)]; exact ⟨rfl, rfl⟩))
    (fun os started H enc _ => lifted os started H enc)

theorem proved : Rows.FnExactLearnedSaid :=
  over

end Go.Proofs.Ytdikjmhnjlalbab.fnExactLearned
