/- Fits of the program answers as Fits of the model, for every jar, every letter and every address; it writes nothing into its argument; no condition. -/
import Derived.Test.YtdikjmhnjlalbaaGreatRows
import Derived.Test.YtdikjmhnjlalbaaGreatQg
import Derived.Test.YtdikjmhnjlalbaaGreatQc
import Derived.WalkKit
import Derived.Test.YtdikjmhnjlalbaaGreatGftq
import Derived.Test.YtdikjmhnjlalbaaGreatQm
import Derived.Test.YtdikjmhnjlalbaaGreatQf
import Derived.RegionTactic
import Derived.BigRegion
import Derived.Deep.RegionWith
import Derived.Deep.DeepCutAuto
namespace Go.Proofs.YtdikjmhnjlalbaaGreat.fnExactFits
open Go.ChangeShapes Go.WideShapes Go.ChangeAt Go.RowKit
open Go.ChangeMaps (open_string shut_string)
open Go.Proofs.YtdikjmhnjlalbaaGreat.tm Go.Proofs.YtdikjmhnjlalbaaGreat.bld Go.Proofs.YtdikjmhnjlalbaaGreat.mrk Go.Proofs.YtdikjmhnjlalbaaGreat.frm
set_option linter.unusedVariables false

set_option maxHeartbeats 8000000 in
set_option maxRecDepth 100000 in
theorem walk (w : World) (j0 : gdp.Jr) (h0 : fmg.JrIn j0) (m1 : ltv.Lt) (sv1 : Value) (h1 : fml.LtIn w m1 sv1) (a2 : gdp.Ad) (h2 : fmg.AdIn a2) :
    Calls Tryz.prog 3 #[.agg (rbk.jrA j0), .agg (ltv.letA m1 sv1), .agg (rbk.adA a2)] w fun e w' => e = .returned (.bool true) ∧ Below w.heap.size w w' := by
  have rs := fun (w' : World) u (hs : lth.Small m1) (x1 : j0.now.length ≤ 1048576) (x2 : j0.was.length ≤ 1048576) (y1 : a2.st.length ≤ 1048576) (y2 : a2.hs.length ≤ 1048576) h => gft.specFits_calls j0 m1 u a2 w' h (by have := hs.len; omega) (fun x hx => by have := hs.each x hx; omega) (by have := hs.a; omega) (by have := hs.b; omega) (by omega) (by omega) (by omega) (by omega)
  have ri := fun (w' : World) u (hs : lth.Small m1) (x1 : j0.now.length ≤ 1048576) (x2 : j0.was.length ≤ 1048576) (y1 : a2.st.length ≤ 1048576) (y2 : a2.hs.length ≤ 1048576) h => gft.implFits_calls j0 m1 u a2 w' h (by have := hs.len; omega) (fun x hx => by have := hs.each x hx; omega) (by have := hs.a; omega) (by have := hs.b; omega) (by omega) (by omega) (by omega) (by omega)
  have tl := fun w' k (hs : lth.Small m1) => lth.toLetter_calls m1 sv1 w' (Rds.below h1.rds k) (by have := hs.len; omega)
  have eq := fun (w' : World) u v (hs : lth.Small m1) h k => lth.eqLetter_calls m1 u v w' h k (by have := hs.len; omega)
  have szl := fun (L : Nat) hL w' k => lth.szLetterFrom_calls L hL m1 sv1 w' (h1.below k)
  obtain ⟨ad, cap, hsv⟩ := lth.rds_form h1.rds
  rw [hsv] at szl tl ⊢
  obtain ⟨bb, hbb⟩ : ∃ b, b = gft.fitR j0 m1 a2 := ⟨_, rfl⟩
  simp only [← hbb] at rs ri
  have SZJ := Lib.hid (fun w' => glh.szJar_calls j0 h0 1048576 (Nat.le_refl _) w')
  have SZA := Lib.hid (fun (L : Nat) hL w' => glh.szAddr_calls a2 h2 L hL w')
  have TOJ := Lib.hid (fun w' => glh.toJar_calls j0 w')
  have TOA := Lib.hid (fun w' => glh.toAddr_calls a2 w')
  have SZL := Lib.hid szl
  have TL := Lib.hid tl
  have RS := Lib.hid rs
  have RI := Lib.hid ri
  have EQ := Lib.hid eq
  unfold ltv.letA at SZL TL RS RI EQ ⊢
  unfold rbk.jrA at SZJ TOJ RS RI ⊢
  unfold rbk.adA at SZA TOA RS RI ⊢
  obtain ⟨s, t, x, y⟩ := j0
  obtain ⟨k, f, tt, c, ps, b1, b2⟩ := m1
  obtain ⟨p, q⟩ := a2
  simp only at SZJ SZA SZL TOJ TOA TL RS RI EQ ⊢
  obtain ⟨n, hn⟩ : ∃ n, n = ps.length := ⟨_, rfl⟩
  rw [← hn] at SZL TL ⊢
  have HN := Lib.hid hn
  clear h0 h1 h2 szl tl rs ri eq hsv hbb hn
  have db : (bb != bb) = false := by simp
  have kW := glh.new3 w (.cells #[str s, str t, .int .i64 x, .int .i64 y] 23) (.cells #[.int .i64 k, .int .i64 f, .int .i64 tt, .int .i64 c, .slice ad n cap, str b1, str b2] 26) (.cells #[str p, str q] 28)
  obtain ⟨x0, x1, x2⟩ := gft.alloc3 w (.cells #[str s, str t, .int .i64 x, .int .i64 y] 23) (.cells #[.int .i64 k, .int .i64 f, .int .i64 tt, .int .i64 c, .slice ad n cap, str b1, str b2] 26) (.cells #[str p, str q] 28)
  have Q := And.intro x0 (And.intro x1 (And.intro x2 kW))
  clear x0 x1 x2 kW
  go_enter Tryz.func3, Tryz.ntmps3
  go_wp2_with fail
  generalize hW : (((w.alloc (.cells #[str s, str t, .int .i64 x, .int .i64 y] 23)).alloc (.cells #[.int .i64 k, .int .i64 f, .int .i64 tt, .int .i64 c, .slice ad n cap, str b1, str b2] 26)).alloc (.cells #[str p, str q] 28)) = W at Q
  obtain ⟨x0, x1, x2, kW⟩ := Q
  clear hW
  refine (SZJ.out _).mono ?_
  rintro e w1 ⟨hb, rfl | ⟨L1, rfl, hL1, j1, j2⟩⟩
  · have HB := Lib.hid (kW.trans (hb.mono kW.size))
    clear hb
    go_wp2_with fail
    go_ret
    exact ⟨rfl, HB.out⟩
  have HB1 := Lib.hid (kW.trans (hb.mono kW.size))
  have X0 := Lib.hid (glh.keptB x0 hb)
  have X1 := Lib.hid (glh.keptB x1 hb)
  have X2 := Lib.hid (glh.keptB x2 hb)
  clear hb x0 x1 x2 kW
  obtain ⟨m0, m1, m2, m3, m4, m5, m6, mz⟩ := lth.seven X1.out
  have d1 : decide ((L1 : Int) < 0) = false := by simp
  go_wp2_with fail
  refine (SZL.out L1 hL1 _ HB1.out).mono ?_
  rintro e w2 ⟨hb, rfl | ⟨L2, hL2, rfl, hs⟩⟩
  · have HB := Lib.hid (HB1.out.trans (hb.mono HB1.out.size))
    clear hb
    go_wp2_with fail
    go_ret
    exact ⟨rfl, HB.out⟩
  have HS := Lib.hid hs
  have HB2 := Lib.hid (HB1.out.trans (hb.mono HB1.out.size))
  have Y0 := Lib.hid (glh.keptB X0.out hb)
  have Y1 := Lib.hid (glh.keptB X1.out hb)
  have Y2 := Lib.hid (glh.keptB X2.out hb)
  clear hb hs X0 X1 X2 HB1 m0 m1 m2 m3 m4 m5 m6 mz
  obtain ⟨a0, a1, az⟩ := glh.two Y2.out
  have d2 : decide ((L2 : Int) < 0) = false := by simp
  go_wp2_with fail
  refine (SZA.out L2 hL2 _).mono ?_
  rintro e w3 ⟨hb, rfl | ⟨L3, rfl, -, y1, y2⟩⟩
  · have HB := Lib.hid (HB2.out.trans (hb.mono HB2.out.size))
    clear hb
    go_wp2_with fail
    go_ret
    exact ⟨rfl, HB.out⟩
  have HB3 := Lib.hid (HB2.out.trans (hb.mono HB2.out.size))
  have Z0 := Lib.hid (glh.keptB Y0.out hb)
  have Z1 := Lib.hid (glh.keptB Y1.out hb)
  have Z2 := Lib.hid (glh.keptB Y2.out hb)
  clear hb Y0 Y1 Y2 HB2 a0 a1 az
  have d3 : decide ((L3 : Int) < 0) = false := by simp
  go_upto_region 11 with fail
  go_cut [8] (fun s8 wx => s8 = .bool bb ∧ wx.heap[w.heap.size]? = some (.cells #[str s, str t, .int .i64 x, .int .i64 y] 23) ∧ wx.heap[w.heap.size + 1]? = some (.cells #[.int .i64 k, .int .i64 f, .int .i64 tt, .int .i64 c, .slice ad n cap, str b1, str b2] 26) ∧ wx.heap[w.heap.size + 1 + 1]? = some (.cells #[str p, str q] 28) ∧ Below w.heap.size w wx)
  case first =>
    have HD := Lib.hid (HB3.out.trans ((rdr.Still.drewN w3 1).below _))
    have D0 := Lib.hid (show (w3.drew).heap[w.heap.size]? = _ from Z0.out)
    have D1 := Lib.hid (show (w3.drew).heap[w.heap.size + 1]? = _ from Z1.out)
    have D2 := Lib.hid (show (w3.drew).heap[w.heap.size + 1 + 1]? = _ from Z2.out)
    obtain ⟨j0, j1', j2', j3, jz⟩ := glh.four D0.out
    obtain ⟨m0, m1, m2, m3, m4, m5, m6, mz⟩ := lth.seven D1.out
    obtain ⟨a0, a1, az⟩ := glh.two D2.out
    go_region_with (first
      | (go_at_call 8; refine (TOJ.out _).mono ?_; rintro e wA ⟨rfl, hbA⟩; have HA := Lib.hid (HD.out.trans (hbA.mono HD.out.size)); have A0 := Lib.hid (glh.keptB D0.out hbA); have A1 := Lib.hid (glh.keptB D1.out hbA); have A2 := Lib.hid (glh.keptB D2.out hbA); clear hbA; obtain ⟨m0, m1, m2, m3, m4, m5, m6, mz⟩ := lth.seven A1.out; obtain ⟨a0, a1, az⟩ := glh.two A2.out)
      | (go_at_call 9; refine (TL.out _ HA.out HS.out).mono ?_; rintro e wB ⟨uB, rfl, hbB, hwB⟩; obtain ⟨aB, cB, rfl⟩ := lth.rds_form hwB.rds; have RB := Lib.hid hwB.rds; have HB := Lib.hid (HA.out.trans (hbB.mono HA.out.size)); have B0 := Lib.hid (glh.keptB A0.out hbB); have B1 := Lib.hid (glh.keptB A1.out hbB); have B2 := Lib.hid (glh.keptB A2.out hbB); clear hbB hwB; obtain ⟨a0, a1, az⟩ := glh.two B2.out)
      | (go_at_call 10; refine (TOA.out _).mono ?_; rintro e wC ⟨rfl, hbC⟩; have RC := Lib.hid (Rds.below RB.out hbC); have HC := Lib.hid (HB.out.trans (hbC.mono HB.out.size)); have C0 := Lib.hid (glh.keptB B0.out hbC); have C1 := Lib.hid (glh.keptB B1.out hbC); have C2 := Lib.hid (glh.keptB B2.out hbC); clear hbC)
      | (go_at_call 7; refine (RS.out _ _ HS.out j1 j2 y1 y2 RC.out).mono ?_; rintro e wD ⟨rfl, hbD⟩; have HE := Lib.hid (HC.out.trans (hbD.mono HC.out.size)); have E0 := Lib.hid (glh.keptB C0.out hbD); have E1 := Lib.hid (glh.keptB C1.out hbD); have E2 := Lib.hid (glh.keptB C2.out hbD); clear hbD))
    all_goals (go_wp2_with fail; go_meet; exact ⟨rfl, E0.out, E1.out, E2.out, HE.out⟩)
  case rest =>
  obtain ⟨rfl, x0, x1, x2, kW⟩ := hcut
  have X0 := Lib.hid x0
  have X1 := Lib.hid x1
  have X2 := Lib.hid x2
  have HB4 := Lib.hid kW
  clear x0 x1 x2 kW Z0 Z1 Z2 HB3
  obtain ⟨m0, m1, m2, m3, m4, m5, m6, mz⟩ := lth.seven X1.out
  go_wp2_with fail
  refine (TL.out _ HB4.out HS.out).mono ?_
  rintro e w5 ⟨u5, rfl, hb, hw⟩
  obtain ⟨a5, c5, rfl⟩ := lth.rds_form hw.rds
  have HB5 := Lib.hid (HB4.out.trans (hb.mono HB4.out.size))
  have Y0 := Lib.hid (glh.keptB X0.out hb)
  have Y1 := Lib.hid (glh.keptB X1.out hb)
  have Y2 := Lib.hid (glh.keptB X2.out hb)
  have R5 := Lib.hid hw.rds
  clear hb hw X0 X1 X2 HB4 m0 m1 m2 m3 m4 m5 m6 mz
  go_upto_region 13 with fail
  have k6 := glh.new1 w5 (.cells #[.int .i64 k, .int .i64 f, .int .i64 tt, .int .i64 c, .slice a5 ps.length c5, .string ⟨b1.toArray⟩, .string ⟨b2.toArray⟩] 35)
  have v6 := heap_alloc_new w5 (.cells #[.int .i64 k, .int .i64 f, .int .i64 tt, .int .i64 c, .slice a5 ps.length c5, .string ⟨b1.toArray⟩, .string ⟨b2.toArray⟩] 35)
  have Q := And.intro (HB5.out.trans (k6.mono HB5.out.size)) (And.intro (glh.keptB Y0.out k6) (And.intro (glh.keptB Y1.out k6) (And.intro (glh.keptB Y2.out k6) (And.intro v6 (Rds.below R5.out k6)))))
  clear k6 v6
  generalize hW : w5.alloc (.cells #[.int .i64 k, .int .i64 f, .int .i64 tt, .int .i64 c, .slice a5 ps.length c5, .string ⟨b1.toArray⟩, .string ⟨b2.toArray⟩] 35) = W6 at Q
  obtain ⟨kW, z0, z1, z2, z3, r6⟩ := Q
  have HB6 := Lib.hid kW
  have Z0 := Lib.hid z0
  have Z1 := Lib.hid z1
  have Z2 := Lib.hid z2
  have Z3 := Lib.hid z3
  have R6 := Lib.hid r6
  clear kW z0 z1 z2 z3 r6 hW Y0 Y1 Y2 R5 HB5
  go_cut [10] (fun s10 wx => s10 = .bool bb ∧ wx.heap[w.heap.size + 1]? = some (.cells #[.int .i64 k, .int .i64 f, .int .i64 tt, .int .i64 c, .slice ad n cap, str b1, str b2] 26) ∧ wx.heap[w5.heap.size]? = some (.cells #[.int .i64 k, .int .i64 f, .int .i64 tt, .int .i64 c, .slice a5 ps.length c5, .string ⟨b1.toArray⟩, .string ⟨b2.toArray⟩] 35) ∧ Rds wx (.slice a5 ps.length c5) ps ∧ Below w.heap.size w wx)
  case first =>
    have HD := Lib.hid (HB6.out.trans ((rdr.Still.drewN W6 1).below _))
    have D0 := Lib.hid (show (W6.drew).heap[w.heap.size]? = _ from Z0.out)
    have D1 := Lib.hid (show (W6.drew).heap[w.heap.size + 1]? = _ from Z1.out)
    have D2 := Lib.hid (show (W6.drew).heap[w.heap.size + 1 + 1]? = _ from Z2.out)
    have D3 := Lib.hid (show (W6.drew).heap[w5.heap.size]? = _ from Z3.out)
    have RD := Lib.hid (Rds.still R6.out (rdr.Still.drewN W6 1))
    obtain ⟨j0, j1', j2', j3, jz⟩ := glh.four D0.out
    obtain ⟨l0, l1, l2, l3, l4, l5, l6, lz⟩ := lth.seven D3.out
    obtain ⟨a0, a1, az⟩ := glh.two D2.out
    go_region_with (first
      | (go_at_call 8; refine (TOJ.out _).mono ?_; rintro e wA ⟨rfl, hbA⟩; have HA := Lib.hid (HD.out.trans (hbA.mono HD.out.size)); have A1 := Lib.hid (glh.keptB D1.out hbA); have A2 := Lib.hid (glh.keptB D2.out hbA); have A3 := Lib.hid (glh.keptB D3.out hbA); have RA := Lib.hid (Rds.below RD.out hbA); clear hbA; obtain ⟨l0, l1, l2, l3, l4, l5, l6, lz⟩ := lth.seven A3.out; obtain ⟨a0, a1, az⟩ := glh.two A2.out)
      | (go_at_call 10; refine (TOA.out _).mono ?_; rintro e wC ⟨rfl, hbC⟩; have RC := Lib.hid (Rds.below RA.out hbC); have HC := Lib.hid (HA.out.trans (hbC.mono HA.out.size)); have C1 := Lib.hid (glh.keptB A1.out hbC); have C3 := Lib.hid (glh.keptB A3.out hbC); clear hbC; obtain ⟨l0, l1, l2, l3, l4, l5, l6, lz⟩ := lth.seven C3.out)
      | (go_at_call 11; refine (RI.out _ _ HS.out j1 j2 y1 y2 RC.out).mono ?_; rintro e wD ⟨rfl, hbD⟩; have RE := Lib.hid (Rds.below RC.out hbD); have HE := Lib.hid (HC.out.trans (hbD.mono HC.out.size)); have E1 := Lib.hid (glh.keptB C1.out hbD); have E3 := Lib.hid (glh.keptB C3.out hbD); clear hbD))
    all_goals (go_wp2_with fail; go_meet; exact ⟨rfl, E1.out, E3.out, RE.out, HE.out⟩)
  case rest =>
  obtain ⟨rfl, x1, x3, r7, kW⟩ := hcut
  rename World => w7
  have X1 := Lib.hid x1
  have X3 := Lib.hid x3
  have HB7 := Lib.hid kW
  have R7 := Lib.hid r7
  clear x1 x3 kW r7 Z0 Z1 Z2 Z3 R6 HB6
  go_upto_region 16 with fail
  have HD := Lib.hid (HB7.out.trans ((rdr.Still.drewN w7 1).below _))
  have RD := Lib.hid (Rds.still R7.out (rdr.Still.drewN w7 1))
  have D1 := Lib.hid (show (w7.drew).heap[w.heap.size + 1]? = _ from X1.out)
  have D3 := Lib.hid (show (w7.drew).heap[w5.heap.size]? = _ from X3.out)
  clear R7 HB7 X1 X3
  obtain ⟨m0, m1, m2, m3, m4, m5, m6, mz⟩ := lth.seven D1.out
  obtain ⟨l0, l1, l2, l3, l4, l5, l6, lz⟩ := lth.seven D3.out
  go_region_with (first
    | (go_at_call 9; refine (TL.out _ HD.out HS.out).mono ?_; rintro e w8 ⟨u8, rfl, hb8, hw8⟩; obtain ⟨a8, c8, rfl⟩ := lth.rds_form hw8.rds; have RW := Lib.hid hw8.rds; have RZ := Lib.hid (Rds.below RD.out hb8); have HB8 := Lib.hid (HD.out.trans (hb8.mono HD.out.size)); have P8 := glh.keptB D3.out hb8; obtain ⟨s0, s1, s2, s3, s4, s5, s6, sz⟩ := lth.seven P8; clear P8 hb8 hw8)
    | (go_at_call 12; refine (EQ.out _ _ _ HS.out RZ.out RW.out).mono ?_; rintro e w9 ⟨rfl, hb9⟩; have HB9 := Lib.hid (HB8.out.trans (hb9.mono HB8.out.size)); clear hb9))
  all_goals (go_wp2_with fail; go_ret; exact ⟨rfl, HB9.out⟩)

set_option maxRecDepth 100000 in
theorem lifted (os : Os) (started : os.Started) (H : Type) (enc : TypeId × Value → H) :
    ReturnsInHanded {} Tryz.checked os 3 .any (Rows.fnExactFitsSpec.pre6 enc Tryz.prog Tryz.f3 Rows.fnExactFitsRow.domain false) (Rows.fnExactFitsSpec.post enc Tryz.prog Tryz.f3 false true false false) := by
  refine returnsInHanded_of_change (C := Tryz.checked) frm.own started (by kernel_rfl) Tryz.func3
    (ChangeSpec.witness6 (enc := enc) (C := Tryz.checked) false ⟨#[], #[.agg #[.string ByteArray.empty, .string ByteArray.empty, .int .i64 0, .int .i64 0], .agg #[.int .i64 0, .int .i64 0, .int .i64 0, .int .i64 0, .slice none 0 0, .string ByteArray.empty, .string ByteArray.empty], .agg #[.string ByteArray.empty, .string ByteArray.empty]], []⟩ 8 (by kernel_rfl) (by kernel_rfl) (by kernel_rfl) (by kernel_rfl)) ?_
  intro W base args ds gs before hval0 hW hcnd _
  have hval : ∀ (j : Nat) t v, Tryz.f3.params[j]? = some t → args[j]? = some v → Value.okWide Tryz.prog W .any base t v := hval0
  have hW' := hW
  obtain ⟨p, q, hA0, hV, rfl, hfz, hnd⟩ := hW
  have hlt : ∀ x ∈ p, x.block < W.heap.size := fun x hx => hW'.lt x (by simp [hx])
  have hA : DataW.TrodAll enc Tryz.prog W 0 (fun _ => true) true Tryz.f3.params.toList args.toList ds p := hA0
  rw [Tryz.params3] at hA hval
  obtain ⟨v0, vs0, d0, ds0, p0, q0, hargs, rfl, rfl, g0, r0⟩ := trodAll_cons hA
  obtain ⟨v1, vs1, d1, ds1, p1, q1, rfl, rfl, rfl, g1, r1⟩ := trodAll_cons r0
  obtain ⟨v2, vs2, d2, ds2, p2, q2, rfl, rfl, rfl, g2, r2⟩ := trodAll_cons r1
  obtain ⟨rfl, rfl, rfl⟩ := trodAll_nil r2
  obtain rfl : args = #[v0, v1, v2] := by cases args; simp_all
  obtain ⟨rfl, rfl⟩ := trodVars_none hV
  obtain ⟨j0, rfl, h0⟩ := fmg.open_jar (hval 0 23 v0 rfl rfl) g0
  obtain ⟨m1, sv1, rfl, hl1⟩ := fml.open_letter (hval 1 26 v1 rfl rfl) g1
  obtain ⟨a2, rfl, h2⟩ := fmg.open_addr (hval 2 28 v2 rfl rfl) g2
  clear hA0 hval0
  refine (walk W j0 h0 m1 sv1 hl1 a2 h2).mono fun e W' ⟨he, hg⟩ => ?_
  subst he
  exact ⟨_, rfl, _, _, _, [], _, [], hW', (trodAll_cons_mk (shut_bool Tryz.underlying4 _) trodAll_mk0), (trodAll_cons_mk (Below.trod frm.laidOut (by kernel_rfl) (of_decide_eq_true (by kernel_rfl)) g0 hg (fun x hx => hlt x (by simp [hx]))) (trodAll_cons_mk (Below.trod frm.laidOut (by kernel_rfl) (of_decide_eq_true (by kernel_rfl)) g1 hg (fun x hx => hlt x (by simp [hx]))) (trodAll_cons_mk (Below.trod frm.laidOut (by kernel_rfl) (of_decide_eq_true (by kernel_rfl)) g2 hg (fun x hx => hlt x (by simp [hx]))) trodAll_mk0))), rfl, hg.frame _, fun h => by cases h⟩

set_option maxRecDepth 100000 in
theorem over : Rows.fnExactFitsRow.holds Tryz.pinned (OpenSpec.ofChange Rows.fnExactFitsSpec) :=
  OpenClaim.holds_of_wide 3 Tryz.f3 rfl rfl rfl rfl rfl rfl rfl ⟨rfl, rfl, rfl, rfl, rfl⟩ rfl rfl rfl rfl rfl (by kernel_rfl) Tryz.func3 (by kernel_rfl)
    (of_decide_eq_true (by kernel_rfl)) (by unfold Func.isWrapper; first | (rw [if_pos (by decide +kernel)]; kernel_rfl) | (rw [if_neg (by decide +kernel)]; exact ⟨rfl, rfl⟩))
    (fun os started H enc _ => lifted os started H enc)

theorem proved : Rows.FnExactFitsSaid :=
  over

end Go.Proofs.YtdikjmhnjlalbaaGreat.fnExactFits
