/- SignTwice of the program answers as SignTwice of the model, every field, for every letter and every text; it writes nothing into its argument, and its list is its own; no condition. -/
import Derived.Test.YtnlinlodgpbnlaaGreatRows
import Derived.Test.YtnlinlodgpbnlaaGreatQc
import Derived.Test.YtnlinlodgpbnlaaGreatQd
import Derived.WalkKit
import Derived.Test.YtnlinlodgpbnlaaGreatSguq
import Derived.Test.YtnlinlodgpbnlaaGreatSgxq
import Derived.Test.YtnlinlodgpbnlaaGreatQg
import Derived.Test.YtnlinlodgpbnlaaGreatLtlq
import Derived.RegionTactic
import Derived.BigRegion
import Derived.Deep.RegionWith
namespace Go.Proofs.YtnlinlodgpbnlaaGreat.fnExactSignTwice
open Go.ChangeShapes Go.WideShapes Go.ChangeAt Go.RowKit
open Go.ChangeMaps (open_string shut_string)
open Go.Proofs.YtnlinlodgpbnlaaGreat.tm Go.Proofs.YtnlinlodgpbnlaaGreat.bld Go.Proofs.YtnlinlodgpbnlaaGreat.mrk Go.Proofs.YtnlinlodgpbnlaaGreat.frm
set_option linter.unusedVariables false

set_option maxHeartbeats 8000000 in
set_option maxRecDepth 100000 in
theorem walk (w : World) (m0 : ltv.Lt) (sv0 : Value) (h0 : fml.LtIn w m0 sv0) (a1 : ByteArray) (w1 : a1.size ≤ maxLen) :
    Calls Tryz.prog 6 #[.agg (ltv.letA m0 sv0), .string a1] w fun e w' => e = .returned (.bool true) ∧ Below w.heap.size w w' := by
  have hs1 := w1
  unfold maxLen at hs1
  by_cases hbig : 1048576 < a1.size
  · have d0 : decide ((1048576 : Int) < a1.size) = true := by simp; omega
    obtain ⟨ad, cap, hsv⟩ := lth.rds_form h0.rds
    rw [hsv]
    clear h0
    obtain ⟨k, f, t, c, ps, a, b⟩ := m0
    unfold ltv.letA
    simp only
    go_enter Tryz.func6, Tryz.ntmps6
    go_wp2_with fail
    go_ret
    exact ⟨rfl, lth.new1 _ _⟩
  have d9 : decide ((1048576 : Int) < a1.size) = false := by simp; omega
  have hlk : a1.data.toList.length ≤ 4000000 := by show a1.size ≤ 4000000; omega
  have sz := fun w' k => lth.szLetter_calls m0 sv0 w' (h0.below k)
  have SZ := Lib.hid sz
  have tl := fun w' k (hs : lth.Small m0) => lth.toLetter_calls m0 sv0 w' (Rds.below h0.rds k) (by have := hs.len; omega)
  have rs := fun (w' : World) u (hs : lth.Small m0) h => sgx.specSignTwice_calls m0 u a1.data.toList w' h (by have := hs.len; omega) (fun x hx => by have := hs.each x hx; omega) (by have := hs.a; omega) (by have := hs.b; omega) hlk
  have ri := fun (w' : World) u (hs : lth.Small m0) h => sgn.implTwice_calls m0 u a1.data.toList w' h (by have := hs.len; omega) (fun x hx => by have := hs.each x hx; omega) (by have := hs.a; omega) (by have := hs.b; omega) hlk
  have eq := fun (w' : World) u v (hs : lth.Small m0) h k => lth.eqLetter_calls m0 u v w' h k (by have := hs.len; omega)
  have hle : (ltp.twiceR m0 a1.data.toList).1.ps.length ≤ m0.ps.length := ltl.twiceR_le _ _
  obtain ⟨S0, hS0⟩ : ∃ s, s = (ltp.twiceR m0 a1.data.toList).1 := ⟨_, rfl⟩
  obtain ⟨cc, hcc⟩ : ∃ c, c = (ltp.twiceR m0 a1.data.toList).2 := ⟨_, rfl⟩
  simp only [← hS0, ← hcc] at rs ri hle
  change ∀ (w' : World) u (hs : lth.Small m0) h, Calls _ _ #[_, .string a1] w' _ at rs
  change ∀ (w' : World) u (hs : lth.Small m0) h, Calls _ _ #[_, .string a1] w' _ at ri
  have eo := fun (w' : World) u v (hs : lth.Small m0) h k => lto.eqOut_calls S0 cc u v w' h k (by have := hs.len; omega)
  have mkl := fun (w' : World) B u (hs : lth.Small m0) h => lto.markL_calls m0 u B w' h (by have := hs.len; omega)
  have mko := fun (w' : World) B u (hs : lth.Small m0) h => lto.markO_calls S0 u cc B w' h (by have := hs.len; omega)
  have hdo := fun (w' : World) u (hs : lth.Small m0) h => lto.heldO_calls S0 u cc S0.ps.length w' h (by have := hs.len; omega)
  obtain ⟨ad, cap, hsv⟩ := lth.rds_form h0.rds
  rw [hsv] at SZ tl ⊢
  have TL := Lib.hid tl
  have RS := Lib.hid rs
  have RI := Lib.hid ri
  have EQ := Lib.hid eq
  have EO := Lib.hid eo
  have MKL := Lib.hid mkl
  have MKO := Lib.hid mko
  have HDO := Lib.hid hdo
  unfold ltv.letA at SZ TL RS RI EQ MKL ⊢
  unfold sgv.outA at RS EO MKO HDO
  unfold sgi.outA at RI
  obtain ⟨k, f, t, c, ps, a, b⟩ := m0
  obtain ⟨k', f', t', c', ps', a', b'⟩ := S0
  simp only at SZ TL RS RI EQ EO MKL MKO HDO hle ⊢
  obtain ⟨n, hn⟩ : ∃ n, n = ps.length := ⟨_, rfl⟩
  rw [← hn] at SZ TL ⊢
  have HN := Lib.hid hn
  clear h0 sz tl rs ri eq eo mkl mko hdo hsv hn hlk hs1 hbig hS0 hcc hle
  go_enter Tryz.func6, Tryz.ntmps6
  go_wp2_with fail
  refine (SZ.out _ (lth.new1 _ _)).mono ?_
  rintro e wa ⟨hb, rfl | ⟨L, rfl, hs⟩⟩
  · have HB := Lib.hid ((lth.new1 _ _).trans (hb.mono (by simp)))
    clear hb
    go_wp2_with fail
    go_ret
    exact ⟨rfl, HB.out⟩
  have HS := Lib.hid hs
  have Xa := Lib.hid (lri.keptB (heap_alloc_new w _) hb)
  have HBa := Lib.hid ((lth.new1 _ _).trans (hb.mono (by simp)))
  clear hb hs
  obtain ⟨p0, p1, p2, p3, p4, p5, p6, pz⟩ := lth.seven Xa.out
  have za : w.heap.size < wa.heap.size := pz
  have d0 : decide ((L : Int) < 0) = false := by simp
  go_wp2_with fail
  refine (TL.out _ HBa.out HS.out).mono ?_
  rintro e wb ⟨u2, rfl, hb, hw⟩
  obtain ⟨a2, c2, rfl⟩ := lth.rds_form hw.rds
  have HBb := Lib.hid (HBa.out.trans (hb.mono HBa.out.size))
  have Xb := Lib.hid (lri.keptB Xa.out hb)
  have R2 := Lib.hid hw.rds
  have zb := hb.size
  clear hb hw p0 p1 p2 p3 p4 p5 p6 pz
  go_wp2_with fail
  refine (RS.out _ _ HS.out R2.out).mono ?_
  rintro e wc ⟨us, rfl, hb, hw⟩
  obtain ⟨az, cz, rfl⟩ := lth.rds_form hw.rds
  have HBc := Lib.hid (HBb.out.trans (hb.mono HBb.out.size))
  have Xc := Lib.hid (lri.keptB Xb.out hb)
  have USc := Lib.hid (mrd.Wb.of hw).rb
  have zc := hb.size
  clear hb hw R2 Xb HBb HBa Xa
  obtain ⟨p0, p1, p2, p3, p4, p5, p6, pz⟩ := lth.seven Xc.out
  go_wp2_with fail
  have kc := lth.new1 wc (.cells #[.int .i64 k', .int .i64 f', .int .i64 t', .int .i64 c', .slice az ps'.length cz, .string ⟨a'.toArray⟩, .string ⟨b'.toArray⟩, .int .i64 cc] 55)
  have XC := Lib.hid (lri.keptB Xc.out kc)
  have YC := Lib.hid (heap_alloc_new wc (.cells #[.int .i64 k', .int .i64 f', .int .i64 t', .int .i64 c', .slice az ps'.length cz, .string ⟨a'.toArray⟩, .string ⟨b'.toArray⟩, .int .i64 cc] 55))
  have USC := Lib.hid (USc.out.below kc)
  have HBC := Lib.hid (HBc.out.trans (kc.mono HBc.out.size))
  clear kc
  refine (TL.out _ HBC.out HS.out).mono ?_
  rintro e wd ⟨u4, rfl, hb, hw⟩
  obtain ⟨a4, c4, rfl⟩ := lth.rds_form hw.rds
  have HBd := Lib.hid (HBC.out.trans (hb.mono HBC.out.size))
  have Xd := Lib.hid (lri.keptB XC.out hb)
  have Yd := Lib.hid (lri.keptB YC.out hb)
  have USd := Lib.hid (USC.out.below hb)
  have UXd := Lib.hid (mrd.Wb.of hw)
  have zd := hb.size
  rw [World.size_alloc] at zd
  clear hb hw XC YC USC HBC p0 p1 p2 p3 p4 p5 p6 pz Xc USc HBc
  obtain ⟨p0, p1, p2, p3, p4, p5, p6, pz⟩ := lth.seven Xd.out
  go_wp2_with fail
  have kd := lth.new1 wd (.cells #[.int .i64 k, .int .i64 f, .int .i64 t, .int .i64 c, .slice a4 ps.length c4, .string ⟨a.toArray⟩, .string ⟨b.toArray⟩] 53)
  have XD := Lib.hid (lri.keptB Xd.out kd)
  have YD := Lib.hid (lri.keptB Yd.out kd)
  have VD := Lib.hid (heap_alloc_new wd (.cells #[.int .i64 k, .int .i64 f, .int .i64 t, .int .i64 c, .slice a4 ps.length c4, .string ⟨a.toArray⟩, .string ⟨b.toArray⟩] 53))
  have USD := Lib.hid (USd.out.below kd)
  have UXD := Lib.hid (UXd.out.below kd)
  have HBD := Lib.hid (HBd.out.trans (kd.mono HBd.out.size))
  clear kd
  refine (RI.out _ _ HS.out UXD.out.wrs.rds).mono ?_
  rintro e we ⟨ui, rfl, hb, hw⟩
  obtain ⟨ai, ci, rfl⟩ := lth.rds_form hw.rds
  have HBe := Lib.hid (HBD.out.trans (hb.mono HBD.out.size))
  have Xe := Lib.hid (lri.keptB XD.out hb)
  have Ye := Lib.hid (lri.keptB YD.out hb)
  have Ve := Lib.hid (lri.keptB VD.out hb)
  have USe := Lib.hid (USD.out.below hb)
  have UXe := Lib.hid (UXD.out.below hb)
  have UGe := Lib.hid (mrd.Wb.of hw)
  have ze := hb.size
  rw [World.size_alloc] at ze
  clear hb hw XD YD VD USD UXD HBD p0 p1 p2 p3 p4 p5 p6 pz Xd Yd USd UXd HBd
  obtain ⟨q0, q1, q2, q3, q4, q5, q6, q7, qz, qf⟩ := sgv.eight Ye.out
  go_wp2_with fail
  have ke := lth.new1 we (.cells #[.int .i64 k', .int .i64 f', .int .i64 t', .int .i64 c', .slice ai ps'.length ci, .string ⟨a'.toArray⟩, .string ⟨b'.toArray⟩, .int .i64 cc] 55)
  have XE := Lib.hid (lri.keptB Xe.out ke)
  have YE := Lib.hid (lri.keptB Ye.out ke)
  have VE := Lib.hid (lri.keptB Ve.out ke)
  have GE := Lib.hid (heap_alloc_new we (.cells #[.int .i64 k', .int .i64 f', .int .i64 t', .int .i64 c', .slice ai ps'.length ci, .string ⟨a'.toArray⟩, .string ⟨b'.toArray⟩, .int .i64 cc] 55))
  have USE := Lib.hid (USe.out.below ke)
  have UXE := Lib.hid (UXe.out.below ke)
  have UGE := Lib.hid (UGe.out.below ke)
  have HBE := Lib.hid (HBe.out.trans (ke.mono HBe.out.size))
  clear ke q0 q1 q2 q3 q4 q5 q6 q7 qz qf
  refine (EO.out _ _ _ HS.out UGE.out.wrs.rds USE.out.rds).mono ?_
  rintro e wf ⟨rfl, hb⟩
  have HBf := Lib.hid (HBE.out.trans (hb.mono HBE.out.size))
  have Xf := Lib.hid (lri.keptB XE.out hb)
  have Yf := Lib.hid (lri.keptB YE.out hb)
  have Vf := Lib.hid (lri.keptB VE.out hb)
  have Gf := Lib.hid (lri.keptB GE.out hb)
  have USf := Lib.hid (USE.out.below hb)
  have UXf := Lib.hid (UXE.out.below hb)
  have UGf := Lib.hid (UGE.out.below hb)
  clear hb XE YE VE GE USE UXE UGE HBE Xe Ye Ve USe UXe UGe HBe
  obtain ⟨p0, p1, p2, p3, p4, p5, p6, pz⟩ := lth.seven Xf.out
  obtain ⟨q0, q1, q2, q3, q4, q5, q6, qz⟩ := lth.seven Vf.out
  go_wp2_with fail
  have KD := Lib.hid ((rdr.Still.drewN wf 1).below wf.heap.size)
  have HD := Lib.hid (HBf.out.trans (KD.out.mono HBf.out.size))
  have RD := Lib.hid (UXf.out.below KD.out)
  go_region_with (first | (go_at_call 46; refine (TL.out _ HD.out HS.out).mono ?_; rintro e wg ⟨u7, rfl, hb7, hw7⟩; obtain ⟨a7, c7, rfl⟩ := lth.rds_form hw7.rds; have RW := Lib.hid hw7.rds; have RZ := Lib.hid (RD.out.below hb7).wrs.rds; have KG := Lib.hid (KD.out.trans (hb7.mono (Nat.le_refl _))); have P7 := lri.keptB (W := wf.drew) Vf.out hb7; obtain ⟨s0, s1, s2, s3, s4, s5, s6, sz⟩ := lth.seven P7; clear P7 hb7 hw7) | (go_at_call 49; refine (EQ.out _ _ _ HS.out RZ.out RW.out).mono ?_; rintro e wh ⟨rfl, hb8⟩; have KH := Lib.hid (KG.out.trans (hb8.mono KG.out.size)); clear hb8))
  all_goals
    clear p0 p1 p2 p3 p4 p5 p6 pz q0 q1 q2 q3 q4 q5 q6 qz s0 s1 s2 s3 s4 s5 s6 sz
    have HBh := Lib.hid (HBf.out.trans (KH.out.mono HBf.out.size))
    have Xh := Lib.hid (lri.keptB Xf.out KH.out)
    have Yh := Lib.hid (lri.keptB Yf.out KH.out)
    have Vh := Lib.hid (lri.keptB Vf.out KH.out)
    have Gh := Lib.hid (lri.keptB Gf.out KH.out)
    have USh := Lib.hid (USf.out.below KH.out)
    have UXh := Lib.hid (UXf.out.below KH.out)
    have UGh := Lib.hid (UGf.out.below KH.out)
    clear HBf Xf Yf Vf Gf USf UXf UGf KH KG KD HD RD RW RZ
    obtain ⟨q0, q1, q2, q3, q4, q5, q6, qz⟩ := lth.seven Vh.out
    go_wp2_with fail
    refine (MKL.out _ _ _ HS.out UXh.out.wrs).mono ?_
    rintro e wi ⟨rfl, hm, _⟩
    have HBi := Lib.hid (mrd.Marked.low HBh.out hm HBh.out.size UXh.out.blk (by first | (simp; done) | (simp; omega)))
    have Xi := Lib.hid (lto.keptM Xh.out hm (fun hne e => by have := UXh.out.blk hne _ e; first | omega | (simp at this; done) | (simp at this; omega)))
    have Yi := Lib.hid (lto.keptM Yh.out hm (fun hne e => by have := UXh.out.blk hne _ e; first | omega | (simp at this; done) | (simp at this; omega)))
    have Gi := Lib.hid (lto.keptM Gh.out hm (fun hne e => by have := UXh.out.blk hne _ e; first | omega | (simp at this; done) | (simp at this; omega)))
    have USi := Lib.hid (USh.out.apart hm UXh.out.blk (by simp))
    have UGi := Lib.hid (UGh.out.apart hm UXh.out.blk (by first | (simp; done) | (simp; omega)))
    clear hm q0 q1 q2 q3 q4 q5 q6 qz HBh Xh Yh Vh Gh USh UXh UGh
    obtain ⟨m2, hm2e⟩ : ∃ m, m = 1 + ps.length := ⟨_, rfl⟩
    rw [← hm2e]
    have d3 : decide ((m2 : Int) < 0) = false := by simp
    clear hm2e
    obtain ⟨q0, q1, q2, q3, q4, q5, q6, q7, qz, qf⟩ := sgv.eight Yi.out
    obtain ⟨r0, r1, r2, r3, r4, r5, r6, r7, rz, rf⟩ := sgv.eight Gi.out
    go_wp2_with fail
    refine (EO.out _ _ _ HS.out UGi.out.wrs.rds USi.out.rds).mono ?_
    rintro e wj ⟨rfl, hb⟩
    have HBj := Lib.hid (HBi.out.trans (hb.mono HBi.out.size))
    have Xj := Lib.hid (lri.keptB Xi.out hb)
    have Yj := Lib.hid (lri.keptB Yi.out hb)
    have Gj := Lib.hid (lri.keptB Gi.out hb)
    have USj := Lib.hid (USi.out.below hb)
    have UGj := Lib.hid (UGi.out.below hb)
    clear hb q0 q1 q2 q3 q4 q5 q6 q7 qz qf r0 r1 r2 r3 r4 r5 r6 r7 rz rf HBi Xi Yi Gi USi UGi
    obtain ⟨r0, r1, r2, r3, r4, r5, r6, r7, rz, rf⟩ := sgv.eight Gj.out
    go_wp2_with fail
    refine (MKO.out _ _ _ HS.out UGj.out.wrs).mono ?_
    rintro e wk ⟨rfl, hm, hk⟩
    have HBk := Lib.hid (mrd.Marked.low HBj.out hm HBj.out.size UGj.out.blk (by first | (simp; done) | (simp; omega)))
    have Xk := Lib.hid (lto.keptM Xj.out hm (fun hne e => by have := UGj.out.blk hne _ e; first | omega | (simp at this; done) | (simp at this; omega)))
    have Yk := Lib.hid (lto.keptM Yj.out hm (fun hne e => by have := UGj.out.blk hne _ e; first | omega | (simp at this; done) | (simp at this; omega)))
    have Gk := Lib.hid (lto.keptM Gj.out hm (fun hne e => by have := UGj.out.blk hne _ e; first | omega | (simp at this; done) | (simp at this; omega)))
    have USk := Lib.hid (USj.out.apart hm UGj.out.blk (by first | (simp; done) | (simp; omega)))
    have Kk := Lib.hid hk
    clear hm hk r0 r1 r2 r3 r4 r5 r6 r7 rz rf HBj Xj Yj Gj USj UGj
    obtain ⟨m3, hm3e⟩ : ∃ m, m = 1 + ps'.length := ⟨_, rfl⟩
    have HDP := HDO.out
    simp only [← hm3e] at HDP
    rw [← hm3e]
    have HD3 := Lib.hid HDP
    have d4 : decide ((m3 : Int) < 0) = false := by simp
    have d5 : ((m3 : Int) != (m3 : Int)) = false := by simp
    have d6 : ((m3 : Int) == (m3 : Int)) = true := by simp
    clear hm3e HDP
    obtain ⟨r0, r1, r2, r3, r4, r5, r6, r7, rz, rf⟩ := sgv.eight Gk.out
    go_wp2_with fail
    refine (HD3.out _ _ HS.out Kk.out).mono ?_
    rintro e wl ⟨rfl, hb⟩
    have HBl := Lib.hid (HBk.out.trans (hb.mono HBk.out.size))
    have Xl := Lib.hid (lri.keptB Xk.out hb)
    have Yl := Lib.hid (lri.keptB Yk.out hb)
    have Gl := Lib.hid (lri.keptB Gk.out hb)
    have USl := Lib.hid (USk.out.below hb)
    have Kl := Lib.hid (Rds.below Kk.out hb)
    clear hb r0 r1 r2 r3 r4 r5 r6 r7 rz rf HBk Xk Yk Gk USk Kk
    obtain ⟨p0, p1, p2, p3, p4, p5, p6, pz⟩ := lth.seven Xl.out
    go_wp2_with fail
    refine (TL.out _ HBl.out HS.out).mono ?_
    rintro e wm ⟨u8, rfl, hb, hw⟩
    obtain ⟨a8, c8, rfl⟩ := lth.rds_form hw.rds
    have HBm := Lib.hid (HBl.out.trans (hb.mono HBl.out.size))
    have Ym := Lib.hid (lri.keptB Yl.out hb)
    have Gm := Lib.hid (lri.keptB Gl.out hb)
    have USm := Lib.hid (USl.out.below hb)
    have Km := Lib.hid (Rds.below Kl.out hb)
    have R8 := Lib.hid hw.rds
    clear hb hw p0 p1 p2 p3 p4 p5 p6 pz HBl Xl Yl Gl USl Kl
    go_wp2_with fail
    refine (RI.out _ _ HS.out R8.out).mono ?_
    rintro e wn ⟨uh, rfl, hb, hw⟩
    obtain ⟨ah, ch, rfl⟩ := lth.rds_form hw.rds
    have HBn := Lib.hid (HBm.out.trans (hb.mono HBm.out.size))
    have Yn := Lib.hid (lri.keptB Ym.out hb)
    have Gn := Lib.hid (lri.keptB Gm.out hb)
    have USn := Lib.hid (USm.out.below hb)
    have Kn := Lib.hid (Rds.below Km.out hb)
    have R9 := Lib.hid hw.rds
    clear hb hw HBm Ym Gm USm Km R8
    obtain ⟨q0, q1, q2, q3, q4, q5, q6, q7, qz, qf⟩ := sgv.eight Yn.out
    go_wp2_with fail
    have kn := lth.new1 wn (.cells #[.int .i64 k', .int .i64 f', .int .i64 t', .int .i64 c', .slice ah ps'.length ch, .string ⟨a'.toArray⟩, .string ⟨b'.toArray⟩, .int .i64 cc] 55)
    refine (EO.out _ _ _ HS.out (Rds.below R9.out kn) (USn.out.below kn).rds).mono ?_
    rintro e wo ⟨rfl, hb⟩
    have HBo := Lib.hid ((HBn.out.trans (kn.mono HBn.out.size)).trans (hb.mono (by have := HBn.out.size; simp; omega)))
    have Gq := Lib.hid (lri.keptB (lri.keptB Gn.out kn) hb)
    have Ko := Lib.hid (Rds.below (Rds.below Kn.out kn) hb)
    clear hb kn q0 q1 q2 q3 q4 q5 q6 q7 qz qf HBn Yn Gn USn Kn R9
    obtain ⟨r0, r1, r2, r3, r4, r5, r6, r7, rz, rf⟩ := sgv.eight Gq.out
    go_wp2_with fail
    refine (HD3.out _ _ HS.out Ko.out).mono ?_
    rintro e wp ⟨rfl, hb⟩
    have HBp := Lib.hid (HBo.out.trans (hb.mono HBo.out.size))
    clear hb
    go_wp2_with fail
    go_ret
    exact ⟨rfl, HBp.out⟩

set_option maxRecDepth 100000 in
theorem lifted (os : Os) (started : os.Started) (H : Type) (enc : TypeId × Value → H) :
    ReturnsInHanded {} Tryz.checked os 6 .any (Rows.fnExactSignTwiceSpec.pre6 enc Tryz.prog Tryz.f6 Rows.fnExactSignTwiceRow.domain false) (Rows.fnExactSignTwiceSpec.post enc Tryz.prog Tryz.f6 false true false false) := by
  refine returnsInHanded_of_change (C := Tryz.checked) frm.own started (by kernel_rfl) Tryz.func6
    (ChangeSpec.witness6 (enc := enc) (C := Tryz.checked) false ⟨#[], #[.agg #[.int .i64 0, .int .i64 0, .int .i64 0, .int .i64 0, .slice none 0 0, .string ByteArray.empty, .string ByteArray.empty], .string ByteArray.empty], []⟩ 8 (by kernel_rfl) (by kernel_rfl) (by kernel_rfl) (by kernel_rfl)) ?_
  intro W base args ds gs before hval0 hW hcnd _
  have hval : ∀ (j : Nat) t v, Tryz.f6.params[j]? = some t → args[j]? = some v → Value.okWide Tryz.prog W .any base t v := hval0
  have hW' := hW
  obtain ⟨p, q, hA0, hV, rfl, hfz, hnd⟩ := hW
  have hlt : ∀ x ∈ p, x.block < W.heap.size := fun x hx => hW'.lt x (by simp [hx])
  have hA : DataW.TrodAll enc Tryz.prog W 0 (fun _ => true) true Tryz.f6.params.toList args.toList ds p := hA0
  rw [Tryz.params6] at hA hval
  obtain ⟨v0, vs0, d0, ds0, p0, q0, hargs, rfl, rfl, g0, r0⟩ := trodAll_cons hA
  obtain ⟨v1, vs1, d1, ds1, p1, q1, rfl, rfl, rfl, g1, r1⟩ := trodAll_cons r0
  obtain ⟨rfl, rfl, rfl⟩ := trodAll_nil r1
  obtain rfl : args = #[v0, v1] := by cases args; simp_all
  obtain ⟨rfl, rfl⟩ := trodVars_none hV
  obtain ⟨m0, sv0, rfl, hl0⟩ := fml.open_letter (hval 0 51 v0 rfl rfl) g0
  obtain ⟨a1, rfl, rfl, rfl, w1⟩ := open_string Tryz.underlying9 (hval 1 9 v1 rfl rfl) g1
  clear hA0 hval0
  refine (walk W m0 sv0 hl0 a1 w1).mono fun e W' ⟨he, hg⟩ => ?_
  subst he
  exact ⟨_, rfl, _, _, _, [], _, [], hW', (trodAll_cons_mk (shut_bool Tryz.underlying4 _) trodAll_mk0), (trodAll_cons_mk (Below.trod frm.laidOut (by kernel_rfl) (of_decide_eq_true (by kernel_rfl)) g0 hg (fun x hx => hlt x (by simp [hx]))) (trodAll_cons_mk (shut_string Tryz.underlying9 w1) trodAll_mk0)), rfl, hg.frame _, fun h => by cases h⟩

set_option maxRecDepth 100000 in
theorem over : Rows.fnExactSignTwiceRow.holds Tryz.pinned (OpenSpec.ofChange Rows.fnExactSignTwiceSpec) :=
  OpenClaim.holds_of_wide 6 Tryz.f6 rfl rfl rfl rfl rfl rfl rfl ⟨rfl, rfl, rfl, rfl, rfl⟩ rfl rfl rfl rfl rfl (by kernel_rfl) Tryz.func6 (by kernel_rfl)
    (of_decide_eq_true (by kernel_rfl)) (by unfold Func.isWrapper; first | (rw [if_pos (by decide +kernel)]; kernel_rfl) | (rw [if_neg (by decide +kernel)]; exact ⟨rfl, rfl⟩))
    (fun os started H enc _ => lifted os started H enc)

theorem proved : Rows.FnExactSignTwiceSaid :=
  over

end Go.Proofs.YtnlinlodgpbnlaaGreat.fnExactSignTwice
