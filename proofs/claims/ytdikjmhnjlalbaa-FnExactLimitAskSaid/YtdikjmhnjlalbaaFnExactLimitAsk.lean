/- LimitAsk of the program answers as LimitAsk of the model, every field, for every limit, every text and every number; it writes nothing into its argument, and its row is its own; no condition. -/
import Derived.Test.YtdikjmhnjlalbaaRows
import Derived.Test.YtdikjmhnjlalbaaFrm
import Derived.Test.YtdikjmhnjlalbaaFmm
import Derived.WalkKit
import Derived.Test.YtdikjmhnjlalbaaGia
import Derived.Test.YtdikjmhnjlalbaaGsk
import Derived.Test.YtdikjmhnjlalbaaBlo
import Derived.RegionTactic
import Derived.BigRegion
import Derived.Deep.RegionWith
namespace Go.Proofs.Ytdikjmhnjlalbaa.fnExactLimitAsk
open Go.ChangeShapes Go.WideShapes Go.ChangeAt Go.RowKit
open Go.ChangeMaps (open_string shut_string)
open Go.Proofs.Ytdikjmhnjlalbaa.tm Go.Proofs.Ytdikjmhnjlalbaa.bld Go.Proofs.Ytdikjmhnjlalbaa.mrk Go.Proofs.Ytdikjmhnjlalbaa.frm
set_option linter.unusedVariables false

set_option maxHeartbeats 8000000 in
set_option maxRecDepth 100000 in
theorem walk (w : World) (rate0 burst0 : Int) (sv0 : Value) (bs0 : List gdp.Bk) (h0 : fmg.LmIn w rate0 burst0 sv0 bs0) (a1 : ByteArray) (w1 : a1.size ≤ maxLen) (n2 : Int) (w2 : (Lit.int .i64 n2).wf = true) :
    Calls Try.prog 5 #[.agg (rbk.lmA rate0 burst0 sv0), .string a1, .int .i64 n2] w fun e w' => e = .returned (.bool true) ∧ Below w.heap.size w w' := by
  have hs1 := w1
  unfold maxLen at hs1
  obtain ⟨nb1, nb2⟩ := fmg.bounds w2
  by_cases hbig : 1048576 < a1.size
  · have d0 : decide ((1048576 : Int) < a1.size) = true := decide_eq_true (by omega)
    obtain ⟨ad, cap, hsv⟩ := h0.rbk.form
    rw [hsv]
    clear h0
    unfold rbk.lmA
    go_enter Try.func5, Try.ntmps5
    go_wp2_with fail
    go_ret
    exact ⟨rfl, glh.new1 _ _⟩
  have d9 : decide ((1048576 : Int) < a1.size) = false := decide_eq_false (by omega)
  have hlk : a1.data.toList.length ≤ 4000000 := by show a1.size ≤ 4000000; omega
  have hbw := fun w' (k : Below w.heap.size w w') => h0.below k
  have sz := fun w' k => blh.szLimit_calls rate0 burst0 sv0 bs0 w' (hbw w' k)
  have SZ := Lib.hid sz
  have tl := fun w' k (hs : gic.Small bs0) => blo.toLimit_calls rate0 burst0 sv0 bs0 w' (h0.rbk.below k) (by have := hs.len; omega)
  have tlf := fun w' k (hs : gic.Small bs0) => gsa.toLimit_own rate0 burst0 sv0 bs0 w' (h0.rbk.below k) (by have := hs.len; omega)
  have rs := fun (w' : World) u (hs : gic.Small bs0) h => gsa.specAsk_calls rate0 burst0 n2 u bs0 a1.data.toList w' h (by have := hs.len; omega) (fun b hb => by have := hs.each b hb; omega) hlk
  have ri := fun (w' : World) u (hs : gic.Small bs0) h => gia.implAsk_calls rate0 burst0 n2 u bs0 a1.data.toList w' h (by have := hs.len; omega) (fun b hb => by have := hs.each b hb; omega) hlk
  have eq := fun (w' : World) u v (hs : gic.Small bs0) h k => blo.eqLimit_calls rate0 burst0 u v bs0 w' h k (by have := hs.len; omega)
  have hle : (gap.asR rate0 burst0 bs0 a1.data.toList n2).2.2.1.length ≤ bs0.length + 1 := gap.asR_le rate0 burst0 bs0 a1.data.toList n2
  obtain ⟨rate', hrate⟩ : ∃ c, c = (gap.asR rate0 burst0 bs0 a1.data.toList n2).1 := ⟨_, rfl⟩
  obtain ⟨burst', hburst⟩ : ∃ c, c = (gap.asR rate0 burst0 bs0 a1.data.toList n2).2.1 := ⟨_, rfl⟩
  obtain ⟨R, hR⟩ : ∃ c, c = (gap.asR rate0 burst0 bs0 a1.data.toList n2).2.2.1 := ⟨_, rfl⟩
  obtain ⟨yy, hyy⟩ : ∃ y, y = (gap.asR rate0 burst0 bs0 a1.data.toList n2).2.2.2.1 := ⟨_, rfl⟩
  obtain ⟨cc, hcc⟩ : ∃ c, c = (gap.asR rate0 burst0 bs0 a1.data.toList n2).2.2.2.2 := ⟨_, rfl⟩
  simp only [← hrate, ← hburst, ← hR, ← hcc, ← hyy] at rs ri hle
  change ∀ (w' : World) u (hs : gic.Small bs0) h, Calls _ _ #[_, .string a1, _] w' _ at rs
  change ∀ (w' : World) u (hs : gic.Small bs0) h, Calls _ _ #[_, .string a1, _] w' _ at ri
  have eo := fun (w' : World) u v (hs : gic.Small bs0) h k => blo.eqLo_calls rate' burst' yy cc u v R w' h k (by have := hs.len; omega)
  have mkl := fun (w' : World) B u (hs : gic.Small bs0) h => blo.markLimit_calls rate0 burst0 u bs0 B w' h (by have := hs.len; omega)
  have mko := fun (w' : World) B u (hs : gic.Small bs0) h => blo.markLo_calls rate' burst' u yy cc R B w' h (by have := hs.len; omega)
  have hdo := fun (w' : World) u (hs : gic.Small bs0) h => blo.heldLo_calls rate' burst' u yy cc R.length w' h (by have := hs.len; omega)
  obtain ⟨ad, cap, hsv⟩ := h0.rbk.form
  rw [hsv] at SZ tl tlf ⊢
  have TL := Lib.hid tl
  have TLF := Lib.hid tlf
  have RS := Lib.hid rs
  have RI := Lib.hid ri
  have EQ := Lib.hid eq
  have EO := Lib.hid eo
  have MKL := Lib.hid mkl
  have MKO := Lib.hid mko
  have HDO := Lib.hid hdo
  unfold rbk.lmA at SZ TL TLF RS RI EQ MKL ⊢
  unfold blo.loA at RS RI EO MKO HDO
  obtain ⟨n, hn⟩ : ∃ n, n = bs0.length := ⟨_, rfl⟩
  rw [← hn] at SZ TL TLF ⊢
  have HN := Lib.hid hn
  clear hlk hs1 hbig h0 hbw sz tl tlf rs ri eq eo mkl mko hdo hsv hn hrate hburst hR hyy hcc hle
  go_enter Try.func5, Try.ntmps5
  go_wp2_with fail
  refine (SZ.out _ (glh.new1 _ _)).mono ?_
  rintro e wa ⟨hb, rfl | ⟨L, hL9, rfl, hs8, hs9⟩⟩
  · have HB := Lib.hid ((glh.new1 _ _).trans (hb.mono (by simp)))
    clear hb
    go_wp2_with fail
    go_ret
    exact ⟨rfl, HB.out⟩
  have HS := Lib.hid (gic.Small.mk hs8 hs9)
  have Xa := Lib.hid (glh.keptB (heap_alloc_new w _) hb)
  have HBa := Lib.hid ((glh.new1 _ _).trans (hb.mono (by simp)))
  clear hb hs8 hs9 hL9
  obtain ⟨p0, p1, p2, pz⟩ := glh.three Xa.out
  have za : w.heap.size < wa.heap.size := pz
  have d0 : decide ((L : Int) < 0) = false := by simp
  go_wp2_with fail
  refine (TLF.out _ HBa.out HS.out).mono ?_
  rintro e wb ⟨u2, rfl, hb, hw, hf⟩
  obtain ⟨a2, c2, rfl⟩ := hw.rbk.form
  have HBb := Lib.hid (HBa.out.trans (hb.mono HBa.out.size))
  have Xb := Lib.hid (glh.keptB Xa.out hb)
  have R2 := Lib.hid hf
  have zb := hb.size
  clear hb hw hf p0 p1 p2 pz
  go_wp2_with fail
  refine (RS.out _ _ HS.out R2.out).mono ?_
  rintro e wc ⟨us, rfl, hb, hw⟩
  obtain ⟨az, cz, rfl⟩ := hw.rbk.form
  have HBc := Lib.hid (HBb.out.trans (hb.mono HBb.out.size))
  have Xc := Lib.hid (glh.keptB Xb.out hb)
  have USc := Lib.hid (blo.Qw.of hw).rb
  have zc := hb.size
  clear hb hw R2 Xb HBb HBa Xa
  obtain ⟨p0, p1, p2, pz⟩ := glh.three Xc.out
  go_wp2_with fail
  have kc := glh.new1 wc (.cells #[.int .i64 rate', .int .i64 burst', .slice az R.length cz, .bool yy, .int .i64 cc] 41)
  have XC := Lib.hid (glh.keptB Xc.out kc)
  have YC := Lib.hid (heap_alloc_new wc (.cells #[.int .i64 rate', .int .i64 burst', .slice az R.length cz, .bool yy, .int .i64 cc] 41))
  have USC := Lib.hid (USc.out.below kc)
  have HBC := Lib.hid (HBc.out.trans (kc.mono HBc.out.size))
  clear kc
  refine (TL.out _ HBC.out HS.out).mono ?_
  rintro e wd ⟨u4, rfl, hb, hw⟩
  obtain ⟨a4, c4, rfl⟩ := hw.rbk.form
  have HBd := Lib.hid (HBC.out.trans (hb.mono HBC.out.size))
  have Xd := Lib.hid (glh.keptB XC.out hb)
  have Yd := Lib.hid (glh.keptB YC.out hb)
  have USd := Lib.hid (USC.out.below hb)
  have UXd := Lib.hid (blo.Qw.of hw)
  have zd := hb.size
  rw [World.size_alloc] at zd
  clear hb hw XC YC USC HBC p0 p1 p2 pz Xc USc HBc
  obtain ⟨p0, p1, p2, pz⟩ := glh.three Xd.out
  go_wp2_with fail
  have kd := glh.new1 wd (.cells #[.int .i64 rate0, .int .i64 burst0, .slice a4 bs0.length c4] 36)
  have XD := Lib.hid (glh.keptB Xd.out kd)
  have YD := Lib.hid (glh.keptB Yd.out kd)
  have VD := Lib.hid (heap_alloc_new wd (.cells #[.int .i64 rate0, .int .i64 burst0, .slice a4 bs0.length c4] 36))
  have USD := Lib.hid (USd.out.below kd)
  have UXD := Lib.hid (UXd.out.below kd)
  have HBD := Lib.hid (HBd.out.trans (kd.mono HBd.out.size))
  clear kd
  refine (RI.out _ _ HS.out UXD.out.wbk.rbk).mono ?_
  rintro e we ⟨ui, rfl, hb, hw⟩
  obtain ⟨ai, ci, rfl⟩ := hw.rbk.form
  have HBe := Lib.hid (HBD.out.trans (hb.mono HBD.out.size))
  have Xe := Lib.hid (glh.keptB XD.out hb)
  have Ye := Lib.hid (glh.keptB YD.out hb)
  have Ve := Lib.hid (glh.keptB VD.out hb)
  have USe := Lib.hid (USD.out.below hb)
  have UXe := Lib.hid (UXD.out.below hb)
  have UGe := Lib.hid (blo.Qw.of hw)
  have ze := hb.size
  rw [World.size_alloc] at ze
  clear hb hw XD YD VD USD UXD HBD p0 p1 p2 pz Xd Yd USd UXd HBd
  obtain ⟨q0, q1, q2, q3, q4, qz, qf⟩ := blo.five Ye.out
  go_wp2_with fail
  have ke := glh.new1 we (.cells #[.int .i64 rate', .int .i64 burst', .slice ai R.length ci, .bool yy, .int .i64 cc] 41)
  have XE := Lib.hid (glh.keptB Xe.out ke)
  have YE := Lib.hid (glh.keptB Ye.out ke)
  have VE := Lib.hid (glh.keptB Ve.out ke)
  have GE := Lib.hid (heap_alloc_new we (.cells #[.int .i64 rate', .int .i64 burst', .slice ai R.length ci, .bool yy, .int .i64 cc] 41))
  have USE := Lib.hid (USe.out.below ke)
  have UXE := Lib.hid (UXe.out.below ke)
  have UGE := Lib.hid (UGe.out.below ke)
  have HBE := Lib.hid (HBe.out.trans (ke.mono HBe.out.size))
  clear ke q0 q1 q2 q3 q4 qz qf
  refine (EO.out _ _ _ HS.out UGE.out.wbk.rbk USE.out.rbk).mono ?_
  rintro e wf ⟨rfl, hb⟩
  have HBf := Lib.hid (HBE.out.trans (hb.mono HBE.out.size))
  have Xf := Lib.hid (glh.keptB XE.out hb)
  have Yf := Lib.hid (glh.keptB YE.out hb)
  have Vf := Lib.hid (glh.keptB VE.out hb)
  have Gf := Lib.hid (glh.keptB GE.out hb)
  have USf := Lib.hid (USE.out.below hb)
  have UXf := Lib.hid (UXE.out.below hb)
  have UGf := Lib.hid (UGE.out.below hb)
  clear hb XE YE VE GE USE UXE UGE HBE Xe Ye Ve USe UXe UGe HBe
  obtain ⟨p0, p1, p2, pz⟩ := glh.three Xf.out
  obtain ⟨q0, q1, q2, qz⟩ := glh.three Vf.out
  go_wp2_with fail
  have KD := Lib.hid ((rdr.Still.drewN wf 1).below wf.heap.size)
  have HD := Lib.hid (HBf.out.trans (KD.out.mono HBf.out.size))
  have RD := Lib.hid (UXf.out.below KD.out)
  go_region_with (first | (go_at_call 16; refine (TL.out _ HD.out HS.out).mono ?_; rintro e wg ⟨u7, rfl, hb7, hw7⟩; obtain ⟨a7, c7, rfl⟩ := hw7.rbk.form; have RW := Lib.hid hw7.rbk; have RZ := Lib.hid (RD.out.below hb7).wbk.rbk; have KG := Lib.hid (KD.out.trans (hb7.mono (Nat.le_refl _))); have P7 := glh.keptB (W := wf.drew) Vf.out hb7; obtain ⟨s0, s1, s2, sz⟩ := glh.three P7; clear P7 hb7 hw7) | (go_at_call 18; refine (EQ.out _ _ _ HS.out RZ.out RW.out).mono ?_; rintro e wh ⟨rfl, hb8⟩; have KH := Lib.hid (KG.out.trans (hb8.mono KG.out.size)); clear hb8))
  all_goals
    clear p0 p1 p2 pz q0 q1 q2 qz s0 s1 s2 sz
    have HBh := Lib.hid (HBf.out.trans (KH.out.mono HBf.out.size))
    have Xh := Lib.hid (glh.keptB Xf.out KH.out)
    have Yh := Lib.hid (glh.keptB Yf.out KH.out)
    have Vh := Lib.hid (glh.keptB Vf.out KH.out)
    have Gh := Lib.hid (glh.keptB Gf.out KH.out)
    have USh := Lib.hid (USf.out.below KH.out)
    have UXh := Lib.hid (UXf.out.below KH.out)
    have UGh := Lib.hid (UGf.out.below KH.out)
    clear HBf Xf Yf Vf Gf USf UXf UGf KH KG KD HD RD RW RZ
    obtain ⟨q0, q1, q2, qz⟩ := glh.three Vh.out
    go_wp2_with fail
    refine (MKL.out _ _ _ HS.out UXh.out.wbk).mono ?_
    rintro e wi ⟨rfl, hm, _⟩
    have HBi := Lib.hid (blo.MarkedB.low HBh.out hm HBh.out.size UXh.out.blk (by first | (simp; done) | (simp; omega)))
    have Xi := Lib.hid (blo.keptMB Xh.out hm (fun hne e => by have := UXh.out.blk hne _ e; first | omega | (simp at this; done) | (simp at this; omega)))
    have Yi := Lib.hid (blo.keptMB Yh.out hm (fun hne e => by have := UXh.out.blk hne _ e; first | omega | (simp at this; done) | (simp at this; omega)))
    have Gi := Lib.hid (blo.keptMB Gh.out hm (fun hne e => by have := UXh.out.blk hne _ e; first | omega | (simp at this; done) | (simp at this; omega)))
    have USi := Lib.hid (USh.out.apart hm UXh.out.blk (by simp))
    have UGi := Lib.hid (UGh.out.apart hm UXh.out.blk (by first | (simp; done) | (simp; omega)))
    clear hm q0 q1 q2 qz HBh Xh Yh Vh Gh USh UXh UGh
    obtain ⟨m2, hm2e⟩ : ∃ m, m = 1 + bs0.length * 3 := ⟨_, rfl⟩
    rw [← hm2e]
    have d3 : decide ((m2 : Int) < 0) = false := by simp
    clear hm2e
    obtain ⟨q0, q1, q2, q3, q4, qz, qf⟩ := blo.five Yi.out
    obtain ⟨r0, r1, r2, r3, r4, rz, rf⟩ := blo.five Gi.out
    go_wp2_with fail
    refine (EO.out _ _ _ HS.out UGi.out.wbk.rbk USi.out.rbk).mono ?_
    rintro e wj ⟨rfl, hb⟩
    have HBj := Lib.hid (HBi.out.trans (hb.mono HBi.out.size))
    have Xj := Lib.hid (glh.keptB Xi.out hb)
    have Yj := Lib.hid (glh.keptB Yi.out hb)
    have Gj := Lib.hid (glh.keptB Gi.out hb)
    have USj := Lib.hid (USi.out.below hb)
    have UGj := Lib.hid (UGi.out.below hb)
    clear hb q0 q1 q2 q3 q4 qz qf r0 r1 r2 r3 r4 rz rf HBi Xi Yi Gi USi UGi
    obtain ⟨r0, r1, r2, r3, r4, rz, rf⟩ := blo.five Gj.out
    go_wp2_with fail
    refine (MKO.out _ _ _ HS.out UGj.out.wbk).mono ?_
    rintro e wk ⟨rfl, hm, hk⟩
    have HBk := Lib.hid (blo.MarkedB.low HBj.out hm HBj.out.size UGj.out.blk (by first | (simp; done) | (simp; omega)))
    have Xk := Lib.hid (blo.keptMB Xj.out hm (fun hne e => by have := UGj.out.blk hne _ e; first | omega | (simp at this; done) | (simp at this; omega)))
    have Yk := Lib.hid (blo.keptMB Yj.out hm (fun hne e => by have := UGj.out.blk hne _ e; first | omega | (simp at this; done) | (simp at this; omega)))
    have Gk := Lib.hid (blo.keptMB Gj.out hm (fun hne e => by have := UGj.out.blk hne _ e; first | omega | (simp at this; done) | (simp at this; omega)))
    have USk := Lib.hid (USj.out.apart hm UGj.out.blk (by first | (simp; done) | (simp; omega)))
    have Kk := Lib.hid hk
    clear hm hk r0 r1 r2 r3 r4 rz rf HBj Xj Yj Gj USj UGj
    obtain ⟨m3, hm3e⟩ : ∃ m, m = 1 + R.length * 3 := ⟨_, rfl⟩
    have HDP := HDO.out
    simp only [← hm3e] at HDP
    rw [← hm3e]
    have HD3 := Lib.hid HDP
    have d4 : decide ((m3 : Int) < 0) = false := by simp
    have d5 : ((m3 : Int) != (m3 : Int)) = false := by simp
    have d6 : ((m3 : Int) == (m3 : Int)) = true := by simp
    clear hm3e HDP
    obtain ⟨r0, r1, r2, r3, r4, rz, rf⟩ := blo.five Gk.out
    go_wp2_with fail
    refine (HD3.out _ _ HS.out Kk.out).mono ?_
    rintro e wl ⟨rfl, hb⟩
    have HBl := Lib.hid (HBk.out.trans (hb.mono HBk.out.size))
    have Xl := Lib.hid (glh.keptB Xk.out hb)
    have Yl := Lib.hid (glh.keptB Yk.out hb)
    have Gl := Lib.hid (glh.keptB Gk.out hb)
    have USl := Lib.hid (USk.out.below hb)
    have Kl := Lib.hid (Kk.out.below hb)
    clear hb r0 r1 r2 r3 r4 rz rf HBk Xk Yk Gk USk Kk
    obtain ⟨p0, p1, p2, pz⟩ := glh.three Xl.out
    go_wp2_with fail
    refine (TL.out _ HBl.out HS.out).mono ?_
    rintro e wm ⟨u8, rfl, hb, hw⟩
    obtain ⟨a8, c8, rfl⟩ := hw.rbk.form
    have HBm := Lib.hid (HBl.out.trans (hb.mono HBl.out.size))
    have Ym := Lib.hid (glh.keptB Yl.out hb)
    have Gm := Lib.hid (glh.keptB Gl.out hb)
    have USm := Lib.hid (USl.out.below hb)
    have Km := Lib.hid (Kl.out.below hb)
    have R8 := Lib.hid hw.rbk
    clear hb hw p0 p1 p2 pz HBl Xl Yl Gl USl Kl
    go_wp2_with fail
    refine (RI.out _ _ HS.out R8.out).mono ?_
    rintro e wn ⟨uh, rfl, hb, hw⟩
    obtain ⟨ah, ch, rfl⟩ := hw.rbk.form
    have HBn := Lib.hid (HBm.out.trans (hb.mono HBm.out.size))
    have Yn := Lib.hid (glh.keptB Ym.out hb)
    have Gn := Lib.hid (glh.keptB Gm.out hb)
    have USn := Lib.hid (USm.out.below hb)
    have Kn := Lib.hid (Km.out.below hb)
    have R9 := Lib.hid hw.rbk
    clear hb hw HBm Ym Gm USm Km R8
    obtain ⟨q0, q1, q2, q3, q4, qz, qf⟩ := blo.five Yn.out
    go_wp2_with fail
    have kn := glh.new1 wn (.cells #[.int .i64 rate', .int .i64 burst', .slice ah R.length ch, .bool yy, .int .i64 cc] 41)
    refine (EO.out _ _ _ HS.out (R9.out.below kn) (USn.out.below kn).rbk).mono ?_
    rintro e wo ⟨rfl, hb⟩
    have HBo := Lib.hid ((HBn.out.trans (kn.mono HBn.out.size)).trans (hb.mono (by have := HBn.out.size; simp; omega)))
    have Gq := Lib.hid (glh.keptB (glh.keptB Gn.out kn) hb)
    have Ko := Lib.hid ((Kn.out.below kn).below hb)
    clear hb kn q0 q1 q2 q3 q4 qz qf HBn Yn Gn USn Kn R9
    obtain ⟨r0, r1, r2, r3, r4, rz, rf⟩ := blo.five Gq.out
    go_wp2_with fail
    refine (HD3.out _ _ HS.out Ko.out).mono ?_
    rintro e wp ⟨rfl, hb⟩
    have HBp := Lib.hid (HBo.out.trans (hb.mono HBo.out.size))
    clear hb
    go_wp2_with fail
    go_ret
    exact ⟨rfl, HBp.out⟩

set_option maxRecDepth 100000 in
theorem lifted (os : Os) (started : os.Started) (H : Type) (enc : TypeId × Value → H) :
    ReturnsInHanded {} Try.checked os 5 .any (Rows.fnExactLimitAskSpec.pre6 enc Try.prog Try.f5 Rows.fnExactLimitAskRow.domain false) (Rows.fnExactLimitAskSpec.post enc Try.prog Try.f5 false true false false) := by
  refine returnsInHanded_of_change (C := Try.checked) frm.own started (by kernel_rfl) Try.func5
    (ChangeSpec.witness6 (enc := enc) (C := Try.checked) false ⟨#[], #[.agg #[.int .i64 0, .int .i64 0, .slice none 0 0], .string ByteArray.empty, .int .i64 0], []⟩ 8 (by kernel_rfl) (by kernel_rfl) (by kernel_rfl) (by kernel_rfl)) ?_
  intro W base args ds gs before hval0 hW hcnd _
  have hval : ∀ (j : Nat) t v, Try.f5.params[j]? = some t → args[j]? = some v → Value.okWide Try.prog W .any base t v := hval0
  have hW' := hW
  obtain ⟨p, q, hA0, hV, rfl, hfz, hnd⟩ := hW
  have hlt : ∀ x ∈ p, x.block < W.heap.size := fun x hx => hW'.lt x (by simp [hx])
  have hA : DataW.TrodAll enc Try.prog W 0 (fun _ => true) true Try.f5.params.toList args.toList ds p := hA0
  rw [Try.params5] at hA hval
  obtain ⟨v0, vs0, d0, ds0, p0, q0, hargs, rfl, rfl, g0, r0⟩ := trodAll_cons hA
  obtain ⟨v1, vs1, d1, ds1, p1, q1, rfl, rfl, rfl, g1, r1⟩ := trodAll_cons r0
  obtain ⟨v2, vs2, d2, ds2, p2, q2, rfl, rfl, rfl, g2, r2⟩ := trodAll_cons r1
  obtain ⟨rfl, rfl, rfl⟩ := trodAll_nil r2
  obtain rfl : args = #[v0, v1, v2] := by cases args; simp_all
  obtain ⟨rfl, rfl⟩ := trodVars_none hV
  obtain ⟨rate0, burst0, sv0, bs0, rfl, h0⟩ := fmg.open_limit (hval 0 31 v0 rfl rfl) g0
  obtain ⟨a1, rfl, rfl, rfl, w1⟩ := open_string Try.underlying9 (hval 1 9 v1 rfl rfl) g1
  obtain ⟨n2, rfl, rfl, rfl, w2⟩ := open_int Try.underlying2 (hval 2 2 v2 rfl rfl) g2
  clear hA0 hval0
  refine (walk W rate0 burst0 sv0 bs0 h0 a1 w1 n2 w2).mono fun e W' ⟨he, hg⟩ => ?_
  subst he
  exact ⟨_, rfl, _, _, _, [], _, [], hW', (trodAll_cons_mk (shut_bool Try.underlying4 _) trodAll_mk0), (trodAll_cons_mk (Below.trod frm.laidOut (by kernel_rfl) (of_decide_eq_true (by kernel_rfl)) g0 hg (fun x hx => hlt x (by simp [hx]))) (trodAll_cons_mk (shut_string Try.underlying9 w1) (trodAll_cons_mk (Below.trod frm.laidOut (by kernel_rfl) (of_decide_eq_true (by kernel_rfl)) g2 hg (fun x hx => by cases hx)) trodAll_mk0))), rfl, hg.frame _, fun h => by cases h⟩

set_option maxRecDepth 100000 in
theorem over : Rows.fnExactLimitAskRow.holds Try.pinned (OpenSpec.ofChange Rows.fnExactLimitAskSpec) :=
  OpenClaim.holds_of_wide 5 Try.f5 rfl rfl rfl rfl rfl rfl rfl ⟨rfl, rfl, rfl, rfl, rfl⟩ rfl rfl rfl rfl rfl (by kernel_rfl) Try.func5 (by kernel_rfl)
    (of_decide_eq_true (by kernel_rfl)) (by unfold Func.isWrapper; first | (rw [if_pos (by decide +kernel)]; kernel_rfl) | (rw [if_neg (by decide +kernel)]; exact ⟨rfl, rfl⟩))
    (fun os started H enc _ => lifted os started H enc)

theorem proved : Rows.FnExactLimitAskSaid :=
  over

end Go.Proofs.Ytdikjmhnjlalbaa.fnExactLimitAsk
