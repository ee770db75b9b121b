/- Contract of LimitAsk of the model. Written by wip/gen_gsa.py. -/
import Derived.Test.YtdikjmhnjlalbaaGsc
import Derived.Test.YtdikjmhnjlalbaaGap
import Derived.Deep.DeepCutAuto
import Derived.Deep.CutBlock
import Derived.StillTailTactics
namespace Go.Proofs.Ytdikjmhnjlalbaa.gsa
open Go.RowKit Go.Sort Go.Maps Go.Proofs.Ytdikjmhnjlalbaa.tm Go.Proofs.Ytdikjmhnjlalbaa.lib Go.Proofs.Ytdikjmhnjlalbaa.rdr Go.Proofs.Ytdikjmhnjlalbaa.bld Go.Proofs.Ytdikjmhnjlalbaa.ltp Go.Proofs.Ytdikjmhnjlalbaa.ato Go.Proofs.Ytdikjmhnjlalbaa.gdp Go.Proofs.Ytdikjmhnjlalbaa.gdm Go.Proofs.Ytdikjmhnjlalbaa.rbk Go.Proofs.Ytdikjmhnjlalbaa.bkr Go.Proofs.Ytdikjmhnjlalbaa.glh Go.Proofs.Ytdikjmhnjlalbaa.gcl Go.Proofs.Ytdikjmhnjlalbaa.blo Go.Proofs.Ytdikjmhnjlalbaa.gic Go.Proofs.Ytdikjmhnjlalbaa.gap Go.Proofs.Ytdikjmhnjlalbaa.gsc
set_option linter.unusedVariables false

theorem setFive {w : World} {b : Nat} {a0 a1 a2 a3 a4 : Value} {t : TypeId} (h : w.heap[b]? = some (.cells #[a0, a1, a2, a3, a4] t (0, 0))) (v0 v1 v2 v3 v4 : Value) :
    (((((w.setCell ⟨b, 0, none⟩ v0).setCell ⟨b, 1, none⟩ v1).setCell ⟨b, 2, none⟩ v2).setCell ⟨b, 3, none⟩ v3).setCell ⟨b, 4, none⟩ v4).heap[b]? = some (.cells #[v0, v1, v2, v3, v4] t (0, 0)) := by
  have h0 := heap_setCell_same w b 0 _ _ v0 h
  have h1 := heap_setCell_same _ b 1 _ _ v1 h0
  have h2 := heap_setCell_same _ b 2 _ _ v2 h1
  have h3 := heap_setCell_same _ b 3 _ _ v3 h2
  exact heap_setCell_same _ b 4 _ _ v4 h3
theorem fiveOnly (w : World) (b : Nat) (v0 v1 v2 v3 v4 : Value) :
    Only b w (((((w.setCell ⟨b, 0, none⟩ v0).setCell ⟨b, 1, none⟩ v1).setCell ⟨b, 2, none⟩ v2).setCell ⟨b, 3, none⟩ v3).setCell ⟨b, 4, none⟩ v4) :=
  (((((Only.setCell 0 _).trans (Only.setCell 1 _)).trans (Only.setCell 2 _)).trans (Only.setCell 3 _)).trans (Only.setCell 4 _))

set_option maxHeartbeats 1000000 in
set_option maxRecDepth 100000 in
theorem l05Copy_calls (rate burst : Int) (g off n cap : Nat) (l : List Bk) (w : World) (hn : n = l.length) (hc : ∀ j b, l[j]? = some b → LiesB w g (off + j * 3) b) (hg : g < w.heap.size) (hn6 : n ≤ 1000) :
    Calls Try.prog 71 #[.agg (lmA rate burst (.slice (some ⟨g, off, none⟩) n cap))] w fun e w' => ∃ ua uc, e = .returned (.agg (lmA rate burst (.slice ua n uc))) ∧ Below w.heap.size w w' := by
  unfold lmA
  have HN := Lib.hid hn
  have Q := alloc2 w (.cells #[.int .i64 rate, .int .i64 burst, .slice (some ⟨g, off, none⟩) n cap] 36) (.cells #[.int .i64 0, .int .i64 0, .slice none 0 0] 36)
  have kW := ((new1 w (.cells #[.int .i64 rate, .int .i64 burst, .slice (some ⟨g, off, none⟩) n cap] 36)).alloc (by simp) (.cells #[.int .i64 0, .int .i64 0, .slice none 0 0] 36))
  clear hn
  go_enter Try.func71, Try.ntmps71
  go_upto_region 1 with fail
  generalize ((w.alloc (.cells #[.int .i64 rate, .int .i64 burst, .slice (some ⟨g, off, none⟩) n cap] 36)).alloc (.cells #[.int .i64 0, .int .i64 0, .slice none 0 0] 36)) = U at Q kW
  obtain ⟨x0, x1⟩ := Q
  have hkU := kW.trans ((new1 U (.cells #[] 71)).mono kW.size)
  have C := Lib.hid (fun j u hj => flat_cells (l := l) (fun j b hb => (hc j b hb).same (hkU.block g hg)) j u hj)
  obtain ⟨a0, a1, a2, az⟩ := three x0
  have HX1 := Lib.hid x1
  have HX0 := Lib.hid x0
  have HK := Lib.hid kW
  clear hc hkU x1 x0 kW
  go_wp2_with (at_builtin; refine wp_putBn (.tmp 3) (.tmp 5) ⟨g, off, none⟩ n cap l U.heap.size _ [] rfl rfl rfl (Bks.empty _ _ (Nat.le_refl _)) rfl HN.out.symm (fun j u hj => by rw [Addr.add_lit]; exact C.out j u hj) (by simp; omega) (by simp) ?_; intro v1 w1 hv1 hb1; obtain ⟨ua, uc, hu⟩ := hv1.wbk.rbk.form; rw [List.nil_append, ← HN.out] at hu; subst hu; have hz := new1 U (.cells #[] 71); have bz := (Array.getElem?_eq_some_iff.1 HX1.out).1; have Y0 := (hb1.block _ az).trans ((Below.heap_alloc _ _ _ az).trans HX0.out); have Y1 := (hb1.block _ bz).trans ((Below.heap_alloc _ _ _ bz).trans HX1.out); clear a0 a1 a2; obtain ⟨a0, a1, a2, az'⟩ := three Y0; obtain ⟨b0, b1, b2, bz'⟩ := three Y1; have af : ∀ o, w1.frozen? ⟨w.heap.size, o, none⟩ = false := (fun o => by simp [World.frozen?, Y0]); have bf : ∀ o, w1.frozen? ⟨w.heap.size + 1, o, none⟩ = false := (fun o => by simp [World.frozen?, Y1]); have HB1 := Lib.hid ((HK.out.trans (hz.mono HK.out.size)).trans (hb1.mono HK.out.size)); clear hv1 hb1 Y0 Y1 hz)
  refine bodyPost_ret (v := .agg #[.int .i64 rate, .int .i64 burst, .slice ua n uc]) (by simp [results, Try.results71, go_sem, b0, b1, b2]) rfl ⟨_, _, rfl, ?_⟩
  exact (((HB1.out.setCell (by simp) _).setCell (by simp) _).setCell (by simp) _).setCell (by simp) _

set_option maxHeartbeats 8000000 in
set_option maxRecDepth 100000 in
theorem l05Ask_calls (rate burst now : Int) (g off n cap : Nat) (l : List Bk) (st : Bs) (w : World) (hn : n = l.length) (hg : g < w.heap.size) (hc : ∀ j b, l[j]? = some b → LiesB w g (off + j * 3) b) (hcap : n ≤ cap)
    (hr : limR rate burst l = true) (ha : atomR st = true) (ht : timeR now = true) (A : Int × Int × List Bk × Bool × Int)
    (hA : A = if (askO rate burst l st now).2.2 = 0 then (rate, burst, (askO rate burst l st now).1, (askO rate burst l st now).2.1, 0) else (0, 0, [], false, (askO rate burst l st now).2.2)) :
    Calls Try.prog 45 #[.agg (lmA rate burst (.slice (some ⟨g, off, none⟩) n cap)), str st, .int .i64 now] w fun e w' => ∃ u, e = .returned (.agg (loA A.1 A.2.1 u A.2.2.2.1 A.2.2.2.2)) ∧ Below w.heap.size w w' ∧ Wbk w' w.heap.size u A.2.2.1 := by
  obtain ⟨hnum, hnd, hl6, r1, r2, m1, m2⟩ := nums_of hr
  obtain ⟨t0, t3⟩ : 0 ≤ now ∧ now ≤ 1000000 := by unfold timeR at ht; simpa using ht
  have hst3 := (atomR_len ha).2
  have hrise := (limOk hr).rise
  have HA := Lib.hid hA
  have HN := Lib.hid hn
  have HNUM := Lib.hid hnum
  have HRI := Lib.hid hrise
  have hn6 : n ≤ 6 := by omega
  have HCW := Lib.hid (fun W (k : Below w.heap.size w W) j b hb => (hc j b hb).same (k.block g hg))
  have CP := Lib.hid (fun W (k : Below w.heap.size w W) => l05Copy_calls rate burst g off n cap l W hn (fun j b hb => (hc j b hb).same (k.block g hg)) (Nat.lt_of_lt_of_le hg k.size) (by omega))
  unfold lmA at CP ⊢
  have kW := (new1 w (.cells #[.int .i64 rate, .int .i64 burst, .slice (some ⟨g, off, none⟩) n cap] 36)).alloc (by simp) (.cells #[.int .i64 0, .int .i64 0, .slice none 0 0, .bool false, .int .i64 0] 41)
  obtain ⟨x0, x1⟩ := alloc2 w (.cells #[.int .i64 rate, .int .i64 burst, .slice (some ⟨g, off, none⟩) n cap] 36) (.cells #[.int .i64 0, .int .i64 0, .slice none 0 0, .bool false, .int .i64 0] 41)
  have zz : ((w.alloc (.cells #[.int .i64 rate, .int .i64 burst, .slice (some ⟨g, off, none⟩) n cap] 36)).alloc (.cells #[.int .i64 0, .int .i64 0, .slice none 0 0, .bool false, .int .i64 0] 41)).heap.size = w.heap.size + 1 + 1 := by simp
  have Q := And.intro x0 (And.intro x1 (And.intro kW zz))
  clear x0 x1 kW zz hA hn hnum hnd hl6 hrise hc hr ha ht
  go_enter Try.func45, Try.ntmps45
  go_wp2_with fail
  generalize hW : ((w.alloc (.cells #[.int .i64 rate, .int .i64 burst, .slice (some ⟨g, off, none⟩) n cap] 36)).alloc (.cells #[.int .i64 0, .int .i64 0, .slice none 0 0, .bool false, .int .i64 0] 41)) = W at Q
  obtain ⟨x0, x1, kW, zW⟩ := Q
  clear hW
  have X0 := Lib.hid x0
  have X1 := Lib.hid x1
  have HCV := Lib.hid (HCW.out W kW)
  have KW := Lib.hid kW
  clear x0 x1 kW
  go_loopw [7, 12, 13, 14, 15, 16, 17, 18, 19, 20, 21, 22, 23, 24, 25, 26, 27, 28] (fun vk _ _ _ _ _ _ _ _ _ _ _ _ _ _ _ _ _ wr => ∃ k : Nat, vk = .int .i64 (k : Nat) ∧ k ≤ n ∧ (∀ j b, j < k → l[j]? = some b → b.st < st) ∧ W = wr) (fun vk _ _ _ _ _ _ _ _ _ _ _ _ _ _ _ _ _ _ => n - (intOf vk).toNat)
  case atStart => exact ⟨0, rfl, Nat.zero_le _, fun j b h _ => by omega, rfl⟩
  case round =>
    obtain ⟨k, rfl, hk, hlo, rfl⟩ := hrel
    have HLO := Lib.hid hlo
    clear hlo
    obtain ⟨a0, a1, a2, az⟩ := three X0.out
    by_cases hlt : k < n
    · obtain ⟨x, hx⟩ : ∃ x, l[k]? = some x := ⟨_, List.getElem?_eq_getElem (by have := HN.out; omega)⟩
      obtain ⟨c0, c1, c2⟩ := HCV.out k x hx
      have HX := Lib.hid hx
      by_cases hlx : x.st < st
      · have s1 : Op.bytesLess x.st st = true := by rw [bytesLess_eq]; simpa using hlx
        have HLX := Lib.hid hlx
        clear hx hlx
        go_wp2_with fail
        go_roundw
        case rel => exact ⟨k + 1, by go_num, by omega, fun j b hj hb => by
          by_cases e : j = k
          · rw [e, HX.out] at hb; cases hb; exact HLX.out
          · exact HLO.out j b (by omega) hb, by first | rfl | trivial⟩
        case measure => simp [intOf]; omega
      · have s1 : Op.bytesLess x.st st = false := by rw [bytesLess_eq]; simpa using hlx
        have HPL := Lib.hid (show gdm.Place l st k from ⟨by have := HN.out; omega, HLO.out, fun b hb => by rw [hx] at hb; cases hb; exact hlx⟩)
        have ek : placeOf l st = k := place_one (tw_place l st) HPL.out
        by_cases hex : x.st = st
        · obtain ⟨kst, xl, xt⟩ := x
          simp only at hex c0 c1 c2 s1
          have hex2 := hex.symm
          clear hex
          subst hex2
          have hlk := place_there HPL.out HRI.out hx rfl
          obtain ⟨n1, n2, n3, n4, n5⟩ := HNUM.out _ (List.mem_of_getElem? hx)
          simp only at n1 n2 n3 n4 n5
          have HLK := Lib.hid hlk
          have HEK := Lib.hid ek
          clear hx hlk ek hlx
          go_upto_block 2 with fail
          have kV := new1 W (.cells #[str st, .int .i64 (burst), .int .i64 now] 71)
          have Q5 := And.intro (keptB X0.out kV) (And.intro (keptB X1.out kV) (And.intro (heap_alloc_new W (.cells #[str st, .int .i64 (burst), .int .i64 now] 71)) (And.intro (KW.out.trans (kV.mono KW.out.size)) (World.size_alloc W (.cells #[str st, .int .i64 (burst), .int .i64 now] 71)))))
          rw [zW] at Q5
          try simp only [zW]
          clear kV
          generalize hV : W.alloc (.cells #[str st, .int .i64 (burst), .int .i64 now] 71) = V at Q5
          obtain ⟨x0, x1, x2, kV, zV⟩ := Q5
          clear hV
          have V0 := Lib.hid x0
          have V1 := Lib.hid x1
          have V2 := Lib.hid x2
          have HBV := Lib.hid kV
          have CLAIM := trivial
          clear CLAIM a0 a1 a2 az
          obtain ⟨a0, a1, a2, az⟩ := three x0
          obtain ⟨q0, q1, q2, q3, q4, qz, qf⟩ := five x1
          obtain ⟨b0, b1, b2, bz⟩ := three x2
          clear x0 x1 x2 kV
          have CX := HCW.out V HBV.out k ⟨st, xl, xt⟩ HX.out
          obtain ⟨d0, d1, d2⟩ := CX
          simp only at d0 d1 d2
          by_cases hlt2 : now < xt
          · have dlt2 : decide (now < xt) = true := decide_eq_true hlt2
            have eA : askO rate burst l st now = ([], false, 8) := by unfold askO; rw [HLK.out]; simp only; rw [if_pos hlt2]
            have hA2 : A = (0, 0, [], false, 8) := by rw [HA.out, eA]; rfl
            subst hA2
            clear HA eA
            go_wp2_with fail
            refine bodyPost_ret (v := .agg #[.int .i64 0, .int .i64 0, .slice none 0 0, .bool false, .int .i64 8]) (by simp [results, Try.results45, go_sem, q0, q1, q2, q3, q4]) rfl ⟨_, rfl, ?_, .inl ⟨rfl, _, _, rfl⟩⟩
            exact ((((HBV.out.setCell (by simp) _).setCell (by simp) _).setCell (by simp) _).setCell (by simp) _).setCell (by simp) _
          · have dlt2 : decide (now < xt) = false := decide_eq_false hlt2
            have LN := fun w => l05Now_calls rate burst now (.slice (some ⟨g, off, none⟩) n cap) ⟨st, xl, xt⟩ w (by omega) r2 n2 (by simp only; omega) n4 (by simp only; omega) t3
            have hv100 : 0 ≤ nowR rate burst ⟨st, xl, xt⟩ now ∧ nowR rate burst ⟨st, xl, xt⟩ now ≤ 100 := by
              have : 0 ≤ rate * (now - xt) := Int.mul_nonneg (by omega) (by omega)
              unfold nowR
              simp only
              omega
            obtain ⟨v, hv⟩ : ∃ v, v = nowR rate burst ⟨st, xl, xt⟩ now := ⟨_, rfl⟩
            rw [← hv] at hv100
            simp only [← hv] at LN
            unfold lmA bkA at LN
            simp only at LN
            have LN := Lib.hid LN
            have HV := Lib.hid hv
            have HL2 := Lib.hid hlt2
            clear hv hlt2 c0 c1 c2
            go_cut [] (fun wx => wx.heap[w.heap.size]? = some (.cells #[.int .i64 rate, .int .i64 burst, .slice (some ⟨g, off, none⟩) n cap] 36) ∧ wx.heap[w.heap.size + 1]? = some (.cells #[.int .i64 0, .int .i64 0, .slice none 0 0, .bool false, .int .i64 0] 41) ∧ wx.heap[w.heap.size + 1 + 1]? = some (.cells #[str st, .int .i64 (v), .int .i64 now] 71) ∧ Below w.heap.size w wx)
            case first =>
              have HDV := Lib.hid (HBV.out.trans ((Still.drewN V 1).below _))
              have D0 := Lib.hid (show (V.drew).heap[w.heap.size]? = _ from V0.out)
              have D1 := Lib.hid (show (V.drew).heap[w.heap.size + 1]? = _ from V1.out)
              have D2 := Lib.hid (show (V.drew).heap[w.heap.size + 1 + 1]? = _ from V2.out)
              go_wp2_with fail
              go_region_with (first
                | (go_at_call 55; refine (LN.out _).mono ?_; rintro e w3 ⟨rfl, hb3⟩; have E0 := Lib.hid (keptB D0.out hb3); have E1 := Lib.hid (keptB D1.out hb3); have E2 := Lib.hid (keptB D2.out hb3); have HB3 := Lib.hid (HDV.out.trans (hb3.mono HDV.out.size)); obtain ⟨r0, r1', r2', rz⟩ := three E2.out; have rf : ∀ o, w3.frozen? ⟨w.heap.size + 1 + 1, o, none⟩ = false := (fun o => by simp [World.frozen?, E2.out]); clear hb3))
              all_goals (go_wp2_with fail; go_meet; exact ⟨((Only.setCell (w := w3) (b := w.heap.size + 1 + 1) 1 _).block _ (by omega) (by omega)).trans E0.out, ((Only.setCell (w := w3) (b := w.heap.size + 1 + 1) 1 _).block _ (by omega) (by omega)).trans E1.out, heap_setCell_same w3 _ 1 _ _ _ E2.out, HB3.out.setCell (by simp; omega) _⟩)
            case rest =>
            obtain ⟨x0, x1, x2, kV⟩ := hcut
            rename World => Y
            clear zV V0 V1 V2 HBV a0 a1 a2 az b0 b1 b2 bz q0 q1 q2 q3 q4 qz qf d0 d1 d2 LN
            have V0 := Lib.hid x0
            have V1 := Lib.hid x1
            have V2 := Lib.hid x2
            have HBV := Lib.hid kV
            obtain ⟨a0, a1, a2, az⟩ := three x0
            obtain ⟨q0, q1, q2, q3, q4, qz, qf⟩ := five x1
            obtain ⟨b0, b1, b2, bz⟩ := three x2
            clear x0 x1 x2 kV
            by_cases hy : 1 ≤ v
            · have dy : decide (0 < v) = true := decide_eq_true (by omega)
              have wv : IntKind.i64.wrap (v - 1) = v - 1 := by rw [IntKind.wrap_i64]; omega
              have HSO := Lib.hid (show askO rate burst l st now = (laid l k true ⟨st, v - 1, now⟩, true, 0) by unfold askO; rw [HLK.out]; simp only; rw [if_neg HL2.out, HEK.out, ← HV.out, less, if_pos hy, decide_eq_true hy])
              go_upto_region 12 with fail
              go_cut [10] (fun s10 wx => ∃ (O : Nat) (ua : Option Addr) (uc : Nat), s10 = .pointer (some ⟨O, 0, none⟩) ∧ wx.heap[O]? = some (.cells #[.int .i64 rate, .int .i64 burst, .slice ua n uc, .bool true, .int .i64 0] 41) ∧ w.heap.size + 1 + 1 < O ∧ wx.heap[w.heap.size]? = some (.cells #[.int .i64 rate, .int .i64 burst, .slice (some ⟨g, off, none⟩) n cap] 36) ∧ wx.heap[w.heap.size + 1]? = some (.cells #[.int .i64 0, .int .i64 0, .slice none 0 0, .bool false, .int .i64 0] 41) ∧ wx.heap[w.heap.size + 1 + 1]? = some (.cells #[str st, .int .i64 (v), .int .i64 now] 71) ∧ Below w.heap.size w wx)
              case first =>
                have kA := new1 Y (.cells #[.int .i64 0, .int .i64 0, .slice none 0 0, .bool false, .int .i64 0] 41)
                have HDV := Lib.hid ((HBV.out.trans (kA.mono HBV.out.size)).trans ((Still.drewN (Y.alloc (.cells #[.int .i64 0, .int .i64 0, .slice none 0 0, .bool false, .int .i64 0] 41)) 1).below _))
                have K0 := keptB V0.out kA
                have K1 := keptB V1.out kA
                have K2 := keptB V2.out kA
                have K3 := heap_alloc_new Y (.cells #[.int .i64 0, .int .i64 0, .slice none 0 0, .bool false, .int .i64 0] 41)
                have D0 := Lib.hid (show ((Y.alloc (.cells #[.int .i64 0, .int .i64 0, .slice none 0 0, .bool false, .int .i64 0] 41)).drew).heap[w.heap.size]? = _ from K0)
                have D1 := Lib.hid (show ((Y.alloc (.cells #[.int .i64 0, .int .i64 0, .slice none 0 0, .bool false, .int .i64 0] 41)).drew).heap[w.heap.size + 1]? = _ from K1)
                have D2 := Lib.hid (show ((Y.alloc (.cells #[.int .i64 0, .int .i64 0, .slice none 0 0, .bool false, .int .i64 0] 41)).drew).heap[w.heap.size + 1 + 1]? = _ from K2)
                have D3 := Lib.hid (show ((Y.alloc (.cells #[.int .i64 0, .int .i64 0, .slice none 0 0, .bool false, .int .i64 0] 41)).drew).heap[Y.heap.size]? = _ from K3)
                try rw [zV] at D3
                have HDV' := Lib.hid (HBV.out.trans ((Still.drewN Y 1).below _))
                have F0 := Lib.hid (show (Y.drew).heap[w.heap.size]? = _ from V0.out)
                have F1 := Lib.hid (show (Y.drew).heap[w.heap.size + 1]? = _ from V1.out)
                have F2 := Lib.hid (show (Y.drew).heap[w.heap.size + 1 + 1]? = _ from V2.out)
                clear kA K0 K1 K2 K3
                go_region_with (first
                  | (go_at_call 71; refine (CP.out ((Y.alloc (.cells #[.int .i64 0, .int .i64 0, .slice none 0 0, .bool false, .int .i64 0] 41)).drew) HDV.out).mono ?_; rintro e w3 ⟨ua, uc, rfl, hb3⟩; have E0 := Lib.hid (keptB D0.out hb3); have E1 := Lib.hid (keptB D1.out hb3); have E2 := Lib.hid (keptB D2.out hb3); have E3 := Lib.hid (keptB D3.out hb3); have HB3 := Lib.hid (HDV.out.trans (hb3.mono HDV.out.size)); obtain ⟨r0, r1', r2', rz⟩ := three E2.out; obtain ⟨o0, o1, o2, o3, o4, oz, of⟩ := five E3.out; clear hb3)
                  | (go_at_call 71; refine (CP.out Y.drew HDV'.out).mono ?_; rintro e w3 ⟨ua, uc, rfl, hb3⟩; have E0 := Lib.hid (keptB F0.out hb3); have E1 := Lib.hid (keptB F1.out hb3); have E2 := Lib.hid (keptB F2.out hb3); have E3 := Lib.hid (trivial : True); have HB3 := Lib.hid (HDV'.out.trans (hb3.mono HDV'.out.size)); obtain ⟨r0, r1', r2', rz⟩ := three E2.out; clear hb3))
                all_goals (go_wp2_with fail; go_meet; first | exact ⟨_, ua, uc, rfl, setFive E3.out _ _ _ _ _, by omega, (fiveOnly w3 _ _ _ _ _ _).block _ (by omega) (by omega) |>.trans E0.out, (fiveOnly w3 _ _ _ _ _ _).block _ (by omega) (by omega) |>.trans E1.out, (fiveOnly w3 _ _ _ _ _ _).block _ (by omega) (by omega) |>.trans E2.out, ((((HB3.out.setCell (by simp; omega) _).setCell (by simp; omega) _).setCell (by simp; omega) _).setCell (by simp; omega) _).setCell (by simp; omega) _⟩ | exact ⟨_, ua, uc, rfl, heap_alloc_new w3 _, by omega, keptB E0.out (new1 _ _), keptB E1.out (new1 _ _), keptB E2.out (new1 _ _), HB3.out.alloc HB3.out.size _⟩)
              case rest =>
              obtain ⟨O, ua, uc, rfl, O0, hO, X0, X1, X2, hbx⟩ := hcut
              clear b0 b1 b2 bz a0 a1 a2 az q0 q1 q2 q3 q4 qz qf V0 V1 V2 HBV
              obtain ⟨b0, b1, b2, bz⟩ := three X2
              obtain ⟨p0, p1, p2, p3, p4, pz, pf⟩ := five O0
              have bf : ∀ o, wc.frozen? ⟨w.heap.size + 1 + 1, o, none⟩ = false := fun o => by simp [World.frozen?, X2]
              go_upto_region 15 with fail
              have S1 : Only (w.heap.size + 1 + 1) wc (wc.setCell ⟨w.heap.size + 1 + 1, 1, none⟩ (Value.int .i64 (v - 1))) := Only.setCell 1 _
              have Q6 : (wc.setCell ⟨w.heap.size + 1 + 1, 1, none⟩ (Value.int .i64 (v - 1))).heap[w.heap.size + 1 + 1]? = some (.cells #[str st, .int .i64 (v - 1), .int .i64 now] 71) ∧ (wc.setCell ⟨w.heap.size + 1 + 1, 1, none⟩ (Value.int .i64 (v - 1))).heap[w.heap.size]? = some (.cells #[.int .i64 rate, .int .i64 burst, .slice (some ⟨g, off, none⟩) n cap] 36) ∧ (wc.setCell ⟨w.heap.size + 1 + 1, 1, none⟩ (Value.int .i64 (v - 1))).heap[w.heap.size + 1]? = some (.cells #[.int .i64 0, .int .i64 0, .slice none 0 0, .bool false, .int .i64 0] 41) ∧ (wc.setCell ⟨w.heap.size + 1 + 1, 1, none⟩ (Value.int .i64 (v - 1))).heap[O]? = _ ∧ Below w.heap.size w (wc.setCell ⟨w.heap.size + 1 + 1, 1, none⟩ (Value.int .i64 (v - 1))) :=
                ⟨heap_setCell_same wc _ 1 _ _ _ X2, (S1.block _ (by omega) (by omega)).trans X0, (S1.block _ (by omega) (by omega)).trans X1, (S1.block _ (by omega) (by omega)).trans O0, hbx.setCell (by simp; omega) _⟩
              generalize hU : wc.setCell ⟨w.heap.size + 1 + 1, 1, none⟩ (Value.int .i64 (v - 1)) = U at Q6
              obtain ⟨U2, U0, U1, UO, hbu⟩ := Q6
              clear hU S1 bf X0 X1 X2 O0 hbx b0 b1 b2 bz p0 p1 p2 p3 p4 pz pf
              obtain ⟨a0, a1, a2, az⟩ := three U0
              have HU := Lib.hid hbu
              have hOz : O < U.heap.size := (Array.getElem?_eq_some_iff.1 UO).1
              have hUz : w.heap.size + 1 + 1 < U.heap.size := by omega
              have hu1 : Below U.heap.size U (U.alloc (.cells #[] 71)) := new1 _ _
              have C1 := Lib.hid (fun j u hj => flat_cells (fun j b hb => (HCW.out _ (hbu.trans (hu1.mono hbu.size)) j b (by rw [List.getElem?_take] at hb; split at hb; exact hb; cases hb))) (l := l.take k) j u hj)
              have htk : (l.take k).length = k := by rw [List.length_take]; have := HN.out; omega
              have HTK := Lib.hid htk
              have HE := Lib.hid (Bks.empty U U.heap.size (Nat.le_refl _))
              clear hbu htk hu1
              have hkn : k + 1 ≤ n := by omega
              have C3 := Lib.hid (fun W (kW : Below w.heap.size w W) j u hj => flat_cells (w := W) (g := g) (off := off + (k + 1) * 3) (fun j b hb => by rw [show off + (k + 1) * 3 + j * 3 = off + (k + 1 + j) * 3 by omega]; exact HCW.out W kW _ b (by rw [List.getElem?_drop] at hb; exact hb)) (l := l.drop (k + 1)) j u hj)
              have HDL := Lib.hid (show (l.drop (k + 1)).length = n - (k + 1) by rw [List.length_drop, HN.out])
              have HTT := Lib.hid (show (l.take k ++ [(⟨st, v - 1, now⟩ : Bk)]).length + (n - (k + 1)) ≤ 1000000 by rw [List.length_append, HTK.out]; simp; omega)
              by_cases hcx : cap ≤ k + 1
              · have hck : ¬ (k + 1 < cap) := by omega
                clear hcx
                go_wp2_with (first
                  | (at_builtin; refine wp_putBn (.tmp 95) (.tmp 99) ⟨g, off, none⟩ k cap (l.take k) U.heap.size _ [] rfl rfl rfl HE.out rfl HTK.out (fun j u hj => by rw [Addr.add_lit]; exact C1.out j u hj) (by simp; omega) (by simp) ?_; intro v1 w4 hv1 hb4; rw [List.nil_append] at hv1; obtain ⟨ta, tc, hu⟩ := hv1.wbk.rbk.form; rw [HTK.out] at hu; subst hu; have HV1 := Lib.hid hv1; have HB4 := Lib.hid hb4; have z4 := hb4.size; have hk4 := fun i hi => (hb4.block i hi).trans (Below.heap_alloc U _ _ hi); have Y0 := (hk4 _ az).trans U0; have Y1 := (hk4 _ (by omega)).trans U1; have Y2 := (hk4 _ (by omega)).trans U2; have YO := (hk4 _ hOz).trans UO; clear a0 a1 a2 hv1 hb4; obtain ⟨a0, a1, a2, az4⟩ := three Y0; obtain ⟨e0, e1', e2, ez⟩ := three Y2; rw [World.size_alloc] at z4)
                  | (at_builtin; refine wp_putB (.tmp 101) (.tmp 103) ⟨st, v - 1, now⟩ U.heap.size _ (l.take k) rfl rfl rfl HV1.out rfl (by rw [HTK.out]; omega) (by omega) ?_; intro v2 w5 hv2 hb5; obtain ⟨ta2, tc2, hu2⟩ := hv2.wbk.rbk.form; have htn : (l.take k ++ [(⟨st, v - 1, now⟩ : Bk)]).length = k + 1 := (by rw [List.length_append, HTK.out]; rfl); rw [htn] at hu2; subst hu2; have HV2 := Lib.hid hv2; have HB5 := Lib.hid hb5; have z5 := hb5.size; have G0 := (hb5.block _ az).trans Y0; have G1 := (hb5.block _ (by omega)).trans Y1; have GO := (hb5.block _ hOz).trans YO; have HW5 := Lib.hid (HU.out.trans (((new1 U (.cells #[] 71)).mono HU.out.size |>.trans (HB4.out.mono HU.out.size)).trans (hb5.mono HU.out.size))); clear a0 a1 a2 e0 e1' e2 ez htn hv2 hb5; obtain ⟨a0, a1, a2, az5⟩ := three G0)
                  | (at_builtin; refine wp_putBn (.tmp 108) (.tmp 112) ⟨g, off + (k + 1) * 3, none⟩ (n - (k + 1)) (cap - (k + 1)) (l.drop (k + 1)) U.heap.size (.slice ta2 (k + 1) tc2) (l.take k ++ [⟨st, v - 1, now⟩]) rfl rfl rfl HV2.out rfl HDL.out (fun j u hj => by rw [Addr.add_lit]; exact C3.out _ HW5.out j u hj) HTT.out (by omega) ?_; intro v3 w6 hv3 hb6; obtain ⟨ta3, tn3, tc3, hu3⟩ : ∃ a n c, v3 = .slice a n c := ⟨_, _, _, hv3.wbk.rbk.form.choose_spec.choose_spec⟩; subst hu3; have HV3 := Lib.hid hv3; have z6 := hb6.size; have H1 := (hb6.block _ (by omega)).trans G1; have HO := (hb6.block _ hOz).trans GO; have HW6 := Lib.hid (HW5.out.trans (hb6.mono HU.out.size)); clear hv3 hb6; obtain ⟨i0, i1, i2, i3, i4, iz, jf⟩ := five HO; obtain ⟨q0, q1, q2, q3, q4, qz, qf⟩ := five H1)
                  | (at_builtin; refine wp_putBn (.tmp 108) (.tmp 112) ⟨g, off, none⟩ (n - (k + 1)) 0 (l.drop (k + 1)) U.heap.size (.slice ta2 (k + 1) tc2) (l.take k ++ [⟨st, v - 1, now⟩]) rfl rfl rfl HV2.out rfl HDL.out (fun j u hj => by have := HDL.out; rw [List.length_eq_zero_iff.1 (show (l.drop (k + 1)).length = 0 by omega)] at hj; simp at hj) HTT.out (by omega) ?_; intro v3 w6 hv3 hb6; obtain ⟨ta3, tn3, tc3, hu3⟩ : ∃ a n c, v3 = .slice a n c := ⟨_, _, _, hv3.wbk.rbk.form.choose_spec.choose_spec⟩; subst hu3; have HV3 := Lib.hid hv3; have z6 := hb6.size; have H1 := (hb6.block _ (by omega)).trans G1; have HO := (hb6.block _ hOz).trans GO; have HW6 := Lib.hid (HW5.out.trans (hb6.mono HU.out.size)); clear hv3 hb6; obtain ⟨i0, i1, i2, i3, i4, iz, jf⟩ := five HO; obtain ⟨q0, q1, q2, q3, q4, qz, qf⟩ := five H1)
                  | (at_builtin; refine wp_putBn (.tmp 108) (.tmp 112) ⟨g, off, none⟩ (n - (k + 1)) (cap - (k + 1)) (l.drop (k + 1)) U.heap.size (.slice ta2 (k + 1) tc2) (l.take k ++ [⟨st, v - 1, now⟩]) rfl rfl rfl HV2.out rfl HDL.out (fun j u hj => by have := HDL.out; rw [List.length_eq_zero_iff.1 (show (l.drop (k + 1)).length = 0 by omega)] at hj; simp at hj) HTT.out (by omega) ?_; intro v3 w6 hv3 hb6; obtain ⟨ta3, tn3, tc3, hu3⟩ : ∃ a n c, v3 = .slice a n c := ⟨_, _, _, hv3.wbk.rbk.form.choose_spec.choose_spec⟩; subst hu3; have HV3 := Lib.hid hv3; have z6 := hb6.size; have H1 := (hb6.block _ (by omega)).trans G1; have HO := (hb6.block _ hOz).trans GO; have HW6 := Lib.hid (HW5.out.trans (hb6.mono HU.out.size)); clear hv3 hb6; obtain ⟨i0, i1, i2, i3, i4, iz, jf⟩ := five HO; obtain ⟨q0, q1, q2, q3, q4, qz, qf⟩ := five H1))
                have hlaid : (l.take k ++ [(⟨st, v - 1, now⟩ : Bk)]) ++ l.drop (k + 1) = laid l k true ⟨st, v - 1, now⟩ := by simp [laid]
                have hA2 : A = (rate, burst, laid l k true ⟨st, v - 1, now⟩, true, 0) := by rw [HA.out, HSO.out]; rfl
                subst hA2
                refine bodyPost_ret (v := .agg #[.int .i64 rate, .int .i64 burst, .slice ta3 tn3 tc3, .bool true, .int .i64 0]) (by simp [results, Try.results45, go_sem, q0, q1, q2, q3, q4]) rfl ⟨_, rfl, ?_, ?_⟩
                · exact (((((HW6.out.setCell (by simp; omega) _).setCell (by simp) _).setCell (by simp) _).setCell (by simp) _).setCell (by simp) _).setCell (by simp) _
                · refine Wbk.base (B := U.heap.size) ?_ (by have := HU.out.size; omega)
                  have h := HV3.out.wbk
                  rw [hlaid] at h
                  exact Wbk.set (Wbk.set (Wbk.set (Wbk.set (Wbk.set (Wbk.set h (by simp; omega) _) (by simp; omega) _) (by simp; omega) _) (by simp; omega) _) (by simp; omega) _) (by simp; omega) _
              · have hck : k + 1 < cap := by omega
                clear hcx
                go_wp2_with (first
                  | (at_builtin; refine wp_putBn (.tmp 95) (.tmp 99) ⟨g, off, none⟩ k cap (l.take k) U.heap.size _ [] rfl rfl rfl HE.out rfl HTK.out (fun j u hj => by rw [Addr.add_lit]; exact C1.out j u hj) (by simp; omega) (by simp) ?_; intro v1 w4 hv1 hb4; rw [List.nil_append] at hv1; obtain ⟨ta, tc, hu⟩ := hv1.wbk.rbk.form; rw [HTK.out] at hu; subst hu; have HV1 := Lib.hid hv1; have HB4 := Lib.hid hb4; have z4 := hb4.size; have hk4 := fun i hi => (hb4.block i hi).trans (Below.heap_alloc U _ _ hi); have Y0 := (hk4 _ az).trans U0; have Y1 := (hk4 _ (by omega)).trans U1; have Y2 := (hk4 _ (by omega)).trans U2; have YO := (hk4 _ hOz).trans UO; clear a0 a1 a2 hv1 hb4; obtain ⟨a0, a1, a2, az4⟩ := three Y0; obtain ⟨e0, e1', e2, ez⟩ := three Y2; rw [World.size_alloc] at z4)
                  | (at_builtin; refine wp_putB (.tmp 101) (.tmp 103) ⟨st, v - 1, now⟩ U.heap.size _ (l.take k) rfl rfl rfl HV1.out rfl (by rw [HTK.out]; omega) (by omega) ?_; intro v2 w5 hv2 hb5; obtain ⟨ta2, tc2, hu2⟩ := hv2.wbk.rbk.form; have htn : (l.take k ++ [(⟨st, v - 1, now⟩ : Bk)]).length = k + 1 := (by rw [List.length_append, HTK.out]; rfl); rw [htn] at hu2; subst hu2; have HV2 := Lib.hid hv2; have HB5 := Lib.hid hb5; have z5 := hb5.size; have G0 := (hb5.block _ az).trans Y0; have G1 := (hb5.block _ (by omega)).trans Y1; have GO := (hb5.block _ hOz).trans YO; have HW5 := Lib.hid (HU.out.trans (((new1 U (.cells #[] 71)).mono HU.out.size |>.trans (HB4.out.mono HU.out.size)).trans (hb5.mono HU.out.size))); clear a0 a1 a2 e0 e1' e2 ez htn hv2 hb5; obtain ⟨a0, a1, a2, az5⟩ := three G0)
                  | (at_builtin; refine wp_putBn (.tmp 108) (.tmp 112) ⟨g, off + (k + 1) * 3, none⟩ (n - (k + 1)) (cap - (k + 1)) (l.drop (k + 1)) U.heap.size (.slice ta2 (k + 1) tc2) (l.take k ++ [⟨st, v - 1, now⟩]) rfl rfl rfl HV2.out rfl HDL.out (fun j u hj => by rw [Addr.add_lit]; exact C3.out _ HW5.out j u hj) HTT.out (by omega) ?_; intro v3 w6 hv3 hb6; obtain ⟨ta3, tn3, tc3, hu3⟩ : ∃ a n c, v3 = .slice a n c := ⟨_, _, _, hv3.wbk.rbk.form.choose_spec.choose_spec⟩; subst hu3; have HV3 := Lib.hid hv3; have z6 := hb6.size; have H1 := (hb6.block _ (by omega)).trans G1; have HO := (hb6.block _ hOz).trans GO; have HW6 := Lib.hid (HW5.out.trans (hb6.mono HU.out.size)); clear hv3 hb6; obtain ⟨i0, i1, i2, i3, i4, iz, jf⟩ := five HO; obtain ⟨q0, q1, q2, q3, q4, qz, qf⟩ := five H1))
                have hlaid : (l.take k ++ [(⟨st, v - 1, now⟩ : Bk)]) ++ l.drop (k + 1) = laid l k true ⟨st, v - 1, now⟩ := by simp [laid]
                have hA2 : A = (rate, burst, laid l k true ⟨st, v - 1, now⟩, true, 0) := by rw [HA.out, HSO.out]; rfl
                subst hA2
                refine bodyPost_ret (v := .agg #[.int .i64 rate, .int .i64 burst, .slice ta3 tn3 tc3, .bool true, .int .i64 0]) (by simp [results, Try.results45, go_sem, q0, q1, q2, q3, q4]) rfl ⟨_, rfl, ?_, ?_⟩
                · exact (((((HW6.out.setCell (by simp; omega) _).setCell (by simp) _).setCell (by simp) _).setCell (by simp) _).setCell (by simp) _).setCell (by simp) _
                · refine Wbk.base (B := U.heap.size) ?_ (by have := HU.out.size; omega)
                  have h := HV3.out.wbk
                  rw [hlaid] at h
                  exact Wbk.set (Wbk.set (Wbk.set (Wbk.set (Wbk.set (Wbk.set h (by simp; omega) _) (by simp; omega) _) (by simp; omega) _) (by simp; omega) _) (by simp; omega) _) (by simp; omega) _

            · have dy : decide (0 < v) = false := decide_eq_false (by omega)
              have HSO := Lib.hid (show askO rate burst l st now = (laid l k true ⟨st, v, now⟩, false, 0) by unfold askO; rw [HLK.out]; simp only; rw [if_neg HL2.out, HEK.out, ← HV.out, less, if_neg hy, decide_eq_false hy])
              go_upto_region 12 with fail
              go_cut [10] (fun s10 wx => ∃ (O : Nat) (ua : Option Addr) (uc : Nat), s10 = .pointer (some ⟨O, 0, none⟩) ∧ wx.heap[O]? = some (.cells #[.int .i64 rate, .int .i64 burst, .slice ua n uc, .bool false, .int .i64 0] 41) ∧ w.heap.size + 1 + 1 < O ∧ wx.heap[w.heap.size]? = some (.cells #[.int .i64 rate, .int .i64 burst, .slice (some ⟨g, off, none⟩) n cap] 36) ∧ wx.heap[w.heap.size + 1]? = some (.cells #[.int .i64 0, .int .i64 0, .slice none 0 0, .bool false, .int .i64 0] 41) ∧ wx.heap[w.heap.size + 1 + 1]? = some (.cells #[str st, .int .i64 (v), .int .i64 now] 71) ∧ Below w.heap.size w wx)
              case first =>
                have kA := new1 Y (.cells #[.int .i64 0, .int .i64 0, .slice none 0 0, .bool false, .int .i64 0] 41)
                have HDV := Lib.hid ((HBV.out.trans (kA.mono HBV.out.size)).trans ((Still.drewN (Y.alloc (.cells #[.int .i64 0, .int .i64 0, .slice none 0 0, .bool false, .int .i64 0] 41)) 1).below _))
                have K0 := keptB V0.out kA
                have K1 := keptB V1.out kA
                have K2 := keptB V2.out kA
                have K3 := heap_alloc_new Y (.cells #[.int .i64 0, .int .i64 0, .slice none 0 0, .bool false, .int .i64 0] 41)
                have D0 := Lib.hid (show ((Y.alloc (.cells #[.int .i64 0, .int .i64 0, .slice none 0 0, .bool false, .int .i64 0] 41)).drew).heap[w.heap.size]? = _ from K0)
                have D1 := Lib.hid (show ((Y.alloc (.cells #[.int .i64 0, .int .i64 0, .slice none 0 0, .bool false, .int .i64 0] 41)).drew).heap[w.heap.size + 1]? = _ from K1)
                have D2 := Lib.hid (show ((Y.alloc (.cells #[.int .i64 0, .int .i64 0, .slice none 0 0, .bool false, .int .i64 0] 41)).drew).heap[w.heap.size + 1 + 1]? = _ from K2)
                have D3 := Lib.hid (show ((Y.alloc (.cells #[.int .i64 0, .int .i64 0, .slice none 0 0, .bool false, .int .i64 0] 41)).drew).heap[Y.heap.size]? = _ from K3)
                try rw [zV] at D3
                have HDV' := Lib.hid (HBV.out.trans ((Still.drewN Y 1).below _))
                have F0 := Lib.hid (show (Y.drew).heap[w.heap.size]? = _ from V0.out)
                have F1 := Lib.hid (show (Y.drew).heap[w.heap.size + 1]? = _ from V1.out)
                have F2 := Lib.hid (show (Y.drew).heap[w.heap.size + 1 + 1]? = _ from V2.out)
                clear kA K0 K1 K2 K3
                go_region_with (first
                  | (go_at_call 71; refine (CP.out ((Y.alloc (.cells #[.int .i64 0, .int .i64 0, .slice none 0 0, .bool false, .int .i64 0] 41)).drew) HDV.out).mono ?_; rintro e w3 ⟨ua, uc, rfl, hb3⟩; have E0 := Lib.hid (keptB D0.out hb3); have E1 := Lib.hid (keptB D1.out hb3); have E2 := Lib.hid (keptB D2.out hb3); have E3 := Lib.hid (keptB D3.out hb3); have HB3 := Lib.hid (HDV.out.trans (hb3.mono HDV.out.size)); obtain ⟨r0, r1', r2', rz⟩ := three E2.out; obtain ⟨o0, o1, o2, o3, o4, oz, of⟩ := five E3.out; clear hb3)
                  | (go_at_call 71; refine (CP.out Y.drew HDV'.out).mono ?_; rintro e w3 ⟨ua, uc, rfl, hb3⟩; have E0 := Lib.hid (keptB F0.out hb3); have E1 := Lib.hid (keptB F1.out hb3); have E2 := Lib.hid (keptB F2.out hb3); have E3 := Lib.hid (trivial : True); have HB3 := Lib.hid (HDV'.out.trans (hb3.mono HDV'.out.size)); obtain ⟨r0, r1', r2', rz⟩ := three E2.out; clear hb3))
                all_goals (go_wp2_with fail; go_meet; first | exact ⟨_, ua, uc, rfl, setFive E3.out _ _ _ _ _, by omega, (fiveOnly w3 _ _ _ _ _ _).block _ (by omega) (by omega) |>.trans E0.out, (fiveOnly w3 _ _ _ _ _ _).block _ (by omega) (by omega) |>.trans E1.out, (fiveOnly w3 _ _ _ _ _ _).block _ (by omega) (by omega) |>.trans E2.out, ((((HB3.out.setCell (by simp; omega) _).setCell (by simp; omega) _).setCell (by simp; omega) _).setCell (by simp; omega) _).setCell (by simp; omega) _⟩ | exact ⟨_, ua, uc, rfl, heap_alloc_new w3 _, by omega, keptB E0.out (new1 _ _), keptB E1.out (new1 _ _), keptB E2.out (new1 _ _), HB3.out.alloc HB3.out.size _⟩)
              case rest =>
              obtain ⟨O, ua, uc, rfl, O0, hO, X0, X1, X2, hbx⟩ := hcut
              clear b0 b1 b2 bz a0 a1 a2 az q0 q1 q2 q3 q4 qz qf V0 V1 V2 HBV
              obtain ⟨b0, b1, b2, bz⟩ := three X2
              obtain ⟨p0, p1, p2, p3, p4, pz, pf⟩ := five O0
              go_upto_region 15 with fail
              have U2 := X2
              have U0 := X0
              have U1 := X1
              have UO := O0
              have hbu := hbx
              clear X0 X1 X2 O0 hbx b0 b1 b2 bz p0 p1 p2 p3 p4 pz pf
              generalize hU : wc = U at *
              clear hU
              obtain ⟨a0, a1, a2, az⟩ := three U0
              have HU := Lib.hid hbu
              have hOz : O < U.heap.size := (Array.getElem?_eq_some_iff.1 UO).1
              have hUz : w.heap.size + 1 + 1 < U.heap.size := by omega
              have hu1 : Below U.heap.size U (U.alloc (.cells #[] 71)) := new1 _ _
              have C1 := Lib.hid (fun j u hj => flat_cells (fun j b hb => (HCW.out _ (hbu.trans (hu1.mono hbu.size)) j b (by rw [List.getElem?_take] at hb; split at hb; exact hb; cases hb))) (l := l.take k) j u hj)
              have htk : (l.take k).length = k := by rw [List.length_take]; have := HN.out; omega
              have HTK := Lib.hid htk
              have HE := Lib.hid (Bks.empty U U.heap.size (Nat.le_refl _))
              clear hbu htk hu1
              have hkn : k + 1 ≤ n := by omega
              have C3 := Lib.hid (fun W (kW : Below w.heap.size w W) j u hj => flat_cells (w := W) (g := g) (off := off + (k + 1) * 3) (fun j b hb => by rw [show off + (k + 1) * 3 + j * 3 = off + (k + 1 + j) * 3 by omega]; exact HCW.out W kW _ b (by rw [List.getElem?_drop] at hb; exact hb)) (l := l.drop (k + 1)) j u hj)
              have HDL := Lib.hid (show (l.drop (k + 1)).length = n - (k + 1) by rw [List.length_drop, HN.out])
              have HTT := Lib.hid (show (l.take k ++ [(⟨st, v, now⟩ : Bk)]).length + (n - (k + 1)) ≤ 1000000 by rw [List.length_append, HTK.out]; simp; omega)
              by_cases hcx : cap ≤ k + 1
              · have hck : ¬ (k + 1 < cap) := by omega
                clear hcx
                go_wp2_with (first
                  | (at_builtin; refine wp_putBn (.tmp 95) (.tmp 99) ⟨g, off, none⟩ k cap (l.take k) U.heap.size _ [] rfl rfl rfl HE.out rfl HTK.out (fun j u hj => by rw [Addr.add_lit]; exact C1.out j u hj) (by simp; omega) (by simp) ?_; intro v1 w4 hv1 hb4; rw [List.nil_append] at hv1; obtain ⟨ta, tc, hu⟩ := hv1.wbk.rbk.form; rw [HTK.out] at hu; subst hu; have HV1 := Lib.hid hv1; have HB4 := Lib.hid hb4; have z4 := hb4.size; have hk4 := fun i hi => (hb4.block i hi).trans (Below.heap_alloc U _ _ hi); have Y0 := (hk4 _ az).trans U0; have Y1 := (hk4 _ (by omega)).trans U1; have Y2 := (hk4 _ (by omega)).trans U2; have YO := (hk4 _ hOz).trans UO; clear a0 a1 a2 hv1 hb4; obtain ⟨a0, a1, a2, az4⟩ := three Y0; obtain ⟨e0, e1', e2, ez⟩ := three Y2; rw [World.size_alloc] at z4)
                  | (at_builtin; refine wp_putB (.tmp 101) (.tmp 103) ⟨st, v, now⟩ U.heap.size _ (l.take k) rfl rfl rfl HV1.out rfl (by rw [HTK.out]; omega) (by omega) ?_; intro v2 w5 hv2 hb5; obtain ⟨ta2, tc2, hu2⟩ := hv2.wbk.rbk.form; have htn : (l.take k ++ [(⟨st, v, now⟩ : Bk)]).length = k + 1 := (by rw [List.length_append, HTK.out]; rfl); rw [htn] at hu2; subst hu2; have HV2 := Lib.hid hv2; have HB5 := Lib.hid hb5; have z5 := hb5.size; have G0 := (hb5.block _ az).trans Y0; have G1 := (hb5.block _ (by omega)).trans Y1; have GO := (hb5.block _ hOz).trans YO; have HW5 := Lib.hid (HU.out.trans (((new1 U (.cells #[] 71)).mono HU.out.size |>.trans (HB4.out.mono HU.out.size)).trans (hb5.mono HU.out.size))); clear a0 a1 a2 e0 e1' e2 ez htn hv2 hb5; obtain ⟨a0, a1, a2, az5⟩ := three G0)
                  | (at_builtin; refine wp_putBn (.tmp 108) (.tmp 112) ⟨g, off + (k + 1) * 3, none⟩ (n - (k + 1)) (cap - (k + 1)) (l.drop (k + 1)) U.heap.size (.slice ta2 (k + 1) tc2) (l.take k ++ [⟨st, v, now⟩]) rfl rfl rfl HV2.out rfl HDL.out (fun j u hj => by rw [Addr.add_lit]; exact C3.out _ HW5.out j u hj) HTT.out (by omega) ?_; intro v3 w6 hv3 hb6; obtain ⟨ta3, tn3, tc3, hu3⟩ : ∃ a n c, v3 = .slice a n c := ⟨_, _, _, hv3.wbk.rbk.form.choose_spec.choose_spec⟩; subst hu3; have HV3 := Lib.hid hv3; have z6 := hb6.size; have H1 := (hb6.block _ (by omega)).trans G1; have HO := (hb6.block _ hOz).trans GO; have HW6 := Lib.hid (HW5.out.trans (hb6.mono HU.out.size)); clear hv3 hb6; obtain ⟨i0, i1, i2, i3, i4, iz, jf⟩ := five HO; obtain ⟨q0, q1, q2, q3, q4, qz, qf⟩ := five H1)
                  | (at_builtin; refine wp_putBn (.tmp 108) (.tmp 112) ⟨g, off, none⟩ (n - (k + 1)) 0 (l.drop (k + 1)) U.heap.size (.slice ta2 (k + 1) tc2) (l.take k ++ [⟨st, v, now⟩]) rfl rfl rfl HV2.out rfl HDL.out (fun j u hj => by have := HDL.out; rw [List.length_eq_zero_iff.1 (show (l.drop (k + 1)).length = 0 by omega)] at hj; simp at hj) HTT.out (by omega) ?_; intro v3 w6 hv3 hb6; obtain ⟨ta3, tn3, tc3, hu3⟩ : ∃ a n c, v3 = .slice a n c := ⟨_, _, _, hv3.wbk.rbk.form.choose_spec.choose_spec⟩; subst hu3; have HV3 := Lib.hid hv3; have z6 := hb6.size; have H1 := (hb6.block _ (by omega)).trans G1; have HO := (hb6.block _ hOz).trans GO; have HW6 := Lib.hid (HW5.out.trans (hb6.mono HU.out.size)); clear hv3 hb6; obtain ⟨i0, i1, i2, i3, i4, iz, jf⟩ := five HO; obtain ⟨q0, q1, q2, q3, q4, qz, qf⟩ := five H1)
                  | (at_builtin; refine wp_putBn (.tmp 108) (.tmp 112) ⟨g, off, none⟩ (n - (k + 1)) (cap - (k + 1)) (l.drop (k + 1)) U.heap.size (.slice ta2 (k + 1) tc2) (l.take k ++ [⟨st, v, now⟩]) rfl rfl rfl HV2.out rfl HDL.out (fun j u hj => by have := HDL.out; rw [List.length_eq_zero_iff.1 (show (l.drop (k + 1)).length = 0 by omega)] at hj; simp at hj) HTT.out (by omega) ?_; intro v3 w6 hv3 hb6; obtain ⟨ta3, tn3, tc3, hu3⟩ : ∃ a n c, v3 = .slice a n c := ⟨_, _, _, hv3.wbk.rbk.form.choose_spec.choose_spec⟩; subst hu3; have HV3 := Lib.hid hv3; have z6 := hb6.size; have H1 := (hb6.block _ (by omega)).trans G1; have HO := (hb6.block _ hOz).trans GO; have HW6 := Lib.hid (HW5.out.trans (hb6.mono HU.out.size)); clear hv3 hb6; obtain ⟨i0, i1, i2, i3, i4, iz, jf⟩ := five HO; obtain ⟨q0, q1, q2, q3, q4, qz, qf⟩ := five H1))
                have hlaid : (l.take k ++ [(⟨st, v, now⟩ : Bk)]) ++ l.drop (k + 1) = laid l k true ⟨st, v, now⟩ := by simp [laid]
                have hA2 : A = (rate, burst, laid l k true ⟨st, v, now⟩, false, 0) := by rw [HA.out, HSO.out]; rfl
                subst hA2
                refine bodyPost_ret (v := .agg #[.int .i64 rate, .int .i64 burst, .slice ta3 tn3 tc3, .bool false, .int .i64 0]) (by simp [results, Try.results45, go_sem, q0, q1, q2, q3, q4]) rfl ⟨_, rfl, ?_, ?_⟩
                · exact (((((HW6.out.setCell (by simp; omega) _).setCell (by simp) _).setCell (by simp) _).setCell (by simp) _).setCell (by simp) _).setCell (by simp) _
                · refine Wbk.base (B := U.heap.size) ?_ (by have := HU.out.size; omega)
                  have h := HV3.out.wbk
                  rw [hlaid] at h
                  exact Wbk.set (Wbk.set (Wbk.set (Wbk.set (Wbk.set (Wbk.set h (by simp; omega) _) (by simp; omega) _) (by simp; omega) _) (by simp; omega) _) (by simp; omega) _) (by simp; omega) _
              · have hck : k + 1 < cap := by omega
                clear hcx
                go_wp2_with (first
                  | (at_builtin; refine wp_putBn (.tmp 95) (.tmp 99) ⟨g, off, none⟩ k cap (l.take k) U.heap.size _ [] rfl rfl rfl HE.out rfl HTK.out (fun j u hj => by rw [Addr.add_lit]; exact C1.out j u hj) (by simp; omega) (by simp) ?_; intro v1 w4 hv1 hb4; rw [List.nil_append] at hv1; obtain ⟨ta, tc, hu⟩ := hv1.wbk.rbk.form; rw [HTK.out] at hu; subst hu; have HV1 := Lib.hid hv1; have HB4 := Lib.hid hb4; have z4 := hb4.size; have hk4 := fun i hi => (hb4.block i hi).trans (Below.heap_alloc U _ _ hi); have Y0 := (hk4 _ az).trans U0; have Y1 := (hk4 _ (by omega)).trans U1; have Y2 := (hk4 _ (by omega)).trans U2; have YO := (hk4 _ hOz).trans UO; clear a0 a1 a2 hv1 hb4; obtain ⟨a0, a1, a2, az4⟩ := three Y0; obtain ⟨e0, e1', e2, ez⟩ := three Y2; rw [World.size_alloc] at z4)
                  | (at_builtin; refine wp_putB (.tmp 101) (.tmp 103) ⟨st, v, now⟩ U.heap.size _ (l.take k) rfl rfl rfl HV1.out rfl (by rw [HTK.out]; omega) (by omega) ?_; intro v2 w5 hv2 hb5; obtain ⟨ta2, tc2, hu2⟩ := hv2.wbk.rbk.form; have htn : (l.take k ++ [(⟨st, v, now⟩ : Bk)]).length = k + 1 := (by rw [List.length_append, HTK.out]; rfl); rw [htn] at hu2; subst hu2; have HV2 := Lib.hid hv2; have HB5 := Lib.hid hb5; have z5 := hb5.size; have G0 := (hb5.block _ az).trans Y0; have G1 := (hb5.block _ (by omega)).trans Y1; have GO := (hb5.block _ hOz).trans YO; have HW5 := Lib.hid (HU.out.trans (((new1 U (.cells #[] 71)).mono HU.out.size |>.trans (HB4.out.mono HU.out.size)).trans (hb5.mono HU.out.size))); clear a0 a1 a2 e0 e1' e2 ez htn hv2 hb5; obtain ⟨a0, a1, a2, az5⟩ := three G0)
                  | (at_builtin; refine wp_putBn (.tmp 108) (.tmp 112) ⟨g, off + (k + 1) * 3, none⟩ (n - (k + 1)) (cap - (k + 1)) (l.drop (k + 1)) U.heap.size (.slice ta2 (k + 1) tc2) (l.take k ++ [⟨st, v, now⟩]) rfl rfl rfl HV2.out rfl HDL.out (fun j u hj => by rw [Addr.add_lit]; exact C3.out _ HW5.out j u hj) HTT.out (by omega) ?_; intro v3 w6 hv3 hb6; obtain ⟨ta3, tn3, tc3, hu3⟩ : ∃ a n c, v3 = .slice a n c := ⟨_, _, _, hv3.wbk.rbk.form.choose_spec.choose_spec⟩; subst hu3; have HV3 := Lib.hid hv3; have z6 := hb6.size; have H1 := (hb6.block _ (by omega)).trans G1; have HO := (hb6.block _ hOz).trans GO; have HW6 := Lib.hid (HW5.out.trans (hb6.mono HU.out.size)); clear hv3 hb6; obtain ⟨i0, i1, i2, i3, i4, iz, jf⟩ := five HO; obtain ⟨q0, q1, q2, q3, q4, qz, qf⟩ := five H1))
                have hlaid : (l.take k ++ [(⟨st, v, now⟩ : Bk)]) ++ l.drop (k + 1) = laid l k true ⟨st, v, now⟩ := by simp [laid]
                have hA2 : A = (rate, burst, laid l k true ⟨st, v, now⟩, false, 0) := by rw [HA.out, HSO.out]; rfl
                subst hA2
                refine bodyPost_ret (v := .agg #[.int .i64 rate, .int .i64 burst, .slice ta3 tn3 tc3, .bool false, .int .i64 0]) (by simp [results, Try.results45, go_sem, q0, q1, q2, q3, q4]) rfl ⟨_, rfl, ?_, ?_⟩
                · exact (((((HW6.out.setCell (by simp; omega) _).setCell (by simp) _).setCell (by simp) _).setCell (by simp) _).setCell (by simp) _).setCell (by simp) _
                · refine Wbk.base (B := U.heap.size) ?_ (by have := HU.out.size; omega)
                  have h := HV3.out.wbk
                  rw [hlaid] at h
                  exact Wbk.set (Wbk.set (Wbk.set (Wbk.set (Wbk.set (Wbk.set h (by simp; omega) _) (by simp; omega) _) (by simp; omega) _) (by simp; omega) _) (by simp; omega) _) (by simp; omega) _
        · have e1 : (x.st == st) = false := by simpa using hex
          have hno : gdm.look l st = none := place_none HPL.out HRI.out (fun b hb => by rw [hx] at hb; cases hb; exact hex)
          have HNO := Lib.hid hno
          have HEK := Lib.hid ek
          clear hx hno ek hlx hex
          go_upto_region 6 with fail
          have kV := new1 W (.cells #[str st, .int .i64 (burst), .int .i64 now] 71)
          have Q5 := And.intro (keptB X0.out kV) (And.intro (keptB X1.out kV) (And.intro (heap_alloc_new W (.cells #[str st, .int .i64 (burst), .int .i64 now] 71)) (And.intro (KW.out.trans (kV.mono KW.out.size)) (World.size_alloc W (.cells #[str st, .int .i64 (burst), .int .i64 now] 71)))))
          rw [zW] at Q5
          try simp only [zW]
          clear kV
          generalize hV : W.alloc (.cells #[str st, .int .i64 (burst), .int .i64 now] 71) = V at Q5
          obtain ⟨x0, x1, x2, kV, zV⟩ := Q5
          clear hV
          have V0 := Lib.hid x0
          have V1 := Lib.hid x1
          have V2 := Lib.hid x2
          have HBV := Lib.hid kV
          have CLAIM := trivial
          clear CLAIM a0 a1 a2 az
          obtain ⟨a0, a1, a2, az⟩ := three x0
          obtain ⟨q0, q1, q2, q3, q4, qz, qf⟩ := five x1
          obtain ⟨b0, b1, b2, bz⟩ := three x2
          clear x0 x1 x2 kV
          by_cases hfull : n = 6
          · have d6 : decide (6 ≤ (n : Int)) = true := decide_eq_true (by omega)
            have eA : askO rate burst l st now = ([], false, 9) := by unfold askO; rw [HNO.out]; simp only; rw [if_pos (by have := HN.out; omega)]
            have hA2 : A = (0, 0, [], false, 9) := by rw [HA.out, eA]; rfl
            subst hA2
            clear HA eA
            go_wp2_with fail
            refine bodyPost_ret (v := .agg #[.int .i64 0, .int .i64 0, .slice none 0 0, .bool false, .int .i64 9]) (by simp [results, Try.results45, go_sem, q0, q1, q2, q3, q4]) rfl ⟨_, rfl, ?_, .inl ⟨rfl, _, _, rfl⟩⟩
            exact ((((HBV.out.setCell (by simp) _).setCell (by simp) _).setCell (by simp) _).setCell (by simp) _).setCell (by simp) _
          · have d6 : decide (6 ≤ (n : Int)) = false := decide_eq_false (by omega)
            have dy : decide (0 < burst) = true := decide_eq_true (by omega)
            have wv : IntKind.i64.wrap (burst - 1) = burst - 1 := by rw [IntKind.wrap_i64]; omega
            have HSO := Lib.hid (show askO rate burst l st now = (laid l k false ⟨st, burst - 1, now⟩, true, 0) by unfold askO; rw [HNO.out]; simp only; rw [if_neg (by have := HN.out; omega), HEK.out, less, if_pos m1, decide_eq_true m1])
            go_upto_region 12 with fail
            go_cut [10] (fun s10 wx => ∃ (O : Nat) (ua : Option Addr) (uc : Nat), s10 = .pointer (some ⟨O, 0, none⟩) ∧ wx.heap[O]? = some (.cells #[.int .i64 rate, .int .i64 burst, .slice ua n uc, .bool true, .int .i64 0] 41) ∧ w.heap.size + 1 + 1 < O ∧ wx.heap[w.heap.size]? = some (.cells #[.int .i64 rate, .int .i64 burst, .slice (some ⟨g, off, none⟩) n cap] 36) ∧ wx.heap[w.heap.size + 1]? = some (.cells #[.int .i64 0, .int .i64 0, .slice none 0 0, .bool false, .int .i64 0] 41) ∧ wx.heap[w.heap.size + 1 + 1]? = some (.cells #[str st, .int .i64 (burst), .int .i64 now] 71) ∧ Below w.heap.size w wx)
            case first =>
              have kA := new1 V (.cells #[.int .i64 0, .int .i64 0, .slice none 0 0, .bool false, .int .i64 0] 41)
              have HDV := Lib.hid ((HBV.out.trans (kA.mono HBV.out.size)).trans ((Still.drewN (V.alloc (.cells #[.int .i64 0, .int .i64 0, .slice none 0 0, .bool false, .int .i64 0] 41)) 1).below _))
              have K0 := keptB V0.out kA
              have K1 := keptB V1.out kA
              have K2 := keptB V2.out kA
              have K3 := heap_alloc_new V (.cells #[.int .i64 0, .int .i64 0, .slice none 0 0, .bool false, .int .i64 0] 41)
              have D0 := Lib.hid (show ((V.alloc (.cells #[.int .i64 0, .int .i64 0, .slice none 0 0, .bool false, .int .i64 0] 41)).drew).heap[w.heap.size]? = _ from K0)
              have D1 := Lib.hid (show ((V.alloc (.cells #[.int .i64 0, .int .i64 0, .slice none 0 0, .bool false, .int .i64 0] 41)).drew).heap[w.heap.size + 1]? = _ from K1)
              have D2 := Lib.hid (show ((V.alloc (.cells #[.int .i64 0, .int .i64 0, .slice none 0 0, .bool false, .int .i64 0] 41)).drew).heap[w.heap.size + 1 + 1]? = _ from K2)
              have D3 := Lib.hid (show ((V.alloc (.cells #[.int .i64 0, .int .i64 0, .slice none 0 0, .bool false, .int .i64 0] 41)).drew).heap[V.heap.size]? = _ from K3)
              try rw [zV] at D3
              have HDV' := Lib.hid (HBV.out.trans ((Still.drewN V 1).below _))
              have F0 := Lib.hid (show (V.drew).heap[w.heap.size]? = _ from V0.out)
              have F1 := Lib.hid (show (V.drew).heap[w.heap.size + 1]? = _ from V1.out)
              have F2 := Lib.hid (show (V.drew).heap[w.heap.size + 1 + 1]? = _ from V2.out)
              clear kA K0 K1 K2 K3
              go_region_with (first
                | (go_at_call 71; refine (CP.out ((V.alloc (.cells #[.int .i64 0, .int .i64 0, .slice none 0 0, .bool false, .int .i64 0] 41)).drew) HDV.out).mono ?_; rintro e w3 ⟨ua, uc, rfl, hb3⟩; have E0 := Lib.hid (keptB D0.out hb3); have E1 := Lib.hid (keptB D1.out hb3); have E2 := Lib.hid (keptB D2.out hb3); have E3 := Lib.hid (keptB D3.out hb3); have HB3 := Lib.hid (HDV.out.trans (hb3.mono HDV.out.size)); obtain ⟨r0, r1', r2', rz⟩ := three E2.out; obtain ⟨o0, o1, o2, o3, o4, oz, of⟩ := five E3.out; clear hb3)
                | (go_at_call 71; refine (CP.out V.drew HDV'.out).mono ?_; rintro e w3 ⟨ua, uc, rfl, hb3⟩; have E0 := Lib.hid (keptB F0.out hb3); have E1 := Lib.hid (keptB F1.out hb3); have E2 := Lib.hid (keptB F2.out hb3); have E3 := Lib.hid (trivial : True); have HB3 := Lib.hid (HDV'.out.trans (hb3.mono HDV'.out.size)); obtain ⟨r0, r1', r2', rz⟩ := three E2.out; clear hb3))
              all_goals (go_wp2_with fail; go_meet; first | exact ⟨_, ua, uc, rfl, setFive E3.out _ _ _ _ _, by omega, (fiveOnly w3 _ _ _ _ _ _).block _ (by omega) (by omega) |>.trans E0.out, (fiveOnly w3 _ _ _ _ _ _).block _ (by omega) (by omega) |>.trans E1.out, (fiveOnly w3 _ _ _ _ _ _).block _ (by omega) (by omega) |>.trans E2.out, ((((HB3.out.setCell (by simp; omega) _).setCell (by simp; omega) _).setCell (by simp; omega) _).setCell (by simp; omega) _).setCell (by simp; omega) _⟩ | exact ⟨_, ua, uc, rfl, heap_alloc_new w3 _, by omega, keptB E0.out (new1 _ _), keptB E1.out (new1 _ _), keptB E2.out (new1 _ _), HB3.out.alloc HB3.out.size _⟩)
            case rest =>
            obtain ⟨O, ua, uc, rfl, O0, hO, X0, X1, X2, hbx⟩ := hcut
            clear b0 b1 b2 bz a0 a1 a2 az q0 q1 q2 q3 q4 qz qf V0 V1 V2 HBV
            obtain ⟨b0, b1, b2, bz⟩ := three X2
            obtain ⟨p0, p1, p2, p3, p4, pz, pf⟩ := five O0
            have bf : ∀ o, wc.frozen? ⟨w.heap.size + 1 + 1, o, none⟩ = false := fun o => by simp [World.frozen?, X2]
            go_upto_region 15 with fail
            have S1 : Only (w.heap.size + 1 + 1) wc (wc.setCell ⟨w.heap.size + 1 + 1, 1, none⟩ (Value.int .i64 (burst - 1))) := Only.setCell 1 _
            have Q6 : (wc.setCell ⟨w.heap.size + 1 + 1, 1, none⟩ (Value.int .i64 (burst - 1))).heap[w.heap.size + 1 + 1]? = some (.cells #[str st, .int .i64 (burst - 1), .int .i64 now] 71) ∧ (wc.setCell ⟨w.heap.size + 1 + 1, 1, none⟩ (Value.int .i64 (burst - 1))).heap[w.heap.size]? = some (.cells #[.int .i64 rate, .int .i64 burst, .slice (some ⟨g, off, none⟩) n cap] 36) ∧ (wc.setCell ⟨w.heap.size + 1 + 1, 1, none⟩ (Value.int .i64 (burst - 1))).heap[w.heap.size + 1]? = some (.cells #[.int .i64 0, .int .i64 0, .slice none 0 0, .bool false, .int .i64 0] 41) ∧ (wc.setCell ⟨w.heap.size + 1 + 1, 1, none⟩ (Value.int .i64 (burst - 1))).heap[O]? = _ ∧ Below w.heap.size w (wc.setCell ⟨w.heap.size + 1 + 1, 1, none⟩ (Value.int .i64 (burst - 1))) :=
              ⟨heap_setCell_same wc _ 1 _ _ _ X2, (S1.block _ (by omega) (by omega)).trans X0, (S1.block _ (by omega) (by omega)).trans X1, (S1.block _ (by omega) (by omega)).trans O0, hbx.setCell (by simp; omega) _⟩
            generalize hU : wc.setCell ⟨w.heap.size + 1 + 1, 1, none⟩ (Value.int .i64 (burst - 1)) = U at Q6
            obtain ⟨U2, U0, U1, UO, hbu⟩ := Q6
            clear hU S1 bf X0 X1 X2 O0 hbx b0 b1 b2 bz p0 p1 p2 p3 p4 pz pf
            obtain ⟨a0, a1, a2, az⟩ := three U0
            have HU := Lib.hid hbu
            have hOz : O < U.heap.size := (Array.getElem?_eq_some_iff.1 UO).1
            have hUz : w.heap.size + 1 + 1 < U.heap.size := by omega
            have hu1 : Below U.heap.size U (U.alloc (.cells #[] 71)) := new1 _ _
            have C1 := Lib.hid (fun j u hj => flat_cells (fun j b hb => (HCW.out _ (hbu.trans (hu1.mono hbu.size)) j b (by rw [List.getElem?_take] at hb; split at hb; exact hb; cases hb))) (l := l.take k) j u hj)
            have htk : (l.take k).length = k := by rw [List.length_take]; have := HN.out; omega
            have HTK := Lib.hid htk
            have HE := Lib.hid (Bks.empty U U.heap.size (Nat.le_refl _))
            clear hbu htk hu1
            have hkn : k ≤ n := by omega
            have C3 := Lib.hid (fun W (kW : Below w.heap.size w W) j u hj => flat_cells (w := W) (g := g) (off := off + (k) * 3) (fun j b hb => by rw [show off + (k) * 3 + j * 3 = off + (k + j) * 3 by omega]; exact HCW.out W kW _ b (by rw [List.getElem?_drop] at hb; exact hb)) (l := l.drop (k)) j u hj)
            have HDL := Lib.hid (show (l.drop (k)).length = n - (k) by rw [List.length_drop, HN.out])
            have HTT := Lib.hid (show (l.take k ++ [(⟨st, burst - 1, now⟩ : Bk)]).length + (n - (k)) ≤ 1000000 by rw [List.length_append, HTK.out]; simp; omega)
            by_cases hcx : cap ≤ k
            · exfalso; omega
            · have hck : k < cap := by omega
              clear hcx
              go_wp2_with (first
                | (at_builtin; refine wp_putBn (.tmp 95) (.tmp 99) ⟨g, off, none⟩ k cap (l.take k) U.heap.size _ [] rfl rfl rfl HE.out rfl HTK.out (fun j u hj => by rw [Addr.add_lit]; exact C1.out j u hj) (by simp; omega) (by simp) ?_; intro v1 w4 hv1 hb4; rw [List.nil_append] at hv1; obtain ⟨ta, tc, hu⟩ := hv1.wbk.rbk.form; rw [HTK.out] at hu; subst hu; have HV1 := Lib.hid hv1; have HB4 := Lib.hid hb4; have z4 := hb4.size; have hk4 := fun i hi => (hb4.block i hi).trans (Below.heap_alloc U _ _ hi); have Y0 := (hk4 _ az).trans U0; have Y1 := (hk4 _ (by omega)).trans U1; have Y2 := (hk4 _ (by omega)).trans U2; have YO := (hk4 _ hOz).trans UO; clear a0 a1 a2 hv1 hb4; obtain ⟨a0, a1, a2, az4⟩ := three Y0; obtain ⟨e0, e1', e2, ez⟩ := three Y2; rw [World.size_alloc] at z4)
                | (at_builtin; refine wp_putB (.tmp 101) (.tmp 103) ⟨st, burst - 1, now⟩ U.heap.size _ (l.take k) rfl rfl rfl HV1.out rfl (by rw [HTK.out]; omega) (by omega) ?_; intro v2 w5 hv2 hb5; obtain ⟨ta2, tc2, hu2⟩ := hv2.wbk.rbk.form; have htn : (l.take k ++ [(⟨st, burst - 1, now⟩ : Bk)]).length = k + 1 := (by rw [List.length_append, HTK.out]; rfl); rw [htn] at hu2; subst hu2; have HV2 := Lib.hid hv2; have HB5 := Lib.hid hb5; have z5 := hb5.size; have G0 := (hb5.block _ az).trans Y0; have G1 := (hb5.block _ (by omega)).trans Y1; have GO := (hb5.block _ hOz).trans YO; have HW5 := Lib.hid (HU.out.trans (((new1 U (.cells #[] 71)).mono HU.out.size |>.trans (HB4.out.mono HU.out.size)).trans (hb5.mono HU.out.size))); clear a0 a1 a2 e0 e1' e2 ez htn hv2 hb5; obtain ⟨a0, a1, a2, az5⟩ := three G0)
                | (at_builtin; refine wp_putBn (.tmp 108) (.tmp 112) ⟨g, off + (k) * 3, none⟩ (n - (k)) (cap - (k)) (l.drop (k)) U.heap.size (.slice ta2 (k + 1) tc2) (l.take k ++ [⟨st, burst - 1, now⟩]) rfl rfl rfl HV2.out rfl HDL.out (fun j u hj => by rw [Addr.add_lit]; exact C3.out _ HW5.out j u hj) HTT.out (by omega) ?_; intro v3 w6 hv3 hb6; obtain ⟨ta3, tn3, tc3, hu3⟩ : ∃ a n c, v3 = .slice a n c := ⟨_, _, _, hv3.wbk.rbk.form.choose_spec.choose_spec⟩; subst hu3; have HV3 := Lib.hid hv3; have z6 := hb6.size; have H1 := (hb6.block _ (by omega)).trans G1; have HO := (hb6.block _ hOz).trans GO; have HW6 := Lib.hid (HW5.out.trans (hb6.mono HU.out.size)); clear hv3 hb6; obtain ⟨i0, i1, i2, i3, i4, iz, jf⟩ := five HO; obtain ⟨q0, q1, q2, q3, q4, qz, qf⟩ := five H1))
              have hlaid : (l.take k ++ [(⟨st, burst - 1, now⟩ : Bk)]) ++ l.drop (k) = laid l k false ⟨st, burst - 1, now⟩ := by simp [laid]
              have hA2 : A = (rate, burst, laid l k false ⟨st, burst - 1, now⟩, true, 0) := by rw [HA.out, HSO.out]; rfl
              subst hA2
              refine bodyPost_ret (v := .agg #[.int .i64 rate, .int .i64 burst, .slice ta3 tn3 tc3, .bool true, .int .i64 0]) (by simp [results, Try.results45, go_sem, q0, q1, q2, q3, q4]) rfl ⟨_, rfl, ?_, ?_⟩
              · exact (((((HW6.out.setCell (by simp; omega) _).setCell (by simp) _).setCell (by simp) _).setCell (by simp) _).setCell (by simp) _).setCell (by simp) _
              · refine Wbk.base (B := U.heap.size) ?_ (by have := HU.out.size; omega)
                have h := HV3.out.wbk
                rw [hlaid] at h
                exact Wbk.set (Wbk.set (Wbk.set (Wbk.set (Wbk.set (Wbk.set h (by simp; omega) _) (by simp; omega) _) (by simp; omega) _) (by simp; omega) _) (by simp; omega) _) (by simp; omega) _
    · have dlt : decide ((k : Int) < n) = false := decide_eq_false (by omega)
      have hend : l[k]? = none := List.getElem?_eq_none (by have := HN.out; omega)
      have HPL := Lib.hid (show gdm.Place l st k from ⟨by have := HN.out; omega, HLO.out, fun b hb => by rw [hend] at hb; cases hb⟩)
      have ek : placeOf l st = k := place_one (tw_place l st) HPL.out
      have hno : gdm.look l st = none := place_none HPL.out HRI.out (fun b hb => by rw [hend] at hb; cases hb)
      have HNO := Lib.hid hno
      have HEK := Lib.hid ek
      clear hno ek hend
      go_upto_region 6 with fail
      have kV := new1 W (.cells #[str st, .int .i64 (burst), .int .i64 now] 71)
      have Q5 := And.intro (keptB X0.out kV) (And.intro (keptB X1.out kV) (And.intro (heap_alloc_new W (.cells #[str st, .int .i64 (burst), .int .i64 now] 71)) (And.intro (KW.out.trans (kV.mono KW.out.size)) (World.size_alloc W (.cells #[str st, .int .i64 (burst), .int .i64 now] 71)))))
      rw [zW] at Q5
      try simp only [zW]
      clear kV
      generalize hV : W.alloc (.cells #[str st, .int .i64 (burst), .int .i64 now] 71) = V at Q5
      obtain ⟨x0, x1, x2, kV, zV⟩ := Q5
      clear hV
      have V0 := Lib.hid x0
      have V1 := Lib.hid x1
      have V2 := Lib.hid x2
      have HBV := Lib.hid kV
      have CLAIM := trivial
      clear CLAIM a0 a1 a2 az
      obtain ⟨a0, a1, a2, az⟩ := three x0
      obtain ⟨q0, q1, q2, q3, q4, qz, qf⟩ := five x1
      obtain ⟨b0, b1, b2, bz⟩ := three x2
      clear x0 x1 x2 kV
      by_cases hfull : n = 6
      · have d6 : decide (6 ≤ (n : Int)) = true := decide_eq_true (by omega)
        have eA : askO rate burst l st now = ([], false, 9) := by unfold askO; rw [HNO.out]; simp only; rw [if_pos (by have := HN.out; omega)]
        have hA2 : A = (0, 0, [], false, 9) := by rw [HA.out, eA]; rfl
        subst hA2
        clear HA eA
        go_wp2_with fail
        refine bodyPost_ret (v := .agg #[.int .i64 0, .int .i64 0, .slice none 0 0, .bool false, .int .i64 9]) (by simp [results, Try.results45, go_sem, q0, q1, q2, q3, q4]) rfl ⟨_, rfl, ?_, .inl ⟨rfl, _, _, rfl⟩⟩
        exact ((((HBV.out.setCell (by simp) _).setCell (by simp) _).setCell (by simp) _).setCell (by simp) _).setCell (by simp) _
      · have d6 : decide (6 ≤ (n : Int)) = false := decide_eq_false (by omega)
        have dy : decide (0 < burst) = true := decide_eq_true (by omega)
        have wv : IntKind.i64.wrap (burst - 1) = burst - 1 := by rw [IntKind.wrap_i64]; omega
        have HSO := Lib.hid (show askO rate burst l st now = (laid l k false ⟨st, burst - 1, now⟩, true, 0) by unfold askO; rw [HNO.out]; simp only; rw [if_neg (by have := HN.out; omega), HEK.out, less, if_pos m1, decide_eq_true m1])
        go_upto_region 12 with fail
        go_cut [10] (fun s10 wx => ∃ (O : Nat) (ua : Option Addr) (uc : Nat), s10 = .pointer (some ⟨O, 0, none⟩) ∧ wx.heap[O]? = some (.cells #[.int .i64 rate, .int .i64 burst, .slice ua n uc, .bool true, .int .i64 0] 41) ∧ w.heap.size + 1 + 1 < O ∧ wx.heap[w.heap.size]? = some (.cells #[.int .i64 rate, .int .i64 burst, .slice (some ⟨g, off, none⟩) n cap] 36) ∧ wx.heap[w.heap.size + 1]? = some (.cells #[.int .i64 0, .int .i64 0, .slice none 0 0, .bool false, .int .i64 0] 41) ∧ wx.heap[w.heap.size + 1 + 1]? = some (.cells #[str st, .int .i64 (burst), .int .i64 now] 71) ∧ Below w.heap.size w wx)
        case first =>
          have kA := new1 V (.cells #[.int .i64 0, .int .i64 0, .slice none 0 0, .bool false, .int .i64 0] 41)
          have HDV := Lib.hid ((HBV.out.trans (kA.mono HBV.out.size)).trans ((Still.drewN (V.alloc (.cells #[.int .i64 0, .int .i64 0, .slice none 0 0, .bool false, .int .i64 0] 41)) 1).below _))
          have K0 := keptB V0.out kA
          have K1 := keptB V1.out kA
          have K2 := keptB V2.out kA
          have K3 := heap_alloc_new V (.cells #[.int .i64 0, .int .i64 0, .slice none 0 0, .bool false, .int .i64 0] 41)
          have D0 := Lib.hid (show ((V.alloc (.cells #[.int .i64 0, .int .i64 0, .slice none 0 0, .bool false, .int .i64 0] 41)).drew).heap[w.heap.size]? = _ from K0)
          have D1 := Lib.hid (show ((V.alloc (.cells #[.int .i64 0, .int .i64 0, .slice none 0 0, .bool false, .int .i64 0] 41)).drew).heap[w.heap.size + 1]? = _ from K1)
          have D2 := Lib.hid (show ((V.alloc (.cells #[.int .i64 0, .int .i64 0, .slice none 0 0, .bool false, .int .i64 0] 41)).drew).heap[w.heap.size + 1 + 1]? = _ from K2)
          have D3 := Lib.hid (show ((V.alloc (.cells #[.int .i64 0, .int .i64 0, .slice none 0 0, .bool false, .int .i64 0] 41)).drew).heap[V.heap.size]? = _ from K3)
          try rw [zV] at D3
          have HDV' := Lib.hid (HBV.out.trans ((Still.drewN V 1).below _))
          have F0 := Lib.hid (show (V.drew).heap[w.heap.size]? = _ from V0.out)
          have F1 := Lib.hid (show (V.drew).heap[w.heap.size + 1]? = _ from V1.out)
          have F2 := Lib.hid (show (V.drew).heap[w.heap.size + 1 + 1]? = _ from V2.out)
          clear kA K0 K1 K2 K3
          go_region_with (first
            | (go_at_call 71; refine (CP.out ((V.alloc (.cells #[.int .i64 0, .int .i64 0, .slice none 0 0, .bool false, .int .i64 0] 41)).drew) HDV.out).mono ?_; rintro e w3 ⟨ua, uc, rfl, hb3⟩; have E0 := Lib.hid (keptB D0.out hb3); have E1 := Lib.hid (keptB D1.out hb3); have E2 := Lib.hid (keptB D2.out hb3); have E3 := Lib.hid (keptB D3.out hb3); have HB3 := Lib.hid (HDV.out.trans (hb3.mono HDV.out.size)); obtain ⟨r0, r1', r2', rz⟩ := three E2.out; obtain ⟨o0, o1, o2, o3, o4, oz, of⟩ := five E3.out; clear hb3)
            | (go_at_call 71; refine (CP.out V.drew HDV'.out).mono ?_; rintro e w3 ⟨ua, uc, rfl, hb3⟩; have E0 := Lib.hid (keptB F0.out hb3); have E1 := Lib.hid (keptB F1.out hb3); have E2 := Lib.hid (keptB F2.out hb3); have E3 := Lib.hid (trivial : True); have HB3 := Lib.hid (HDV'.out.trans (hb3.mono HDV'.out.size)); obtain ⟨r0, r1', r2', rz⟩ := three E2.out; clear hb3))
          all_goals (go_wp2_with fail; go_meet; first | exact ⟨_, ua, uc, rfl, setFive E3.out _ _ _ _ _, by omega, (fiveOnly w3 _ _ _ _ _ _).block _ (by omega) (by omega) |>.trans E0.out, (fiveOnly w3 _ _ _ _ _ _).block _ (by omega) (by omega) |>.trans E1.out, (fiveOnly w3 _ _ _ _ _ _).block _ (by omega) (by omega) |>.trans E2.out, ((((HB3.out.setCell (by simp; omega) _).setCell (by simp; omega) _).setCell (by simp; omega) _).setCell (by simp; omega) _).setCell (by simp; omega) _⟩ | exact ⟨_, ua, uc, rfl, heap_alloc_new w3 _, by omega, keptB E0.out (new1 _ _), keptB E1.out (new1 _ _), keptB E2.out (new1 _ _), HB3.out.alloc HB3.out.size _⟩)
        case rest =>
        obtain ⟨O, ua, uc, rfl, O0, hO, X0, X1, X2, hbx⟩ := hcut
        clear b0 b1 b2 bz a0 a1 a2 az q0 q1 q2 q3 q4 qz qf V0 V1 V2 HBV
        obtain ⟨b0, b1, b2, bz⟩ := three X2
        obtain ⟨p0, p1, p2, p3, p4, pz, pf⟩ := five O0
        have bf : ∀ o, wc.frozen? ⟨w.heap.size + 1 + 1, o, none⟩ = false := fun o => by simp [World.frozen?, X2]
        go_upto_region 15 with fail
        have S1 : Only (w.heap.size + 1 + 1) wc (wc.setCell ⟨w.heap.size + 1 + 1, 1, none⟩ (Value.int .i64 (burst - 1))) := Only.setCell 1 _
        have Q6 : (wc.setCell ⟨w.heap.size + 1 + 1, 1, none⟩ (Value.int .i64 (burst - 1))).heap[w.heap.size + 1 + 1]? = some (.cells #[str st, .int .i64 (burst - 1), .int .i64 now] 71) ∧ (wc.setCell ⟨w.heap.size + 1 + 1, 1, none⟩ (Value.int .i64 (burst - 1))).heap[w.heap.size]? = some (.cells #[.int .i64 rate, .int .i64 burst, .slice (some ⟨g, off, none⟩) n cap] 36) ∧ (wc.setCell ⟨w.heap.size + 1 + 1, 1, none⟩ (Value.int .i64 (burst - 1))).heap[w.heap.size + 1]? = some (.cells #[.int .i64 0, .int .i64 0, .slice none 0 0, .bool false, .int .i64 0] 41) ∧ (wc.setCell ⟨w.heap.size + 1 + 1, 1, none⟩ (Value.int .i64 (burst - 1))).heap[O]? = _ ∧ Below w.heap.size w (wc.setCell ⟨w.heap.size + 1 + 1, 1, none⟩ (Value.int .i64 (burst - 1))) :=
          ⟨heap_setCell_same wc _ 1 _ _ _ X2, (S1.block _ (by omega) (by omega)).trans X0, (S1.block _ (by omega) (by omega)).trans X1, (S1.block _ (by omega) (by omega)).trans O0, hbx.setCell (by simp; omega) _⟩
        generalize hU : wc.setCell ⟨w.heap.size + 1 + 1, 1, none⟩ (Value.int .i64 (burst - 1)) = U at Q6
        obtain ⟨U2, U0, U1, UO, hbu⟩ := Q6
        clear hU S1 bf X0 X1 X2 O0 hbx b0 b1 b2 bz p0 p1 p2 p3 p4 pz pf
        obtain ⟨a0, a1, a2, az⟩ := three U0
        have HU := Lib.hid hbu
        have hOz : O < U.heap.size := (Array.getElem?_eq_some_iff.1 UO).1
        have hUz : w.heap.size + 1 + 1 < U.heap.size := by omega
        have hu1 : Below U.heap.size U (U.alloc (.cells #[] 71)) := new1 _ _
        have C1 := Lib.hid (fun j u hj => flat_cells (fun j b hb => (HCW.out _ (hbu.trans (hu1.mono hbu.size)) j b (by rw [List.getElem?_take] at hb; split at hb; exact hb; cases hb))) (l := l.take k) j u hj)
        have htk : (l.take k).length = k := by rw [List.length_take]; have := HN.out; omega
        have HTK := Lib.hid htk
        have HE := Lib.hid (Bks.empty U U.heap.size (Nat.le_refl _))
        clear hbu htk hu1
        have hkn : k ≤ n := by omega
        have C3 := Lib.hid (fun W (kW : Below w.heap.size w W) j u hj => flat_cells (w := W) (g := g) (off := off + (k) * 3) (fun j b hb => by rw [show off + (k) * 3 + j * 3 = off + (k + j) * 3 by omega]; exact HCW.out W kW _ b (by rw [List.getElem?_drop] at hb; exact hb)) (l := l.drop (k)) j u hj)
        have HDL := Lib.hid (show (l.drop (k)).length = n - (k) by rw [List.length_drop, HN.out])
        have HTT := Lib.hid (show (l.take k ++ [(⟨st, burst - 1, now⟩ : Bk)]).length + (n - (k)) ≤ 1000000 by rw [List.length_append, HTK.out]; simp; omega)
        by_cases hcx : cap ≤ k
        · have hck : ¬ (k < cap) := by omega
          clear hcx
          go_wp2_with (first
            | (at_builtin; refine wp_putBn (.tmp 95) (.tmp 99) ⟨g, off, none⟩ k cap (l.take k) U.heap.size _ [] rfl rfl rfl HE.out rfl HTK.out (fun j u hj => by rw [Addr.add_lit]; exact C1.out j u hj) (by simp; omega) (by simp) ?_; intro v1 w4 hv1 hb4; rw [List.nil_append] at hv1; obtain ⟨ta, tc, hu⟩ := hv1.wbk.rbk.form; rw [HTK.out] at hu; subst hu; have HV1 := Lib.hid hv1; have HB4 := Lib.hid hb4; have z4 := hb4.size; have hk4 := fun i hi => (hb4.block i hi).trans (Below.heap_alloc U _ _ hi); have Y0 := (hk4 _ az).trans U0; have Y1 := (hk4 _ (by omega)).trans U1; have Y2 := (hk4 _ (by omega)).trans U2; have YO := (hk4 _ hOz).trans UO; clear a0 a1 a2 hv1 hb4; obtain ⟨a0, a1, a2, az4⟩ := three Y0; obtain ⟨e0, e1', e2, ez⟩ := three Y2; rw [World.size_alloc] at z4)
            | (at_builtin; refine wp_putB (.tmp 101) (.tmp 103) ⟨st, burst - 1, now⟩ U.heap.size _ (l.take k) rfl rfl rfl HV1.out rfl (by rw [HTK.out]; omega) (by omega) ?_; intro v2 w5 hv2 hb5; obtain ⟨ta2, tc2, hu2⟩ := hv2.wbk.rbk.form; have htn : (l.take k ++ [(⟨st, burst - 1, now⟩ : Bk)]).length = k + 1 := (by rw [List.length_append, HTK.out]; rfl); rw [htn] at hu2; subst hu2; have HV2 := Lib.hid hv2; have HB5 := Lib.hid hb5; have z5 := hb5.size; have G0 := (hb5.block _ az).trans Y0; have G1 := (hb5.block _ (by omega)).trans Y1; have GO := (hb5.block _ hOz).trans YO; have HW5 := Lib.hid (HU.out.trans (((new1 U (.cells #[] 71)).mono HU.out.size |>.trans (HB4.out.mono HU.out.size)).trans (hb5.mono HU.out.size))); clear a0 a1 a2 e0 e1' e2 ez htn hv2 hb5; obtain ⟨a0, a1, a2, az5⟩ := three G0)
            | (at_builtin; refine wp_putBn (.tmp 108) (.tmp 112) ⟨g, off + (k) * 3, none⟩ (n - (k)) (cap - (k)) (l.drop (k)) U.heap.size (.slice ta2 (k + 1) tc2) (l.take k ++ [⟨st, burst - 1, now⟩]) rfl rfl rfl HV2.out rfl HDL.out (fun j u hj => by rw [Addr.add_lit]; exact C3.out _ HW5.out j u hj) HTT.out (by omega) ?_; intro v3 w6 hv3 hb6; obtain ⟨ta3, tn3, tc3, hu3⟩ : ∃ a n c, v3 = .slice a n c := ⟨_, _, _, hv3.wbk.rbk.form.choose_spec.choose_spec⟩; subst hu3; have HV3 := Lib.hid hv3; have z6 := hb6.size; have H1 := (hb6.block _ (by omega)).trans G1; have HO := (hb6.block _ hOz).trans GO; have HW6 := Lib.hid (HW5.out.trans (hb6.mono HU.out.size)); clear hv3 hb6; obtain ⟨i0, i1, i2, i3, i4, iz, jf⟩ := five HO; obtain ⟨q0, q1, q2, q3, q4, qz, qf⟩ := five H1)
            | (at_builtin; refine wp_putBn (.tmp 108) (.tmp 112) ⟨g, off, none⟩ (n - (k)) 0 (l.drop (k)) U.heap.size (.slice ta2 (k + 1) tc2) (l.take k ++ [⟨st, burst - 1, now⟩]) rfl rfl rfl HV2.out rfl HDL.out (fun j u hj => by have := HDL.out; rw [List.length_eq_zero_iff.1 (show (l.drop (k)).length = 0 by omega)] at hj; simp at hj) HTT.out (by omega) ?_; intro v3 w6 hv3 hb6; obtain ⟨ta3, tn3, tc3, hu3⟩ : ∃ a n c, v3 = .slice a n c := ⟨_, _, _, hv3.wbk.rbk.form.choose_spec.choose_spec⟩; subst hu3; have HV3 := Lib.hid hv3; have z6 := hb6.size; have H1 := (hb6.block _ (by omega)).trans G1; have HO := (hb6.block _ hOz).trans GO; have HW6 := Lib.hid (HW5.out.trans (hb6.mono HU.out.size)); clear hv3 hb6; obtain ⟨i0, i1, i2, i3, i4, iz, jf⟩ := five HO; obtain ⟨q0, q1, q2, q3, q4, qz, qf⟩ := five H1)
            | (at_builtin; refine wp_putBn (.tmp 108) (.tmp 112) ⟨g, off, none⟩ (n - (k)) (cap - (k)) (l.drop (k)) U.heap.size (.slice ta2 (k + 1) tc2) (l.take k ++ [⟨st, burst - 1, now⟩]) rfl rfl rfl HV2.out rfl HDL.out (fun j u hj => by have := HDL.out; rw [List.length_eq_zero_iff.1 (show (l.drop (k)).length = 0 by omega)] at hj; simp at hj) HTT.out (by omega) ?_; intro v3 w6 hv3 hb6; obtain ⟨ta3, tn3, tc3, hu3⟩ : ∃ a n c, v3 = .slice a n c := ⟨_, _, _, hv3.wbk.rbk.form.choose_spec.choose_spec⟩; subst hu3; have HV3 := Lib.hid hv3; have z6 := hb6.size; have H1 := (hb6.block _ (by omega)).trans G1; have HO := (hb6.block _ hOz).trans GO; have HW6 := Lib.hid (HW5.out.trans (hb6.mono HU.out.size)); clear hv3 hb6; obtain ⟨i0, i1, i2, i3, i4, iz, jf⟩ := five HO; obtain ⟨q0, q1, q2, q3, q4, qz, qf⟩ := five H1))
          have hlaid : (l.take k ++ [(⟨st, burst - 1, now⟩ : Bk)]) ++ l.drop (k) = laid l k false ⟨st, burst - 1, now⟩ := by simp [laid]
          have hA2 : A = (rate, burst, laid l k false ⟨st, burst - 1, now⟩, true, 0) := by rw [HA.out, HSO.out]; rfl
          subst hA2
          refine bodyPost_ret (v := .agg #[.int .i64 rate, .int .i64 burst, .slice ta3 tn3 tc3, .bool true, .int .i64 0]) (by simp [results, Try.results45, go_sem, q0, q1, q2, q3, q4]) rfl ⟨_, rfl, ?_, ?_⟩
          · exact (((((HW6.out.setCell (by simp; omega) _).setCell (by simp) _).setCell (by simp) _).setCell (by simp) _).setCell (by simp) _).setCell (by simp) _
          · refine Wbk.base (B := U.heap.size) ?_ (by have := HU.out.size; omega)
            have h := HV3.out.wbk
            rw [hlaid] at h
            exact Wbk.set (Wbk.set (Wbk.set (Wbk.set (Wbk.set (Wbk.set h (by simp; omega) _) (by simp; omega) _) (by simp; omega) _) (by simp; omega) _) (by simp; omega) _) (by simp; omega) _
        · have hck : k < cap := by omega
          clear hcx
          go_wp2_with (first
            | (at_builtin; refine wp_putBn (.tmp 95) (.tmp 99) ⟨g, off, none⟩ k cap (l.take k) U.heap.size _ [] rfl rfl rfl HE.out rfl HTK.out (fun j u hj => by rw [Addr.add_lit]; exact C1.out j u hj) (by simp; omega) (by simp) ?_; intro v1 w4 hv1 hb4; rw [List.nil_append] at hv1; obtain ⟨ta, tc, hu⟩ := hv1.wbk.rbk.form; rw [HTK.out] at hu; subst hu; have HV1 := Lib.hid hv1; have HB4 := Lib.hid hb4; have z4 := hb4.size; have hk4 := fun i hi => (hb4.block i hi).trans (Below.heap_alloc U _ _ hi); have Y0 := (hk4 _ az).trans U0; have Y1 := (hk4 _ (by omega)).trans U1; have Y2 := (hk4 _ (by omega)).trans U2; have YO := (hk4 _ hOz).trans UO; clear a0 a1 a2 hv1 hb4; obtain ⟨a0, a1, a2, az4⟩ := three Y0; obtain ⟨e0, e1', e2, ez⟩ := three Y2; rw [World.size_alloc] at z4)
            | (at_builtin; refine wp_putB (.tmp 101) (.tmp 103) ⟨st, burst - 1, now⟩ U.heap.size _ (l.take k) rfl rfl rfl HV1.out rfl (by rw [HTK.out]; omega) (by omega) ?_; intro v2 w5 hv2 hb5; obtain ⟨ta2, tc2, hu2⟩ := hv2.wbk.rbk.form; have htn : (l.take k ++ [(⟨st, burst - 1, now⟩ : Bk)]).length = k + 1 := (by rw [List.length_append, HTK.out]; rfl); rw [htn] at hu2; subst hu2; have HV2 := Lib.hid hv2; have HB5 := Lib.hid hb5; have z5 := hb5.size; have G0 := (hb5.block _ az).trans Y0; have G1 := (hb5.block _ (by omega)).trans Y1; have GO := (hb5.block _ hOz).trans YO; have HW5 := Lib.hid (HU.out.trans (((new1 U (.cells #[] 71)).mono HU.out.size |>.trans (HB4.out.mono HU.out.size)).trans (hb5.mono HU.out.size))); clear a0 a1 a2 e0 e1' e2 ez htn hv2 hb5; obtain ⟨a0, a1, a2, az5⟩ := three G0)
            | (at_builtin; refine wp_putBn (.tmp 108) (.tmp 112) ⟨g, off + (k) * 3, none⟩ (n - (k)) (cap - (k)) (l.drop (k)) U.heap.size (.slice ta2 (k + 1) tc2) (l.take k ++ [⟨st, burst - 1, now⟩]) rfl rfl rfl HV2.out rfl HDL.out (fun j u hj => by rw [Addr.add_lit]; exact C3.out _ HW5.out j u hj) HTT.out (by omega) ?_; intro v3 w6 hv3 hb6; obtain ⟨ta3, tn3, tc3, hu3⟩ : ∃ a n c, v3 = .slice a n c := ⟨_, _, _, hv3.wbk.rbk.form.choose_spec.choose_spec⟩; subst hu3; have HV3 := Lib.hid hv3; have z6 := hb6.size; have H1 := (hb6.block _ (by omega)).trans G1; have HO := (hb6.block _ hOz).trans GO; have HW6 := Lib.hid (HW5.out.trans (hb6.mono HU.out.size)); clear hv3 hb6; obtain ⟨i0, i1, i2, i3, i4, iz, jf⟩ := five HO; obtain ⟨q0, q1, q2, q3, q4, qz, qf⟩ := five H1))
          have hlaid : (l.take k ++ [(⟨st, burst - 1, now⟩ : Bk)]) ++ l.drop (k) = laid l k false ⟨st, burst - 1, now⟩ := by simp [laid]
          have hA2 : A = (rate, burst, laid l k false ⟨st, burst - 1, now⟩, true, 0) := by rw [HA.out, HSO.out]; rfl
          subst hA2
          refine bodyPost_ret (v := .agg #[.int .i64 rate, .int .i64 burst, .slice ta3 tn3 tc3, .bool true, .int .i64 0]) (by simp [results, Try.results45, go_sem, q0, q1, q2, q3, q4]) rfl ⟨_, rfl, ?_, ?_⟩
          · exact (((((HW6.out.setCell (by simp; omega) _).setCell (by simp) _).setCell (by simp) _).setCell (by simp) _).setCell (by simp) _).setCell (by simp) _
          · refine Wbk.base (B := U.heap.size) ?_ (by have := HU.out.size; omega)
            have h := HV3.out.wbk
            rw [hlaid] at h
            exact Wbk.set (Wbk.set (Wbk.set (Wbk.set (Wbk.set (Wbk.set h (by simp; omega) _) (by simp; omega) _) (by simp; omega) _) (by simp; omega) _) (by simp; omega) _) (by simp; omega) _
end Go.Proofs.Ytdikjmhnjlalbaa.gsa
