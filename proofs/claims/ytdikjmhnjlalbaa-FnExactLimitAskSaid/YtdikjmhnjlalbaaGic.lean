/- Contract of LimitClean of the program. -/
import Derived.Test.YtdikjmhnjlalbaaGof
import Derived.Test.YtdikjmhnjlalbaaGcl
import Derived.Test.YtdikjmhnjlalbaaGli
import Derived.Test.YtdikjmhnjlalbaaLmr
import Derived.Test.YtdikjmhnjlalbaaBlo
namespace Go.Proofs.Ytdikjmhnjlalbaa.gic
open Go.RowKit Go.Sort Go.Maps Go.Proofs.Ytdikjmhnjlalbaa.tm Go.Proofs.Ytdikjmhnjlalbaa.lib Go.Proofs.Ytdikjmhnjlalbaa.rdr Go.Proofs.Ytdikjmhnjlalbaa.bld Go.Proofs.Ytdikjmhnjlalbaa.ltp Go.Proofs.Ytdikjmhnjlalbaa.gdp Go.Proofs.Ytdikjmhnjlalbaa.gdm Go.Proofs.Ytdikjmhnjlalbaa.rbk Go.Proofs.Ytdikjmhnjlalbaa.bkr Go.Proofs.Ytdikjmhnjlalbaa.gmp Go.Proofs.Ytdikjmhnjlalbaa.glh Go.Proofs.Ytdikjmhnjlalbaa.gac Go.Proofs.Ytdikjmhnjlalbaa.gcl Go.Proofs.Ytdikjmhnjlalbaa.blo
set_option linter.unusedVariables false

/-- No text of a limit is greater than all that may come in. -/
structure Small (l : List Bk) : Prop where
  len : l.length ≤ 1048576
  each : ∀ b ∈ l, b.st.length ≤ 1048576

/-- What LimitClean tells: Rate, Burst, Buckets, Code. -/
def clR (rate burst : Int) (l : List Bk) (now : Int) : Int × Int × List Bk × Int :=
  if limR rate burst l && timeR now then (rate, burst, cleanR rate burst l now, 0) else (0, 0, [], 1)

theorem clR_le (rate burst : Int) (l : List Bk) (now : Int) : (clR rate burst l now).2.2.1.length ≤ l.length + 1 := by
  unfold clR
  split
  · have := List.length_filter_le (stays rate burst now) l
    show (cleanR rate burst l now).length ≤ _
    unfold cleanR
    omega
  · simp
theorem nums_of {rate burst : Int} {l : List Bk} (h : limR rate burst l = true) : Nums burst l ∧ (sts l).Nodup ∧ l.length ≤ 6 ∧ 1 ≤ rate ∧ rate ≤ 10 ∧ 1 ≤ burst ∧ burst ≤ 100 := by
  have k := limOk h
  refine ⟨fun b hb => ?_, rise_nodup k.rise, k.few, k.r1, k.r2, k.b1, k.b2⟩
  obtain ⟨h1, h2, h3, h4, h5⟩ := k.each b hb
  have := (atomR_len h1).2
  exact ⟨by omega, h2, h3, h4, h5⟩

set_option maxHeartbeats 4000000 in
set_option maxRecDepth 100000 in
theorem implClean_calls (rate burst now : Int) (v : Value) (l : List Bk) (w : World) (h : Rbk w v l) (hl : l.length ≤ 2000000) (hs : ∀ b ∈ l, b.st.length ≤ 4000000) :
    Calls Try.prog 26 #[.agg (lmA rate burst v), .int .i64 now] w fun e w' => ∃ u, e = .returned (.agg (loA (clR rate burst l now).1 (clR rate burst l now).2.1 u false (clR rate burst l now).2.2.2)) ∧ Below w.heap.size w w' ∧ Wbk w' w.heap.size u (clR rate burst l now).2.2.1 := by
  obtain ⟨ad, cap, rfl⟩ := h.form
  have il := fun w' (k : Below w.heap.size w w') => lmr.implLim_calls rate burst (.slice ad l.length cap) l w' (h.below k) hl (fun b hb => by have := hs b hb; omega)
  have hmf : ∀ (fn : Fn) (first cap : Array Value) (w : World), (Instr.makeFunc fn first cap).run Try.prog w = .ok (.func fn first cap) w := fun _ _ _ _ => rfl
  unfold lmA at il ⊢
  have W3 := new3 w (.cells #[.int .i64 rate, .int .i64 burst, .slice ad l.length cap] 36) (.cells #[.int .i64 now] 2) (.cells #[.int .i64 0, .int .i64 0, .slice none 0 0, .bool false, .int .i64 0] 41)
  obtain ⟨x0, x1, x2⟩ := gli.alloc3 w (.cells #[.int .i64 rate, .int .i64 burst, .slice ad l.length cap] 36) (.cells #[.int .i64 now] 2) (.cells #[.int .i64 0, .int .i64 0, .slice none 0 0, .bool false, .int .i64 0] 41)
  have zz : (((w.alloc (.cells #[.int .i64 rate, .int .i64 burst, .slice ad l.length cap] 36)).alloc (.cells #[.int .i64 now] 2)).alloc (.cells #[.int .i64 0, .int .i64 0, .slice none 0 0, .bool false, .int .i64 0] 41)).heap.size = w.heap.size + 1 + 1 + 1 := by simp
  have Q := And.intro x0 (And.intro x1 (And.intro x2 (And.intro W3 zz)))
  clear x0 x1 x2 W3 zz
  cases hr : limR rate burst l with
  | false =>
    have e1 : clR rate burst l now = (0, 0, [], 1) := by unfold clR; rw [hr]; rfl
    rw [e1]
    simp only [hr] at il
    have IL := Lib.hid il
    clear il hr e1 h hs
    go_enter Try.func26, Try.ntmps26
    go_wp2_with fail
    generalize hW : (((w.alloc (.cells #[.int .i64 rate, .int .i64 burst, .slice ad l.length cap] 36)).alloc (.cells #[.int .i64 now] 2)).alloc (.cells #[.int .i64 0, .int .i64 0, .slice none 0 0, .bool false, .int .i64 0] 41)) = W at Q
    obtain ⟨x0, x1, x2, kW, zW⟩ := Q
    refine (IL.out W kW).mono ?_
    rintro e w1 ⟨rfl, hb⟩
    have X2 := keptB x2 hb
    obtain ⟨q0, q1, q2, q3, q4, qz, qf⟩ := five X2
    have HB := Lib.hid (kW.trans (hb.mono kW.size))
    clear hb x0 x1 x2 X2 hW kW
    go_wp2_with fail
    refine bodyPost_ret (v := .agg #[.int .i64 0, .int .i64 0, .slice none 0 0, .bool false, .int .i64 1]) (by simp [results, Try.results26, go_sem, q0, q1, q2, q3, q4]) rfl ⟨_, rfl, ?_, .inl ⟨rfl, _, _, rfl⟩⟩
    exact ((((HB.out.setCell (by simp; omega) _).setCell (by simp; omega) _).setCell (by simp; omega) _).setCell (by simp; omega) _).setCell (by simp; omega) _
  | true =>
  cases ht : timeR now with
  | false =>
    have e1 : clR rate burst l now = (0, 0, [], 1) := by unfold clR; rw [hr, ht]; rfl
    rw [e1]
    simp only [hr] at il
    have IL := Lib.hid il
    have i2 := lri.isTime_calls now
    rw [ht] at i2
    have I2 := Lib.hid i2
    clear il hr e1 h hs i2 ht
    go_enter Try.func26, Try.ntmps26
    go_wp2_with fail
    generalize hW : (((w.alloc (.cells #[.int .i64 rate, .int .i64 burst, .slice ad l.length cap] 36)).alloc (.cells #[.int .i64 now] 2)).alloc (.cells #[.int .i64 0, .int .i64 0, .slice none 0 0, .bool false, .int .i64 0] 41)) = W at Q
    obtain ⟨x0, x1, x2, kW, zW⟩ := Q
    refine (IL.out W kW).mono ?_
    rintro e w1 ⟨rfl, hb⟩
    have X2 := keptB x2 hb
    have X1 := keptB x1 hb
    obtain ⟨q0, q1, q2, q3, q4, qz, qf⟩ := five X2
    have p0 : w1.cell? ⟨w.heap.size + 1, 0, none⟩ = some (.int .i64 now) := by rw [cell_of_row w1 _ _ _ _ (0, 0) X1]; rfl
    have HB := Lib.hid (kW.trans (hb.mono kW.size))
    clear hb x0 x1 x2 X2 X1 hW kW
    go_wp2_with fail
    refine (I2.out _).mono ?_
    rintro e w2 ⟨rfl, rfl⟩
    go_wp2_with fail
    refine bodyPost_ret (v := .agg #[.int .i64 0, .int .i64 0, .slice none 0 0, .bool false, .int .i64 1]) (by simp [results, Try.results26, go_sem, q0, q1, q2, q3, q4]) rfl ⟨_, rfl, ?_, .inl ⟨rfl, _, _, rfl⟩⟩
    exact ((((HB.out.setCell (by simp; omega) _).setCell (by simp; omega) _).setCell (by simp; omega) _).setCell (by simp; omega) _).setCell (by simp; omega) _
  | true =>
    have e1 : clR rate burst l now = (rate, burst, cleanR rate burst l now, 0) := by unfold clR; rw [hr, ht]; rfl
    rw [e1]
    obtain ⟨hnum, hnd, hl6, r1, r2, b1, b2⟩ := nums_of hr
    obtain ⟨t0, t3⟩ : 0 ≤ now ∧ now ≤ 1000000 := by unfold timeR at ht; simpa using ht
    have hrise := (limOk hr).rise
    simp only [hr] at il
    have IL := Lib.hid il
    have i2 := lri.isTime_calls now
    rw [ht] at i2
    have I2 := Lib.hid i2
    have GO := Lib.hid (fun (p : Nat) (w' : World) (k : Below w.heap.size w w') => gof.gateOf_calls 56 p rate burst (.slice ad l.length cap) l w' (h.below k) (by omega) (fun b hb => by have := (hnum b hb).1; omega) hnd)
    unfold lmA clkV gateA clkV at GO
    have HNUM := Lib.hid hnum
    have HND := Lib.hid hnd
    have HRI := Lib.hid hrise
    clear il hr e1 h hs i2 ht hnum hnd hrise
    go_enter Try.func26, Try.ntmps26
    go_wp2_with fail
    generalize hW : (((w.alloc (.cells #[.int .i64 rate, .int .i64 burst, .slice ad l.length cap] 36)).alloc (.cells #[.int .i64 now] 2)).alloc (.cells #[.int .i64 0, .int .i64 0, .slice none 0 0, .bool false, .int .i64 0] 41)) = W at Q
    obtain ⟨x0, x1, x2, kW, zW⟩ := Q
    refine (IL.out W kW).mono ?_
    rintro e w1 ⟨rfl, hb⟩
    have X0 := keptB x0 hb
    have X2 := Lib.hid (keptB x2 hb)
    have X1 := keptB x1 hb
    obtain ⟨a0, a1, a2, az⟩ := three X0
    have p0 : w1.cell? ⟨w.heap.size + 1, 0, none⟩ = some (.int .i64 now) := by rw [cell_of_row w1 _ _ _ _ (0, 0) X1]; rfl
    have HX1 := Lib.hid X1
    have HB := Lib.hid (kW.trans (hb.mono kW.size))
    have z1 := hb.size
    clear hb x0 x1 x2 X1 X0 hW kW
    go_wp2_with fail
    refine (I2.out _).mono ?_
    rintro e w2 ⟨rfl, rfl⟩
    go_wp2_with fail
    refine (GO.out _ w1 HB.out).mono ?_
    rintro e w2 ⟨rfl, hb, hk⟩
    have HK := Lib.hid hk
    have HB2 := Lib.hid (HB.out.trans (hb.mono HB.out.size))
    have X2b := Lib.hid (keptB X2.out hb)
    have X1b := Lib.hid (keptB HX1.out hb)
    have z2 := hb.size
    have hkl := hk.lt
    clear hb hk a0 a1 a2 p0 az
    go_wp2_with fail
    have k3 := new1 w2 (.cells #[.int .i64 rate, .int .i64 burst, .map (some (w1.heap.size + 1 + 1)), .func (.func 56) #[] #[.pointer (some ⟨w.heap.size + 1, 0, none⟩)]] 79)
    have X1c := keptB X1b.out k3
    have X2c := keptB X2b.out k3
    have G3 := heap_alloc_new w2 (.cells #[.int .i64 rate, .int .i64 burst, .map (some (w1.heap.size + 1 + 1)), .func (.func 56) #[] #[.pointer (some ⟨w.heap.size + 1, 0, none⟩)]] 79)
    have c3 : (w2.alloc (.cells #[.int .i64 rate, .int .i64 burst, .map (some (w1.heap.size + 1 + 1)), .func (.func 56) #[] #[.pointer (some ⟨w.heap.size + 1, 0, none⟩)]] 79)).cell? ⟨w.heap.size + 1, 0, none⟩ = some (.int .i64 now) := by rw [cell_of_row _ _ _ _ _ (0, 0) X1c]; rfl
    have CC := clean_calls 56 clkClean rate burst (w1.heap.size + 1 + 1) (w.heap.size + 1) l.length now l _ c3 (HK.out.below k3 HK.out.lt) (by omega) HNUM.out (by omega) r2 (by omega) b2 t0 t3
    unfold gateA clkV at CC
    refine CC.mono ?_
    rintro e w4 ⟨rfl, hon, M, hkM, hmem⟩
    have X2d := Lib.hid ((hon.block _ (by simp; omega) (by omega)).trans X2c)
    have G4 := (hon.block _ (by simp) (by omega)).trans G3
    obtain ⟨g0, g1, g2, g3, gz⟩ := four G4
    have HB4 := Lib.hid ((HB2.out.trans (k3.mono HB2.out.size)).trans (hon.below (by omega) (by simp; omega)))
    have HMEM := Lib.hid hmem
    have LI := gli.limit_calls 56 rate burst (w1.heap.size + 1 + 1) (w.heap.size + 1) l.length M w4 hkM (by have := gmp.few hkM; omega) (fun c hc => (HNUM.out c ((hmem c).1 hc).1).1)
    unfold gateA clkV lmA at LI
    have HLI := Lib.hid LI
    clear CC LI c3 G3 X1c X2c k3 hmem hkM G4
    have z4 := hon.size
    rw [World.size_alloc] at z4
    clear hon
    go_wp2_with fail
    refine HLI.out.mono ?_
    rintro e w5 ⟨u, R, rfl, hb, hrow, hri, hrm⟩
    have eR : R = cleanR rate burst l now := clean_one HRI.out hri fun c => (hrm c).trans (HMEM.out c)
    subst eR
    obtain ⟨q0, q1, q2, q3, q4, qz, qf⟩ := five (keptB X2d.out hb)
    obtain ⟨ua, un, uc, rfl⟩ : ∃ a n c, u = .slice a n c := ⟨_, _, _, hrow.wbk.rbk.form.choose_spec.choose_spec⟩
    have HB5 := Lib.hid (HB4.out.trans (hb.mono HB4.out.size))
    have HROW := Lib.hid hrow
    clear hb hrow hri hrm g0 g1 g2 g3
    go_wp2_with fail
    refine bodyPost_ret (v := .agg #[.int .i64 rate, .int .i64 burst, .slice ua un uc, .bool false, .int .i64 0]) (by simp [results, Try.results26, go_sem, q0, q1, q2, q3, q4]) rfl ⟨_, rfl, ?_, ?_⟩
    · exact ((((HB5.out.setCell (by simp; omega) _).setCell (by simp; omega) _).setCell (by simp; omega) _).setCell (by simp; omega) _).setCell (by simp; omega) _
    · refine Wbk.base (B := w4.heap.size) ?_ (by omega)
      exact Wbk.set (Wbk.set (Wbk.set (Wbk.set (Wbk.set HROW.out.wbk (by simp; omega) _) (by simp; omega) _) (by simp; omega) _) (by simp; omega) _) (by simp; omega) _
end Go.Proofs.Ytdikjmhnjlalbaa.gic
