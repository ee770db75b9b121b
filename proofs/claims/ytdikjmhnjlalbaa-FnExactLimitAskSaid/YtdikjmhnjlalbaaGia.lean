/- Contract of LimitAsk of the program. Written by wip/gen_gia.py. -/
import Derived.Test.YtdikjmhnjlalbaaGic
import Derived.Test.YtdikjmhnjlalbaaGak
import Derived.Test.YtdikjmhnjlalbaaRbc
namespace Go.Proofs.Ytdikjmhnjlalbaa.gia
open Go.RowKit Go.Sort Go.Maps Go.Proofs.Ytdikjmhnjlalbaa.tm Go.Proofs.Ytdikjmhnjlalbaa.lib Go.Proofs.Ytdikjmhnjlalbaa.rdr Go.Proofs.Ytdikjmhnjlalbaa.bld Go.Proofs.Ytdikjmhnjlalbaa.ltp Go.Proofs.Ytdikjmhnjlalbaa.ato Go.Proofs.Ytdikjmhnjlalbaa.gdp Go.Proofs.Ytdikjmhnjlalbaa.gdm Go.Proofs.Ytdikjmhnjlalbaa.rbk Go.Proofs.Ytdikjmhnjlalbaa.bkr Go.Proofs.Ytdikjmhnjlalbaa.gmp Go.Proofs.Ytdikjmhnjlalbaa.glh Go.Proofs.Ytdikjmhnjlalbaa.gac Go.Proofs.Ytdikjmhnjlalbaa.gak Go.Proofs.Ytdikjmhnjlalbaa.gap Go.Proofs.Ytdikjmhnjlalbaa.gic Go.Proofs.Ytdikjmhnjlalbaa.blo
set_option linter.unusedVariables false

set_option maxRecDepth 100000 in
theorem long_calls (l : Bs) (hl : l.length ≤ 4000000) (b : Bool) (h : decide (8000 < l.length) = b) (w : World) :
    Calls Try.prog 46 #[str l] w fun e w' => e = .returned (.bool b) ∧ w = w' := by
  have d : decide (8000 < (l.length : Int)) = b := by rw [← h]; simp; omega
  clear h
  go_enter Try.func46, Try.ntmps46
  go_wp2_with fail
  go_ret
  exact ⟨rfl, rfl⟩

/-- What ask leaves, as two ways. -/
theorem ask_two {rate burst : Int} {l : List Bk} {st : Bs} {now : Int} {b n : Nat} {w w' : World} {e : Ending} (h : AskE rate burst l st now b n w e w') (hr : Rise (sts l)) (hst : st.length ≤ 1000) (hN : ∀ c ∈ l, c.st.length ≤ 1000) :
    (∃ c : Int, (c = 8 ∨ c = 9) ∧ e = .returned (.tuple #[.bool false, .int .i64 c]) ∧ Below w.heap.size w w' ∧ askO rate burst l st now = ([], false, c)) ∨
    (∃ (y : Bool) (M : List Bk), e = .returned (.tuple #[.bool y, .int .i64 0]) ∧ Only b w w' ∧ Kmp w' b (n + 1) M ∧ (∀ c ∈ M, c.st.length ≤ 1000) ∧ ∀ R, Rise (sts R) → (∀ c, c ∈ R ↔ c ∈ M) → askO rate burst l st now = (R, y, 0)) := by
  have hset : ∀ x : Bk, x.st = st → ∀ c ∈ gdm.set l x, c.st.length ≤ 1000 := fun x hx c hc => by
    rcases mem_set.1 hc with ⟨h1, _⟩ | h1
    · exact hN c h1
    · rw [h1, hx]; exact hst
  have one : ∀ {R : List Bk} {y : Bool} {c : Int}, AskR rate burst l st now R y c → askO rate burst l st now = (R, y, c) := fun h1 => by
    obtain ⟨h2, h3, h4⟩ := (askO_ok rate burst l st now hr).one h1
    exact Prod.ext h2 (Prod.ext h3 h4)
  cases h with
  | late _ k h h2 hb => exact .inl ⟨8, .inl rfl, rfl, hb, one (.late k h h2)⟩
  | full _ h h2 hb => exact .inl ⟨9, .inr rfl, rfl, hb, one (.full h h2)⟩
  | there _ k h h2 ho hm => exact .inr ⟨_, _, rfl, ho, hm, hset _ rfl, fun R h3 h4 => one (.there k R h h2 h3 h4)⟩
  | new _ h h2 ho hm => exact .inr ⟨_, _, rfl, ho, hm, hset _ rfl, fun R h3 h4 => one (.new R h h2 h3 h4)⟩

set_option maxHeartbeats 8000000 in
set_option maxRecDepth 100000 in
theorem implAsk_calls (rate burst now : Int) (v : Value) (l : List Bk) (st : Bs) (w : World) (h : Rbk w v l) (hl : l.length ≤ 2000000) (hs : ∀ b ∈ l, b.st.length ≤ 4000000) (hst : st.length ≤ 4000000) :
    Calls Try.prog 20 #[.agg (lmA rate burst v), str st, .int .i64 now] w fun e w' => ∃ u, e = .returned (.agg (loA (asR rate burst l st now).1 (asR rate burst l st now).2.1 u (asR rate burst l st now).2.2.2.1 (asR rate burst l st now).2.2.2.2)) ∧ Below w.heap.size w w' ∧ Wbk w' w.heap.size u (asR rate burst l st now).2.2.1 := by
  obtain ⟨ad, cap, rfl⟩ := h.form
  have il := fun w' (k : Below w.heap.size w w') => lmr.implLim_calls rate burst (.slice ad l.length cap) l w' (h.below k) hl (fun b hb => by have := hs b hb; omega)
  have hmf : ∀ (fn : Fn) (first cap : Array Value) (w : World), (Instr.makeFunc fn first cap).run Try.prog w = .ok (.func fn first cap) w := fun _ _ _ _ => rfl
  unfold lmA at il ⊢
  have W3 := new3 w (.cells #[.int .i64 rate, .int .i64 burst, .slice ad l.length cap] 36) (.cells #[.int .i64 now] 2) (.cells #[.int .i64 0, .int .i64 0, .slice none 0 0, .bool false, .int .i64 0] 41)
  obtain ⟨x0, x1, x2⟩ := gli.alloc3 w (.cells #[.int .i64 rate, .int .i64 burst, .slice ad l.length cap] 36) (.cells #[.int .i64 now] 2) (.cells #[.int .i64 0, .int .i64 0, .slice none 0 0, .bool false, .int .i64 0] 41)
  have zz : (((w.alloc (.cells #[.int .i64 rate, .int .i64 burst, .slice ad l.length cap] 36)).alloc (.cells #[.int .i64 now] 2)).alloc (.cells #[.int .i64 0, .int .i64 0, .slice none 0 0, .bool false, .int .i64 0] 41)).heap.size = w.heap.size + 1 + 1 + 1 := by simp
  have Q := And.intro x0 (And.intro x1 (And.intro x2 (And.intro W3 zz)))
  clear x0 x1 x2 W3 zz
  by_cases hbig : 8000 < st.length
  · have e1 : asR rate burst l st now = (0, 0, [], false, 2) := by unfold asR; rw [if_pos hbig]
    rw [e1]
    have TL := Lib.hid (fun w => long_calls st hst true (decide_eq_true hbig) w)
    clear il e1 h hs hbig
    go_enter Try.func20, Try.ntmps20
    go_wp2_with fail
    generalize hW : (((w.alloc (.cells #[.int .i64 rate, .int .i64 burst, .slice ad l.length cap] 36)).alloc (.cells #[.int .i64 now] 2)).alloc (.cells #[.int .i64 0, .int .i64 0, .slice none 0 0, .bool false, .int .i64 0] 41)) = W at Q
    obtain ⟨x0, x1, x2, kW, zW⟩ := Q
    refine (TL.out W).mono ?_
    rintro e w0 ⟨rfl, rfl⟩
    obtain ⟨q0, q1, q2, q3, q4, qz, qf⟩ := five x2
    have HB := Lib.hid kW
    clear x0 x1 x2 hW kW
    go_wp2_with fail
    refine bodyPost_ret (v := .agg #[.int .i64 0, .int .i64 0, .slice none 0 0, .bool false, .int .i64 2]) (by simp [results, Try.results20, go_sem, q0, q1, q2, q3, q4]) rfl ⟨_, rfl, ?_, .inl ⟨rfl, _, _, rfl⟩⟩
    exact ((((HB.out.setCell (by simp; omega) _).setCell (by simp; omega) _).setCell (by simp; omega) _).setCell (by simp; omega) _).setCell (by simp; omega) _
  have TL := Lib.hid (fun w => long_calls st hst false (decide_eq_false hbig) w)
  cases hr : limR rate burst l with
  | false =>
    have e1 : asR rate burst l st now = (0, 0, [], false, 1) := by unfold asR; rw [if_neg hbig, hr]; rfl
    rw [e1]
    simp only [hr] at il
    have IL := Lib.hid il
    clear il hr e1 h hs hbig
    go_enter Try.func20, Try.ntmps20
    go_wp2_with fail
    generalize hW : (((w.alloc (.cells #[.int .i64 rate, .int .i64 burst, .slice ad l.length cap] 36)).alloc (.cells #[.int .i64 now] 2)).alloc (.cells #[.int .i64 0, .int .i64 0, .slice none 0 0, .bool false, .int .i64 0] 41)) = W at Q
    obtain ⟨x0, x1, x2, kW, zW⟩ := Q
    refine (TL.out W).mono ?_
    rintro e w0 ⟨rfl, rfl⟩
    obtain ⟨a0, a1, a2, az⟩ := three x0
    go_wp2_with fail
    refine (IL.out W kW).mono ?_
    rintro e w1 ⟨rfl, hb⟩
    have X0 := keptB x0 hb
    have X2 := keptB x2 hb
    have X1 := keptB x1 hb
    clear a0 a1 a2 az
    obtain ⟨a0, a1, a2, az⟩ := three X0
    obtain ⟨q0, q1, q2, q3, q4, qz, qf⟩ := five X2
    have p0 : w1.cell? ⟨w.heap.size + 1, 0, none⟩ = some (.int .i64 now) := by rw [cell_of_row w1 _ _ _ _ (0, 0) X1]; rfl
    have HB := Lib.hid (kW.trans (hb.mono kW.size))
    have z1 := hb.size
    have HX1 := Lib.hid X1
    have HX2 := Lib.hid X2
    clear hb x0 x1 x2 X2 X1 X0 hW kW
    go_wp2_with fail
    refine bodyPost_ret (v := .agg #[.int .i64 0, .int .i64 0, .slice none 0 0, .bool false, .int .i64 1]) (by simp [results, Try.results20, go_sem, q0, q1, q2, q3, q4]) rfl ⟨_, rfl, ?_, .inl ⟨rfl, _, _, rfl⟩⟩
    exact ((((HB.out.setCell (by simp; omega) _).setCell (by simp; omega) _).setCell (by simp; omega) _).setCell (by simp; omega) _).setCell (by simp; omega) _
  | true =>
  cases ha : atomR st with
  | false =>
    have e1 : asR rate burst l st now = (0, 0, [], false, 1) := by unfold asR; rw [if_neg hbig, hr, ha]; rfl
    rw [e1]
    simp only [hr] at il
    have IL := Lib.hid il
    have IA := Lib.hid (fun w => gri.iatom st hst false ha w)
    clear il hr e1 h hs hbig ha
    go_enter Try.func20, Try.ntmps20
    go_wp2_with fail
    generalize hW : (((w.alloc (.cells #[.int .i64 rate, .int .i64 burst, .slice ad l.length cap] 36)).alloc (.cells #[.int .i64 now] 2)).alloc (.cells #[.int .i64 0, .int .i64 0, .slice none 0 0, .bool false, .int .i64 0] 41)) = W at Q
    obtain ⟨x0, x1, x2, kW, zW⟩ := Q
    refine (TL.out W).mono ?_
    rintro e w0 ⟨rfl, rfl⟩
    obtain ⟨a0, a1, a2, az⟩ := three x0
    go_wp2_with fail
    refine (IL.out W kW).mono ?_
    rintro e w1 ⟨rfl, hb⟩
    have X0 := keptB x0 hb
    have X2 := keptB x2 hb
    have X1 := keptB x1 hb
    clear a0 a1 a2 az
    obtain ⟨a0, a1, a2, az⟩ := three X0
    obtain ⟨q0, q1, q2, q3, q4, qz, qf⟩ := five X2
    have p0 : w1.cell? ⟨w.heap.size + 1, 0, none⟩ = some (.int .i64 now) := by rw [cell_of_row w1 _ _ _ _ (0, 0) X1]; rfl
    have HB := Lib.hid (kW.trans (hb.mono kW.size))
    have z1 := hb.size
    have HX1 := Lib.hid X1
    have HX2 := Lib.hid X2
    clear hb x0 x1 x2 X2 X1 X0 hW kW
    go_wp2_with fail
    refine (IA.out _).mono ?_
    rintro e w2 ⟨rfl, rfl⟩
    go_wp2_with fail
    refine bodyPost_ret (v := .agg #[.int .i64 0, .int .i64 0, .slice none 0 0, .bool false, .int .i64 1]) (by simp [results, Try.results20, go_sem, q0, q1, q2, q3, q4]) rfl ⟨_, rfl, ?_, .inl ⟨rfl, _, _, rfl⟩⟩
    exact ((((HB.out.setCell (by simp; omega) _).setCell (by simp; omega) _).setCell (by simp; omega) _).setCell (by simp; omega) _).setCell (by simp; omega) _
  | true =>
  have IA := Lib.hid (fun w => gri.iatom st hst true ha w)
  have hst3 := (atomR_len ha).2
  cases ht : timeR now with
  | false =>
    have e1 : asR rate burst l st now = (0, 0, [], false, 1) := by unfold asR; rw [if_neg hbig, hr, ha, ht]; rfl
    rw [e1]
    simp only [hr] at il
    have IL := Lib.hid il
    have i2 := lri.isTime_calls now
    rw [ht] at i2
    have I2 := Lib.hid i2
    clear il hr e1 h hs i2 ht hbig ha
    go_enter Try.func20, Try.ntmps20
    go_wp2_with fail
    generalize hW : (((w.alloc (.cells #[.int .i64 rate, .int .i64 burst, .slice ad l.length cap] 36)).alloc (.cells #[.int .i64 now] 2)).alloc (.cells #[.int .i64 0, .int .i64 0, .slice none 0 0, .bool false, .int .i64 0] 41)) = W at Q
    obtain ⟨x0, x1, x2, kW, zW⟩ := Q
    refine (TL.out W).mono ?_
    rintro e w0 ⟨rfl, rfl⟩
    obtain ⟨a0, a1, a2, az⟩ := three x0
    go_wp2_with fail
    refine (IL.out W kW).mono ?_
    rintro e w1 ⟨rfl, hb⟩
    have X0 := keptB x0 hb
    have X2 := keptB x2 hb
    have X1 := keptB x1 hb
    clear a0 a1 a2 az
    obtain ⟨a0, a1, a2, az⟩ := three X0
    obtain ⟨q0, q1, q2, q3, q4, qz, qf⟩ := five X2
    have p0 : w1.cell? ⟨w.heap.size + 1, 0, none⟩ = some (.int .i64 now) := by rw [cell_of_row w1 _ _ _ _ (0, 0) X1]; rfl
    have HB := Lib.hid (kW.trans (hb.mono kW.size))
    have z1 := hb.size
    have HX1 := Lib.hid X1
    have HX2 := Lib.hid X2
    clear hb x0 x1 x2 X2 X1 X0 hW kW
    go_wp2_with fail
    refine (IA.out _).mono ?_
    rintro e w2 ⟨rfl, rfl⟩
    go_wp2_with fail
    refine (I2.out _).mono ?_
    rintro e w2 ⟨rfl, rfl⟩
    go_wp2_with fail
    refine bodyPost_ret (v := .agg #[.int .i64 0, .int .i64 0, .slice none 0 0, .bool false, .int .i64 1]) (by simp [results, Try.results20, go_sem, q0, q1, q2, q3, q4]) rfl ⟨_, rfl, ?_, .inl ⟨rfl, _, _, rfl⟩⟩
    exact ((((HB.out.setCell (by simp; omega) _).setCell (by simp; omega) _).setCell (by simp; omega) _).setCell (by simp; omega) _).setCell (by simp; omega) _
  | true =>
    have e1 : asR rate burst l st now = if (askO rate burst l st now).2.2 = 0 then (rate, burst, (askO rate burst l st now).1, (askO rate burst l st now).2.1, 0) else (0, 0, [], false, (askO rate burst l st now).2.2) := by unfold asR; rw [if_neg hbig, hr, ha, ht]; rfl
    generalize asR rate burst l st now = A at e1 ⊢
    have HA := Lib.hid e1
    obtain ⟨hnum, hnd, hl6, r1, r2, b1, b2⟩ := nums_of hr
    obtain ⟨t0, t3⟩ : 0 ≤ now ∧ now ≤ 1000000 := by unfold timeR at ht; simpa using ht
    have hrise := (limOk hr).rise
    simp only [hr] at il
    have IL := Lib.hid il
    have i2 := lri.isTime_calls now
    rw [ht] at i2
    have I2 := Lib.hid i2
    have GO := Lib.hid (fun (p : Nat) (w' : World) (k : Below w.heap.size w w') => gof.gateOf_calls 49 p rate burst (.slice ad l.length cap) l w' (h.below k) (by omega) (fun b hb => by have := (hnum b hb).1; omega) hnd)
    unfold lmA clkV gateA clkV at GO
    have HNUM := Lib.hid hnum
    have HRI := Lib.hid hrise
    have CLN := Lib.hid (fun w => gof.clone_at st (by omega) w)
    clear il hr e1 h hs i2 ht hnum hnd hrise hbig ha
    go_enter Try.func20, Try.ntmps20
    go_wp2_with fail
    generalize hW : (((w.alloc (.cells #[.int .i64 rate, .int .i64 burst, .slice ad l.length cap] 36)).alloc (.cells #[.int .i64 now] 2)).alloc (.cells #[.int .i64 0, .int .i64 0, .slice none 0 0, .bool false, .int .i64 0] 41)) = W at Q
    obtain ⟨x0, x1, x2, kW, zW⟩ := Q
    refine (TL.out W).mono ?_
    rintro e w0 ⟨rfl, rfl⟩
    obtain ⟨a0, a1, a2, az⟩ := three x0
    go_wp2_with fail
    refine (IL.out W kW).mono ?_
    rintro e w1 ⟨rfl, hb⟩
    have X0 := keptB x0 hb
    have X2 := keptB x2 hb
    have X1 := keptB x1 hb
    clear a0 a1 a2 az
    obtain ⟨a0, a1, a2, az⟩ := three X0
    obtain ⟨q0, q1, q2, q3, q4, qz, qf⟩ := five X2
    have p0 : w1.cell? ⟨w.heap.size + 1, 0, none⟩ = some (.int .i64 now) := by rw [cell_of_row w1 _ _ _ _ (0, 0) X1]; rfl
    have HB := Lib.hid (kW.trans (hb.mono kW.size))
    have z1 := hb.size
    have HX1 := Lib.hid X1
    have HX2 := Lib.hid X2
    clear hb x0 x1 x2 X2 X1 X0 hW kW
    go_wp2_with fail
    refine (IA.out _).mono ?_
    rintro e w2 ⟨rfl, rfl⟩
    go_wp2_with fail
    refine (I2.out _).mono ?_
    rintro e w2 ⟨rfl, rfl⟩
    clear q0 q1 q2 q3 q4 qz qf
    go_wp2_with fail
    refine (GO.out _ w1 HB.out).mono ?_
    rintro e w2 ⟨rfl, hb, hk⟩
    have HK := Lib.hid hk
    have HB2 := Lib.hid (HB.out.trans (hb.mono HB.out.size))
    have X2b := Lib.hid (keptB HX2.out hb)
    have X1b := Lib.hid (keptB HX1.out hb)
    have z2 := hb.size
    have hkl := hk.lt
    clear hb hk a0 a1 a2 p0 az
    go_wp2_with fail
    have k3 := new1 w2 (.cells #[.int .i64 rate, .int .i64 burst, .map (some (w1.heap.size + 1 + 1)), .func (.func 49) #[] #[.pointer (some ⟨w.heap.size + 1, 0, none⟩)]] 79)
    have Q3 := And.intro (keptB X1b.out k3) (And.intro (keptB X2b.out k3) (And.intro (heap_alloc_new w2 (.cells #[.int .i64 rate, .int .i64 burst, .map (some (w1.heap.size + 1 + 1)), .func (.func 49) #[] #[.pointer (some ⟨w.heap.size + 1, 0, none⟩)]] 79)) (And.intro k3 (World.size_alloc w2 (.cells #[.int .i64 rate, .int .i64 burst, .map (some (w1.heap.size + 1 + 1)), .func (.func 49) #[] #[.pointer (some ⟨w.heap.size + 1, 0, none⟩)]] 79)))))
    clear k3
    generalize hW3 : w2.alloc (.cells #[.int .i64 rate, .int .i64 burst, .map (some (w1.heap.size + 1 + 1)), .func (.func 49) #[] #[.pointer (some ⟨w.heap.size + 1, 0, none⟩)]] 79) = w3 at Q3
    obtain ⟨X1c, X2c, G3, k3, z3⟩ := Q3
    clear hW3
    obtain ⟨g0, g1, g2, g3, gz⟩ := four G3
    refine wp_region_any (by kernel_rfl) ?_
    change wpAny _ _ _ _ _ _ _ (World.drew _)
    refine wpAny_take (i := 1) (v := ?_) rfl (by kernel_rfl) (by kernel_rfl) (by kernel_rfl) (fun _ _ _ h => h) (Or.inl ⟨by rfl, ?_⟩) ?_
    rotate_left
    · intro w; go_simp; first | done | with_reducible rfl
    refine wpAny_ready (rs := [0, 2]) (by kernel_rfl) (by simp) ?_
    refine AllReady.cons rfl (fun K hK => ?_) (AllReady.cons rfl (fun K hK => ?_) AllReady.nil)
    · go_simp
      refine hK _ _ ?_
      clear hK K
      refine wpAny_ready (rs := [2]) (by kernel_rfl) (by simp) ?_
      refine AllReady.cons rfl (fun K hK => ?_) AllReady.nil
      go_simp
      refine (CLN.out _).mono ?_
      rintro e w4 ⟨rfl, hb4⟩
      refine hK _ _ ?_
      clear hK K
      have hb4' : Below w3.heap.size w3 w4 := ⟨hb4.os, hb4.tape, hb4.output, hb4.size, hb4.block⟩
      have X1d := keptB X1c hb4'
      have X2d := Lib.hid (keptB X2c hb4')
      have G4 := Lib.hid (keptB G3 hb4')
      have HK4 := Lib.hid ((HK.out.below k3 HK.out.lt).below hb4' (by have := HK.out.lt; omega))
      have z4 := hb4'.size
      have HB4 := Lib.hid ((HB2.out.trans (k3.mono HB2.out.size)).trans (hb4'.mono (by have := HB2.out.size; omega)))
      have c4 : w4.cell? ⟨w.heap.size + 1, 0, none⟩ = some (.int .i64 now) := by rw [cell_of_row _ _ _ _ _ (0, 0) X1d]; rfl
      clear hb4 hb4' X1c X2c G3 k3 g0 g1 g2 g3 gz
      have AC := ask_calls 49 clkAsk rate burst (w1.heap.size + 1 + 1) (w.heap.size + 1) l.length now l st w4 c4 HK4.out (by omega) (by omega) (by omega) (fun k hk => (HNUM.out k hk).2) (by omega) r2 (by omega) b2 t0 t3
      unfold gateA clkV at AC
      have HAC := Lib.hid AC
      clear AC c4 X1d
      refine wpAny_ready (rs := [3]) (by kernel_rfl) (by simp) ?_
      refine AllReady.cons rfl (fun K hK => ?_) AllReady.nil
      go_simp
      refine HAC.out.mono ?_
      rintro e w5 hE
      rcases ask_two hE HRI.out (by omega) (fun c hc => (HNUM.out c hc).1) with ⟨code, hcode, rfl, hb5, ho⟩ | ⟨y, M, rfl, hon, hkM, hM, hR⟩
      · have hc0 : code ≠ 0 := by omega
        have ez : (askO rate burst l st now).2.2 = code := by rw [ho]
        obtain rfl : A = (0, 0, [], false, code) := by rw [HA.out, if_neg (by rw [ez]; exact hc0), ez]
        have dz : (code != 0) = true := by simpa using hc0
        have dz2 : (!code == 0) = true := by simpa using hc0
        obtain ⟨q0, q1, q2, q3, q4, qz, qf⟩ := five (keptB X2d.out hb5)
        have HB := Lib.hid (HB4.out.trans (hb5.mono HB4.out.size))
        have HC0 := Lib.hid hc0
        clear ho hb5 hcode ez hc0 HA
        refine hK _ _ ?_
        clear hK K
        refine wpAny_take (i := 4) (v := ?_) rfl (by kernel_rfl) (by kernel_rfl) (by kernel_rfl) (fun _ _ _ h => h) (Or.inl ⟨by rfl, ?_⟩) ?_
        rotate_left
        · intro w; go_simp; first | done | with_reducible rfl
        refine wpAny_take (i := 5) (v := ?_) rfl (by kernel_rfl) (by kernel_rfl) (by kernel_rfl) (fun _ _ _ h => h) (Or.inl ⟨by rfl, ?_⟩) ?_
        rotate_left
        · intro w; go_simp; first | done | with_reducible rfl
        refine wpAny_take (i := 6) (v := ?_) rfl (by kernel_rfl) (by kernel_rfl) (by kernel_rfl) (fun _ _ _ h => h) (Or.inl ⟨by rfl, ?_⟩) ?_
        rotate_left
        · intro w; go_simp; first | done | with_reducible rfl
        refine wpAny_take (i := 7) (v := ?_) rfl (by kernel_rfl) (by kernel_rfl) (by kernel_rfl) (fun _ _ _ h => h) (Or.inl ⟨by rfl, ?_⟩) ?_
        rotate_left
        · intro w; go_simp; first | done | with_reducible rfl
        refine wpAny_take (i := 8) (v := ?_) rfl (by kernel_rfl) (by kernel_rfl) (by kernel_rfl) (fun _ _ _ h => h) (Or.inl ⟨by rfl, ?_⟩) ?_
        rotate_left
        · intro w; go_simp; first | done | with_reducible rfl
        refine wpAny_done (by kernel_rfl) ?_ _
        go_wp2_with fail
        refine bodyPost_ret (v := .agg #[.int .i64 0, .int .i64 0, .slice none 0 0, .bool false, .int .i64 code]) (by simp [results, Try.results20, go_sem, q0, q1, q2, q3, q4]) rfl ⟨_, rfl, ?_, .inl ⟨rfl, _, _, rfl⟩⟩
        exact ((((HB.out.setCell (by simp; omega) _).setCell (by simp; omega) _).setCell (by simp; omega) _).setCell (by simp; omega) _).setCell (by simp; omega) _
      · have X2e := Lib.hid ((hon.block _ (by omega) (by omega)).trans X2d.out)
        have G5 := (hon.block _ (by omega) (by omega)).trans G4.out
        obtain ⟨g0, g1, g2, g3, gz⟩ := four G5
        have HB5 := Lib.hid (HB4.out.trans (hon.below (by omega) (by omega)))
        have HR := Lib.hid hR
        have LI := gli.limit_calls 49 rate burst (w1.heap.size + 1 + 1) (w.heap.size + 1) (l.length + 1) M w5 hkM (by have := gmp.few hkM; omega) hM
        unfold gateA clkV lmA at LI
        have HLI := Lib.hid LI
        have z5 := hon.size
        clear LI G5 hkM hM hR hon
        refine hK _ _ ?_
        clear hK K
        refine wpAny_take (i := 4) (v := ?_) rfl (by kernel_rfl) (by kernel_rfl) (by kernel_rfl) (fun _ _ _ h => h) (Or.inl ⟨by rfl, ?_⟩) ?_
        rotate_left
        · intro w; go_simp; first | done | with_reducible rfl
        refine wpAny_take (i := 5) (v := ?_) rfl (by kernel_rfl) (by kernel_rfl) (by kernel_rfl) (fun _ _ _ h => h) (Or.inl ⟨by rfl, ?_⟩) ?_
        rotate_left
        · intro w; go_simp; first | done | with_reducible rfl
        refine wpAny_take (i := 6) (v := ?_) rfl (by kernel_rfl) (by kernel_rfl) (by kernel_rfl) (fun _ _ _ h => h) (Or.inl ⟨by rfl, ?_⟩) ?_
        rotate_left
        · intro w; go_simp; first | done | with_reducible rfl
        refine wpAny_take (i := 7) (v := ?_) rfl (by kernel_rfl) (by kernel_rfl) (by kernel_rfl) (fun _ _ _ h => h) (Or.inl ⟨by rfl, ?_⟩) ?_
        rotate_left
        · intro w; go_simp; first | done | with_reducible rfl
        refine wpAny_take (i := 8) (v := ?_) rfl (by kernel_rfl) (by kernel_rfl) (by kernel_rfl) (fun _ _ _ h => h) (Or.inl ⟨by rfl, ?_⟩) ?_
        rotate_left
        · intro w; go_simp; first | done | with_reducible rfl
        refine wpAny_done (by kernel_rfl) ?_ _
        go_wp2_with fail
        refine HLI.out.mono ?_
        rintro e w6 ⟨u, R, rfl, hb, hrow, hri, hrm⟩
        have eR := HR.out R hri hrm
        obtain rfl : A = (rate, burst, R, y, 0) := by rw [HA.out, eR]; rfl
        obtain ⟨q0, q1, q2, q3, q4, qz, qf⟩ := five (keptB X2e.out hb)
        obtain ⟨ua, un, uc, rfl⟩ : ∃ a n c, u = .slice a n c := ⟨_, _, _, hrow.wbk.rbk.form.choose_spec.choose_spec⟩
        have HB6 := Lib.hid (HB5.out.trans (hb.mono HB5.out.size))
        have HROW := Lib.hid hrow
        clear hb hrow hri hrm g0 g1 g2 g3 eR HA
        go_wp2_with fail
        refine bodyPost_ret (v := .agg #[.int .i64 rate, .int .i64 burst, .slice ua un uc, .bool y, .int .i64 0]) (by simp [results, Try.results20, go_sem, q0, q1, q2, q3, q4]) rfl ⟨_, rfl, ?_, ?_⟩
        · exact ((((HB6.out.setCell (by simp; omega) _).setCell (by simp; omega) _).setCell (by simp; omega) _).setCell (by simp; omega) _).setCell (by simp; omega) _
        · refine Wbk.base (B := w5.heap.size) ?_ (by omega)
          exact Wbk.set (Wbk.set (Wbk.set (Wbk.set (Wbk.set HROW.out.wbk (by simp; omega) _) (by simp; omega) _) (by simp; omega) _) (by simp; omega) _) (by simp; omega) _
    · go_simp
      refine (CLN.out _).mono ?_
      rintro e w4 ⟨rfl, hb4⟩
      refine hK _ _ ?_
      clear hK K
      have hb4' : Below w3.heap.size w3 w4 := ⟨hb4.os, hb4.tape, hb4.output, hb4.size, hb4.block⟩
      clear g0 g1 g2 g3 gz
      obtain ⟨g0, g1, g2, g3, gz⟩ := four (keptB G3 hb4')
      refine wpAny_ready (rs := [0]) (by kernel_rfl) (by simp) ?_
      refine AllReady.cons rfl (fun K hK => ?_) AllReady.nil
      go_simp
      refine hK _ _ ?_
      clear hK K
      have X1d := keptB X1c hb4'
      have X2d := Lib.hid (keptB X2c hb4')
      have G4 := Lib.hid (keptB G3 hb4')
      have HK4 := Lib.hid ((HK.out.below k3 HK.out.lt).below hb4' (by have := HK.out.lt; omega))
      have z4 := hb4'.size
      have HB4 := Lib.hid ((HB2.out.trans (k3.mono HB2.out.size)).trans (hb4'.mono (by have := HB2.out.size; omega)))
      have c4 : w4.cell? ⟨w.heap.size + 1, 0, none⟩ = some (.int .i64 now) := by rw [cell_of_row _ _ _ _ _ (0, 0) X1d]; rfl
      clear hb4 hb4' X1c X2c G3 k3 g0 g1 g2 g3 gz
      have AC := ask_calls 49 clkAsk rate burst (w1.heap.size + 1 + 1) (w.heap.size + 1) l.length now l st w4 c4 HK4.out (by omega) (by omega) (by omega) (fun k hk => (HNUM.out k hk).2) (by omega) r2 (by omega) b2 t0 t3
      unfold gateA clkV at AC
      have HAC := Lib.hid AC
      clear AC c4 X1d
      refine wpAny_ready (rs := [3]) (by kernel_rfl) (by simp) ?_
      refine AllReady.cons rfl (fun K hK => ?_) AllReady.nil
      go_simp
      refine HAC.out.mono ?_
      rintro e w5 hE
      rcases ask_two hE HRI.out (by omega) (fun c hc => (HNUM.out c hc).1) with ⟨code, hcode, rfl, hb5, ho⟩ | ⟨y, M, rfl, hon, hkM, hM, hR⟩
      · have hc0 : code ≠ 0 := by omega
        have ez : (askO rate burst l st now).2.2 = code := by rw [ho]
        obtain rfl : A = (0, 0, [], false, code) := by rw [HA.out, if_neg (by rw [ez]; exact hc0), ez]
        have dz : (code != 0) = true := by simpa using hc0
        have dz2 : (!code == 0) = true := by simpa using hc0
        obtain ⟨q0, q1, q2, q3, q4, qz, qf⟩ := five (keptB X2d.out hb5)
        have HB := Lib.hid (HB4.out.trans (hb5.mono HB4.out.size))
        have HC0 := Lib.hid hc0
        clear ho hb5 hcode ez hc0 HA
        refine hK _ _ ?_
        clear hK K
        refine wpAny_take (i := 4) (v := ?_) rfl (by kernel_rfl) (by kernel_rfl) (by kernel_rfl) (fun _ _ _ h => h) (Or.inl ⟨by rfl, ?_⟩) ?_
        rotate_left
        · intro w; go_simp; first | done | with_reducible rfl
        refine wpAny_take (i := 5) (v := ?_) rfl (by kernel_rfl) (by kernel_rfl) (by kernel_rfl) (fun _ _ _ h => h) (Or.inl ⟨by rfl, ?_⟩) ?_
        rotate_left
        · intro w; go_simp; first | done | with_reducible rfl
        refine wpAny_take (i := 6) (v := ?_) rfl (by kernel_rfl) (by kernel_rfl) (by kernel_rfl) (fun _ _ _ h => h) (Or.inl ⟨by rfl, ?_⟩) ?_
        rotate_left
        · intro w; go_simp; first | done | with_reducible rfl
        refine wpAny_take (i := 7) (v := ?_) rfl (by kernel_rfl) (by kernel_rfl) (by kernel_rfl) (fun _ _ _ h => h) (Or.inl ⟨by rfl, ?_⟩) ?_
        rotate_left
        · intro w; go_simp; first | done | with_reducible rfl
        refine wpAny_take (i := 8) (v := ?_) rfl (by kernel_rfl) (by kernel_rfl) (by kernel_rfl) (fun _ _ _ h => h) (Or.inl ⟨by rfl, ?_⟩) ?_
        rotate_left
        · intro w; go_simp; first | done | with_reducible rfl
        refine wpAny_done (by kernel_rfl) ?_ _
        go_wp2_with fail
        refine bodyPost_ret (v := .agg #[.int .i64 0, .int .i64 0, .slice none 0 0, .bool false, .int .i64 code]) (by simp [results, Try.results20, go_sem, q0, q1, q2, q3, q4]) rfl ⟨_, rfl, ?_, .inl ⟨rfl, _, _, rfl⟩⟩
        exact ((((HB.out.setCell (by simp; omega) _).setCell (by simp; omega) _).setCell (by simp; omega) _).setCell (by simp; omega) _).setCell (by simp; omega) _
      · have X2e := Lib.hid ((hon.block _ (by omega) (by omega)).trans X2d.out)
        have G5 := (hon.block _ (by omega) (by omega)).trans G4.out
        obtain ⟨g0, g1, g2, g3, gz⟩ := four G5
        have HB5 := Lib.hid (HB4.out.trans (hon.below (by omega) (by omega)))
        have HR := Lib.hid hR
        have LI := gli.limit_calls 49 rate burst (w1.heap.size + 1 + 1) (w.heap.size + 1) (l.length + 1) M w5 hkM (by have := gmp.few hkM; omega) hM
        unfold gateA clkV lmA at LI
        have HLI := Lib.hid LI
        have z5 := hon.size
        clear LI G5 hkM hM hR hon
        refine hK _ _ ?_
        clear hK K
        refine wpAny_take (i := 4) (v := ?_) rfl (by kernel_rfl) (by kernel_rfl) (by kernel_rfl) (fun _ _ _ h => h) (Or.inl ⟨by rfl, ?_⟩) ?_
        rotate_left
        · intro w; go_simp; first | done | with_reducible rfl
        refine wpAny_take (i := 5) (v := ?_) rfl (by kernel_rfl) (by kernel_rfl) (by kernel_rfl) (fun _ _ _ h => h) (Or.inl ⟨by rfl, ?_⟩) ?_
        rotate_left
        · intro w; go_simp; first | done | with_reducible rfl
        refine wpAny_take (i := 6) (v := ?_) rfl (by kernel_rfl) (by kernel_rfl) (by kernel_rfl) (fun _ _ _ h => h) (Or.inl ⟨by rfl, ?_⟩) ?_
        rotate_left
        · intro w; go_simp; first | done | with_reducible rfl
        refine wpAny_take (i := 7) (v := ?_) rfl (by kernel_rfl) (by kernel_rfl) (by kernel_rfl) (fun _ _ _ h => h) (Or.inl ⟨by rfl, ?_⟩) ?_
        rotate_left
        · intro w; go_simp; first | done | with_reducible rfl
        refine wpAny_take (i := 8) (v := ?_) rfl (by kernel_rfl) (by kernel_rfl) (by kernel_rfl) (fun _ _ _ h => h) (Or.inl ⟨by rfl, ?_⟩) ?_
        rotate_left
        · intro w; go_simp; first | done | with_reducible rfl
        refine wpAny_done (by kernel_rfl) ?_ _
        go_wp2_with fail
        refine HLI.out.mono ?_
        rintro e w6 ⟨u, R, rfl, hb, hrow, hri, hrm⟩
        have eR := HR.out R hri hrm
        obtain rfl : A = (rate, burst, R, y, 0) := by rw [HA.out, eR]; rfl
        obtain ⟨q0, q1, q2, q3, q4, qz, qf⟩ := five (keptB X2e.out hb)
        obtain ⟨ua, un, uc, rfl⟩ : ∃ a n c, u = .slice a n c := ⟨_, _, _, hrow.wbk.rbk.form.choose_spec.choose_spec⟩
        have HB6 := Lib.hid (HB5.out.trans (hb.mono HB5.out.size))
        have HROW := Lib.hid hrow
        clear hb hrow hri hrm g0 g1 g2 g3 eR HA
        go_wp2_with fail
        refine bodyPost_ret (v := .agg #[.int .i64 rate, .int .i64 burst, .slice ua un uc, .bool y, .int .i64 0]) (by simp [results, Try.results20, go_sem, q0, q1, q2, q3, q4]) rfl ⟨_, rfl, ?_, ?_⟩
        · exact ((((HB6.out.setCell (by simp; omega) _).setCell (by simp; omega) _).setCell (by simp; omega) _).setCell (by simp; omega) _).setCell (by simp; omega) _
        · refine Wbk.base (B := w5.heap.size) ?_ (by omega)
          exact Wbk.set (Wbk.set (Wbk.set (Wbk.set (Wbk.set HROW.out.wbk (by simp; omega) _) (by simp; omega) _) (by simp; omega) _) (by simp; omega) _) (by simp; omega) _
end Go.Proofs.Ytdikjmhnjlalbaa.gia
