/- Contract of a gate's ask. -/
import Derived.Test.YtdikjmhnjlalbaaGac
import Derived.Test.YtdikjmhnjlalbaaGap
import Derived.Laws.EntriesVeiled
namespace Go.Proofs.Ytdikjmhnjlalbaa.gak
open Go.RowKit Go.Sort Go.Maps Go.Proofs.Ytdikjmhnjlalbaa.tm Go.Proofs.Ytdikjmhnjlalbaa.lib Go.Proofs.Ytdikjmhnjlalbaa.rdr Go.Proofs.Ytdikjmhnjlalbaa.bld Go.Proofs.Ytdikjmhnjlalbaa.gdp Go.Proofs.Ytdikjmhnjlalbaa.gdm Go.Proofs.Ytdikjmhnjlalbaa.rbk Go.Proofs.Ytdikjmhnjlalbaa.bkr Go.Proofs.Ytdikjmhnjlalbaa.gmp Go.Proofs.Ytdikjmhnjlalbaa.glh Go.Proofs.Ytdikjmhnjlalbaa.gac
set_option linter.unusedVariables false

/-- What ask leaves. -/
inductive AskE (rate burst : Int) (M : List Bk) (st : Bs) (now : Int) (b n : Nat) (w : World) : Ending → World → Prop
  | late (w' : World) (k : Bk) (h : gdm.look M st = some k) (h2 : now < k.at_) (hb : Below w.heap.size w w') : AskE rate burst M st now b n w (.returned (.tuple #[.bool false, .int .i64 8])) w'
  | full (w' : World) (h : gdm.look M st = none) (h2 : M.length = 6) (hb : Below w.heap.size w w') : AskE rate burst M st now b n w (.returned (.tuple #[.bool false, .int .i64 9])) w'
  | there (w' : World) (k : Bk) (h : gdm.look M st = some k) (h2 : k.at_ ≤ now) (ho : Only b w w') (hm : Kmp w' b (n + 1) (gdm.set M ⟨st, less (nowR rate burst k now), now⟩)) :
      AskE rate burst M st now b n w (.returned (.tuple #[.bool (decide (1 ≤ nowR rate burst k now)), .int .i64 0])) w'
  | new (w' : World) (h : gdm.look M st = none) (h2 : M.length ≠ 6) (ho : Only b w w') (hm : Kmp w' b (n + 1) (gdm.set M ⟨st, less burst, now⟩)) :
      AskE rate burst M st now b n w (.returned (.tuple #[.bool (decide (1 ≤ burst)), .int .i64 0])) w'

theorem alloc2 (w : World) (a b : Obj) : ((w.alloc a).alloc b).heap[w.heap.size]? = some a ∧ ((w.alloc a).alloc b).heap[w.heap.size + 1]? = some b := by
  refine ⟨(Below.heap_alloc _ _ _ (by simp)).trans (heap_alloc_new w a), ?_⟩
  have := heap_alloc_new (w.alloc a) b
  rw [World.size_alloc] at this
  exact this

set_option maxHeartbeats 8000000 in
set_option maxRecDepth 100000 in
theorem ask_calls (F : FuncId) (hF : Clk F) (rate burst : Int) (b p n : Nat) (now : Int) (M : List Bk) (st : Bs) (w : World) (c : w.cell? ⟨p, 0, none⟩ = some (.int .i64 now)) (hm : Kmp w b n M) (hpb : p ≠ b) (hst : st.length ≤ 1000) (hn : n ≤ 1000)
    (hN : ∀ k ∈ M, 0 ≤ k.left ∧ k.left ≤ burst ∧ 0 ≤ k.at_ ∧ k.at_ ≤ 1000000)
    (r1 : 0 ≤ rate) (r2 : rate ≤ 10) (b1 : 0 ≤ burst) (b2 : burst ≤ 100) (t0 : 0 ≤ now) (t3 : now ≤ 1000000) :
    Calls Try.prog 50 #[.agg (gateA rate burst b F p), str st] w (AskE rate burst M st now b n w) := by
  have hent := hF.ent
  have TL := Lib.hid hF.tell
  have TL0 := Lib.hid hF.tell0
  have hb := hm.lt
  have hp : p < w.heap.size := block_lt_of_cell (a := ⟨p, 0, none⟩) c
  have hstm : st.length ≤ maxLen := by unfold maxLen; omega
  have C := Lib.hid c
  have HM := Lib.hid (hm.below (new1 w (.cells #[.int .i64 rate, .int .i64 burst, .map (some b), .func (.func F) #[] #[.pointer (some ⟨p, 0, none⟩)]] 79)) hb)
  have HM0 := Lib.hid hm
  unfold gateA clkV
  clear c
  cases hk : gdm.look M st with
  | none =>
    have hgot : got M st = bk0 := by unfold got; rw [hk]; rfl
    have hbk : bkV (got M st) = .agg #[.string ⟨#[]⟩, .int .i64 0, .int .i64 0] := by rw [hgot]; rfl
    have hso : (gdm.look M st).isSome = false := by rw [hk]; rfl
    have HK := Lib.hid hk
    by_cases h6 : M.length = 6
    · have H6 := Lib.hid h6
      have d6 : ((M.length : Int) == 6) = true := by rw [h6]; rfl
      clear hk h6 hgot
      go_enter Try.func50, Try.ntmps50
      have Q : ((w.alloc (.cells #[.int .i64 rate, .int .i64 burst, .map (some b), .func (.func F) #[] #[.pointer (some ⟨p, 0, none⟩)]] 79)).alloc (.cells #[.string ⟨#[]⟩, .int .i64 0, .int .i64 0] 71)).heap[w.heap.size]? = some (.cells #[.int .i64 rate, .int .i64 burst, .map (some b), .func (.func F) #[] #[.pointer (some ⟨p, 0, none⟩)]] 79) ∧ ((w.alloc (.cells #[.int .i64 rate, .int .i64 burst, .map (some b), .func (.func F) #[] #[.pointer (some ⟨p, 0, none⟩)]] 79)).alloc (.cells #[.string ⟨#[]⟩, .int .i64 0, .int .i64 0] 71)).heap[w.heap.size + 1]? = some (.cells #[.string ⟨#[]⟩, .int .i64 0, .int .i64 0] 71) ∧ Below w.heap.size w ((w.alloc (.cells #[.int .i64 rate, .int .i64 burst, .map (some b), .func (.func F) #[] #[.pointer (some ⟨p, 0, none⟩)]] 79)).alloc (.cells #[.string ⟨#[]⟩, .int .i64 0, .int .i64 0] 71)) ∧ ((w.alloc (.cells #[.int .i64 rate, .int .i64 burst, .map (some b), .func (.func F) #[] #[.pointer (some ⟨p, 0, none⟩)]] 79)).alloc (.cells #[.string ⟨#[]⟩, .int .i64 0, .int .i64 0] 71)).heap.size = w.heap.size + 1 + 1 :=
        ⟨(alloc2 w _ _).1, (alloc2 w _ _).2, (new1 _ _).alloc (by simp) _, by simp⟩
      go_wp2_with (at_lookup; refine wp_look_ok (.tmp 12) (.tmp 13) b n M st rfl rfl rfl rfl HM.out hstm ?_; rw [hbk, hso])
      generalize hW : ((w.alloc (.cells #[.int .i64 rate, .int .i64 burst, .map (some b), .func (.func F) #[] #[.pointer (some ⟨p, 0, none⟩)]] 79)).alloc (.cells #[.string ⟨#[]⟩, .int .i64 0, .int .i64 0] 71)) = W at Q
      obtain ⟨x0, x1, kW, zW⟩ := Q
      refine wp_region_quiet_below (by kernel_rfl) (by kernel_rfl) ?_
      iterate 2 (quiet_step (fail))
      iterate 8 (with_reducible refine wpQuiet_step (fun K hK => ?_); go_simp; (try rw [if_neg (by decide)]); with_reducible refine hK _ ?_; clear hK K)
      with_reducible refine wpQuiet_nil ?_
      rintro w2 ⟨⟨dq, osq⟩, hw2⟩
      have hb2 : Below W.heap.size W w2 := by rw [hw2]; exact below_regrown _ _ _
      have k2 := kW.trans (hb2.mono kW.size)
      have Y0 := keptB x0 hb2
      have Y1 := keptB x1 hb2
      have z2 := hb2.size
      have KM2 := Lib.hid (HM0.out.below k2 hb)
      have HB2 := Lib.hid k2
      clear hw2 hb2 k2 hW
      obtain ⟨g0, g1, g2, g3, gz⟩ := four Y0
      have hln := KM2.out.len
      go_wp2_with fail
      exact bodyPost_ret (v := .tuple #[.bool false, .int .i64 9]) (by simp [results, Try.results50, go_sem]) rfl (.full w2 HK.out H6.out HB2.out)
    · have H6 := Lib.hid h6
      have d6 : ((M.length : Int) == 6) = false := by rw [beq_eq_false_iff_ne]; omega
      clear hk h6 hgot
      go_enter Try.func50, Try.ntmps50
      have Q : ((w.alloc (.cells #[.int .i64 rate, .int .i64 burst, .map (some b), .func (.func F) #[] #[.pointer (some ⟨p, 0, none⟩)]] 79)).alloc (.cells #[.string ⟨#[]⟩, .int .i64 0, .int .i64 0] 71)).heap[w.heap.size]? = some (.cells #[.int .i64 rate, .int .i64 burst, .map (some b), .func (.func F) #[] #[.pointer (some ⟨p, 0, none⟩)]] 79) ∧ ((w.alloc (.cells #[.int .i64 rate, .int .i64 burst, .map (some b), .func (.func F) #[] #[.pointer (some ⟨p, 0, none⟩)]] 79)).alloc (.cells #[.string ⟨#[]⟩, .int .i64 0, .int .i64 0] 71)).heap[w.heap.size + 1]? = some (.cells #[.string ⟨#[]⟩, .int .i64 0, .int .i64 0] 71) ∧ Below w.heap.size w ((w.alloc (.cells #[.int .i64 rate, .int .i64 burst, .map (some b), .func (.func F) #[] #[.pointer (some ⟨p, 0, none⟩)]] 79)).alloc (.cells #[.string ⟨#[]⟩, .int .i64 0, .int .i64 0] 71)) ∧ ((w.alloc (.cells #[.int .i64 rate, .int .i64 burst, .map (some b), .func (.func F) #[] #[.pointer (some ⟨p, 0, none⟩)]] 79)).alloc (.cells #[.string ⟨#[]⟩, .int .i64 0, .int .i64 0] 71)).heap.size = w.heap.size + 1 + 1 :=
        ⟨(alloc2 w _ _).1, (alloc2 w _ _).2, (new1 _ _).alloc (by simp) _, by simp⟩
      go_wp2_with (at_lookup; refine wp_look_ok (.tmp 12) (.tmp 13) b n M st rfl rfl rfl rfl HM.out hstm ?_; rw [hbk, hso])
      generalize hW : ((w.alloc (.cells #[.int .i64 rate, .int .i64 burst, .map (some b), .func (.func F) #[] #[.pointer (some ⟨p, 0, none⟩)]] 79)).alloc (.cells #[.string ⟨#[]⟩, .int .i64 0, .int .i64 0] 71)) = W at Q
      obtain ⟨x0, x1, kW, zW⟩ := Q
      refine wp_region_quiet_below (by kernel_rfl) (by kernel_rfl) ?_
      iterate 2 (quiet_step (fail))
      iterate 8 (with_reducible refine wpQuiet_step (fun K hK => ?_); go_simp; (try rw [if_neg (by decide)]); with_reducible refine hK _ ?_; clear hK K)
      with_reducible refine wpQuiet_nil ?_
      rintro w2 ⟨⟨dq, osq⟩, hw2⟩
      have hb2 : Below W.heap.size W w2 := by rw [hw2]; exact below_regrown _ _ _
      have k2 := kW.trans (hb2.mono kW.size)
      have Y0 := keptB x0 hb2
      have Y1 := keptB x1 hb2
      have z2 := hb2.size
      have KM2 := Lib.hid (HM0.out.below k2 hb)
      have HB2 := Lib.hid k2
      clear hw2 hb2 k2 hW
      obtain ⟨g0, g1, g2, g3, gz⟩ := four Y0
      obtain ⟨e0, e1, e2, ez⟩ := three Y1
      have hf : ∀ o, w2.frozen? ⟨w.heap.size + 1, o, none⟩ = false := fun o => by simp [World.frozen?, Y1]
      have hln := KM2.out.len
      have hcp : w2.cell? ⟨p, 0, none⟩ = some (.int .i64 now) := (HB2.out.cell (p := ⟨p, 0, none⟩) hp).trans C.out
      have hcpd : w2.drew.cell? ⟨p, 0, none⟩ = some (.int .i64 now) := hcp
      go_wp2_with fail
      refine wp_region_still_tail 7 (by kernel_rfl) (by kernel_rfl) ?_
      simp only [List.take_succ_cons, List.take_zero, List.drop_succ_cons, List.drop_zero]
      change wpStill _ _ w2.drew (fun a' => wpList _ _ _ _ a' w2.drew) _ _
      repeat (first | still_step | still_call (TL0.out _ _ _ hcpd))
      refine wpStill_nil ?_
      go_wp2_with fail
      have OS : Only (w.heap.size + 1) w2 (((w2.setCell ⟨w.heap.size + 1, 0, none⟩ (.string ⟨st.toArray⟩)).setCell ⟨w.heap.size + 1, 1, none⟩ (.int .i64 burst)).setCell ⟨w.heap.size + 1, 2, none⟩ (.int .i64 now)) := ((Only.setCell 0 _).trans (Only.setCell 1 _)).trans (Only.setCell 2 _)
      have S1 : (((w2.setCell ⟨w.heap.size + 1, 0, none⟩ (.string ⟨st.toArray⟩)).setCell ⟨w.heap.size + 1, 1, none⟩ (.int .i64 burst)).setCell ⟨w.heap.size + 1, 2, none⟩ (.int .i64 now)).heap[w.heap.size + 1]? = some (.cells #[str st, .int .i64 burst, .int .i64 now] 71) := by
        have h1 := heap_setCell_same w2 (w.heap.size + 1) 0 _ _ (.string ⟨st.toArray⟩) Y1
        have h2 := heap_setCell_same _ (w.heap.size + 1) 1 _ _ (.int .i64 burst) h1
        exact heap_setCell_same _ (w.heap.size + 1) 2 _ _ (.int .i64 now) h2
      have Q2 : (((w2.setCell ⟨w.heap.size + 1, 0, none⟩ (.string ⟨st.toArray⟩)).setCell ⟨w.heap.size + 1, 1, none⟩ (.int .i64 burst)).setCell ⟨w.heap.size + 1, 2, none⟩ (.int .i64 now)).drew.heap[w.heap.size]? = some (.cells #[.int .i64 rate, .int .i64 burst, .map (some b), .func (.func F) #[] #[.pointer (some ⟨p, 0, none⟩)]] 79) ∧ (((w2.setCell ⟨w.heap.size + 1, 0, none⟩ (.string ⟨st.toArray⟩)).setCell ⟨w.heap.size + 1, 1, none⟩ (.int .i64 burst)).setCell ⟨w.heap.size + 1, 2, none⟩ (.int .i64 now)).drew.heap[w.heap.size + 1]? = some (.cells #[str st, .int .i64 burst, .int .i64 now] 71) ∧ Kmp (((w2.setCell ⟨w.heap.size + 1, 0, none⟩ (.string ⟨st.toArray⟩)).setCell ⟨w.heap.size + 1, 1, none⟩ (.int .i64 burst)).setCell ⟨w.heap.size + 1, 2, none⟩ (.int .i64 now)).drew b n M ∧ (((w2.setCell ⟨w.heap.size + 1, 0, none⟩ (.string ⟨st.toArray⟩)).setCell ⟨w.heap.size + 1, 1, none⟩ (.int .i64 burst)).setCell ⟨w.heap.size + 1, 2, none⟩ (.int .i64 now)).drew.cell? ⟨p, 0, none⟩ = some (.int .i64 now) ∧ Only b w (((w2.setCell ⟨w.heap.size + 1, 0, none⟩ (.string ⟨st.toArray⟩)).setCell ⟨w.heap.size + 1, 1, none⟩ (.int .i64 burst)).setCell ⟨w.heap.size + 1, 2, none⟩ (.int .i64 now)).drew ∧ w.heap.size + 1 < (((w2.setCell ⟨w.heap.size + 1, 0, none⟩ (.string ⟨st.toArray⟩)).setCell ⟨w.heap.size + 1, 1, none⟩ (.int .i64 burst)).setCell ⟨w.heap.size + 1, 2, none⟩ (.int .i64 now)).drew.heap.size := by
        have zS : (((w2.setCell ⟨w.heap.size + 1, 0, none⟩ (.string ⟨st.toArray⟩)).setCell ⟨w.heap.size + 1, 1, none⟩ (.int .i64 burst)).setCell ⟨w.heap.size + 1, 2, none⟩ (.int .i64 now)).drew.heap.size = w2.heap.size := by show (((w2.setCell ⟨w.heap.size + 1, 0, none⟩ (.string ⟨st.toArray⟩)).setCell ⟨w.heap.size + 1, 1, none⟩ (.int .i64 burst)).setCell ⟨w.heap.size + 1, 2, none⟩ (.int .i64 now)).heap.size = _; simp [World.setCell]
        refine ⟨(OS.block _ (by omega) (by omega)).trans Y0, S1, KM2.out.same (OS.block _ KM2.out.lt (by omega)), (World.cell?_of_block (OS.block p (by omega) (by omega))).trans hcp, ?_, by rw [zS]; omega⟩
        refine ⟨OS.os.trans HB2.out.os, OS.tape.trans HB2.out.tape, OS.output.trans HB2.out.output, by rw [zS]; omega, fun i hi _ => (OS.block i (by omega) (by omega)).trans (HB2.out.block i hi)⟩
      generalize hV : (((w2.setCell ⟨w.heap.size + 1, 0, none⟩ (.string ⟨st.toArray⟩)).setCell ⟨w.heap.size + 1, 1, none⟩ (.int .i64 burst)).setCell ⟨w.heap.size + 1, 2, none⟩ (.int .i64 now)).drew = V at Q2
      obtain ⟨V0, V1, KMV, CV, OV, vz⟩ := Q2
      clear hV OS S1 e0 e1 e2 hf hcp hcpd g0 g1 g2 g3 hln Y0 Y1 HB2 KM2
      have HH := has_calls F hF rate burst b p now ⟨st, burst, now⟩ V CV r1 r2 b1 b2 b1 b2 t0 (Int.le_refl _) t3
      have hbst : nowR rate burst ⟨st, burst, now⟩ now = burst := by unfold nowR; simp only [Int.sub_self, Int.mul_zero]; omega
      obtain ⟨v, hv⟩ : ∃ v, v = nowR rate burst ⟨st, burst, now⟩ now := ⟨_, rfl⟩
      have hv100 : 0 ≤ v ∧ v ≤ 100 := by
        rw [hv]
        have : 0 ≤ rate * (now - (⟨st, burst, now⟩ : Bk).at_) := Int.mul_nonneg r1 (by simp only; omega)
        unfold nowR
        simp only at *
        omega
      rw [← hv] at HH
      unfold gateA clkV bkA at HH
      refine HH.mono ?_
      rintro e w3 ⟨rfl, hb3⟩
      have ow3 : Only b w w3 := OV.trans (Only.of_below hb3)
      have g3' := keptB V0 hb3
      have b3' := keptB V1 hb3
      have c3 : w3.cell? ⟨p, 0, none⟩ = some (.int .i64 now) := (hb3.cell (p := ⟨p, 0, none⟩) (by show p < V.heap.size; omega)).trans CV
      have KM3 := Lib.hid (KMV.below hb3 KMV.lt)
      have OW3 := Lib.hid ow3
      have hz3 := hb3.size
      obtain ⟨g0, g1, g2, g3, gz⟩ := four g3'
      obtain ⟨e0, e1, e2, ez⟩ := three b3'
      have HVB := Lib.hid (hv.trans hbst)
      clear hv hbst hb3 ow3 g3' b3' V0 V1 CV KMV OV HH
      by_cases hy : 1 ≤ v
      · have d1 : decide (1 ≤ v) = true := decide_eq_true hy
        have d2 : decide (v < 1) = false := decide_eq_false (by omega)
        have hwv : IntKind.i64.wrap (v - 1) = v - 1 := by rw [IntKind.wrap_i64]; omega
        have hless : less v = v - 1 := by unfold less; rw [if_pos hy]

        go_wp2_with fail
        have c3d : w3.drew.cell? ⟨p, 0, none⟩ = some (.int .i64 now) := c3
        refine wp_region_still_tail 10 (by kernel_rfl) (by kernel_rfl) ?_
        simp only [List.take_succ_cons, List.take_zero, List.drop_succ_cons, List.drop_zero]
        change wpStill _ _ w3.drew (fun a' => wpList _ _ _ _ a' w3.drew) _ _
        repeat (first | still_step | still_call (TL0.out _ _ _ c3d))
        refine wpStill_nil ?_
        have KM4 := Lib.hid (KM3.out.below (rdr.Still.below (rdr.Still.drewN w3 1) w3.heap.size) KM3.out.lt)
        go_wp2_with (at_mapUpdate; refine wp_put (.tmp 55) (.tmp 56) (.tmp 63) b n M ⟨st, v - 1, now⟩ rfl rfl rfl rfl rfl KM4.out hstm (by unfold maxLen; omega) ?_; intro w5 hk5 hg5)
        have O5 : Only b w w5 := (OW3.out.trans (Only.of_below (rdr.Still.below (rdr.Still.drewN w3 1) w3.heap.size))).trans ⟨hg5.os, hg5.tape, hg5.output, hg5.size, fun i hi hne => hg5.block i hi (by intro e; cases e; exact hne rfl)⟩
        have HK5 := Lib.hid hk5
        have HO5 := Lib.hid O5
        clear hk5 hg5 O5
        go_wp2_with fail
        refine bodyPost_ret (v := .tuple #[.bool true, .int .i64 0]) (by simp [results, Try.results50, go_sem]) rfl ?_
        have hvb : v = burst := HVB.out
        have hres := AskE.new (rate := rate) (now := now) w5 HK.out H6.out HO5.out (by have h := HK5.out; rw [← hless, hvb] at h; exact h)
        have d1b := d1
        rw [hvb] at d1b
        rw [d1b] at hres
        exact hres
      · have d1 : decide (1 ≤ v) = false := decide_eq_false hy
        have d2 : decide (v < 1) = true := decide_eq_true (by omega)
        have hless : less v = v := by unfold less; rw [if_neg hy]

        go_wp2_with fail
        have c3d : w3.drew.cell? ⟨p, 0, none⟩ = some (.int .i64 now) := c3
        refine wp_region_still_tail 10 (by kernel_rfl) (by kernel_rfl) ?_
        simp only [List.take_succ_cons, List.take_zero, List.drop_succ_cons, List.drop_zero]
        change wpStill _ _ w3.drew (fun a' => wpList _ _ _ _ a' w3.drew) _ _
        repeat (first | still_step | still_call (TL0.out _ _ _ c3d))
        refine wpStill_nil ?_
        have KM4 := Lib.hid (KM3.out.below (rdr.Still.below (rdr.Still.drewN w3 1) w3.heap.size) KM3.out.lt)
        go_wp2_with (at_mapUpdate; refine wp_put (.tmp 55) (.tmp 56) (.tmp 63) b n M ⟨st, v, now⟩ rfl rfl rfl rfl rfl KM4.out hstm (by unfold maxLen; omega) ?_; intro w5 hk5 hg5)
        have O5 : Only b w w5 := (OW3.out.trans (Only.of_below (rdr.Still.below (rdr.Still.drewN w3 1) w3.heap.size))).trans ⟨hg5.os, hg5.tape, hg5.output, hg5.size, fun i hi hne => hg5.block i hi (by intro e; cases e; exact hne rfl)⟩
        have HK5 := Lib.hid hk5
        have HO5 := Lib.hid O5
        clear hk5 hg5 O5
        go_wp2_with fail
        refine bodyPost_ret (v := .tuple #[.bool false, .int .i64 0]) (by simp [results, Try.results50, go_sem]) rfl ?_
        have hvb : v = burst := HVB.out
        have hres := AskE.new (rate := rate) (now := now) w5 HK.out H6.out HO5.out (by have h := HK5.out; rw [← hless, hvb] at h; exact h)
        have d1b := d1
        rw [hvb] at d1b
        rw [d1b] at hres
        exact hres
  | some k =>
    obtain ⟨hkM, hkst⟩ := look_some hk
    obtain ⟨n1, n2, n3, n4⟩ := hN k hkM
    obtain ⟨kst, x, t⟩ := k
    simp only at hkst n1 n2 n3 n4
    subst kst
    have hgot : got M st = ⟨st, x, t⟩ := by unfold got; rw [hk]; rfl
    have hbk : bkV (got M st) = .agg #[str st, .int .i64 x, .int .i64 t] := by rw [hgot]; rfl
    have hso : (gdm.look M st).isSome = true := by rw [hk]; rfl
    have HK := Lib.hid hk
    clear hk hkM hN hgot
    by_cases hlt : now < t
    · have d8 : decide (now < t) = true := decide_eq_true hlt
      have HLT := Lib.hid hlt
      clear hlt
      go_enter Try.func50, Try.ntmps50
      have Q : ((w.alloc (.cells #[.int .i64 rate, .int .i64 burst, .map (some b), .func (.func F) #[] #[.pointer (some ⟨p, 0, none⟩)]] 79)).alloc (.cells #[str st, .int .i64 x, .int .i64 t] 71)).heap[w.heap.size]? = some (.cells #[.int .i64 rate, .int .i64 burst, .map (some b), .func (.func F) #[] #[.pointer (some ⟨p, 0, none⟩)]] 79) ∧ ((w.alloc (.cells #[.int .i64 rate, .int .i64 burst, .map (some b), .func (.func F) #[] #[.pointer (some ⟨p, 0, none⟩)]] 79)).alloc (.cells #[str st, .int .i64 x, .int .i64 t] 71)).heap[w.heap.size + 1]? = some (.cells #[str st, .int .i64 x, .int .i64 t] 71) ∧ Below w.heap.size w ((w.alloc (.cells #[.int .i64 rate, .int .i64 burst, .map (some b), .func (.func F) #[] #[.pointer (some ⟨p, 0, none⟩)]] 79)).alloc (.cells #[str st, .int .i64 x, .int .i64 t] 71)) ∧ ((w.alloc (.cells #[.int .i64 rate, .int .i64 burst, .map (some b), .func (.func F) #[] #[.pointer (some ⟨p, 0, none⟩)]] 79)).alloc (.cells #[str st, .int .i64 x, .int .i64 t] 71)).heap.size = w.heap.size + 1 + 1 :=
        ⟨(alloc2 w _ _).1, (alloc2 w _ _).2, (new1 _ _).alloc (by simp) _, by simp⟩
      go_wp2_with (at_lookup; refine wp_look_ok (.tmp 12) (.tmp 13) b n M st rfl rfl rfl rfl HM.out hstm ?_; rw [hbk, hso])
      generalize hW : ((w.alloc (.cells #[.int .i64 rate, .int .i64 burst, .map (some b), .func (.func F) #[] #[.pointer (some ⟨p, 0, none⟩)]] 79)).alloc (.cells #[str st, .int .i64 x, .int .i64 t] 71)) = W at Q
      obtain ⟨x0, x1, kW, zW⟩ := Q
      obtain ⟨A0, A1, A2, A3, az⟩ := four x0
      obtain ⟨E0, E1, E2, ez⟩ := three x1
      have cp : W.cell? ⟨p, 0, none⟩ = some (.int .i64 now) := (kW.cell (p := ⟨p, 0, none⟩) hp).trans C.out
      have CP := fun (d : Nat) (os : Array Obj) => cell_regrown (d := d) (os := os) cp
      have A3 := fun (d : Nat) (os : Array Obj) => cell_regrown (d := d) (os := os) A3
      have E2 := fun (d : Nat) (os : Array Obj) => cell_regrown (d := d) (os := os) E2
      refine wp_region_quiet_below (by kernel_rfl) (by kernel_rfl) ?_
      iterate 7 (quiet_step (exact Calls.regrown_of (TL.out _ _ _ (CP _ _))))
      iterate 3 (with_reducible refine wpQuiet_step (fun K hK => ?_); go_simp; (try rw [if_neg (by decide)]); with_reducible refine hK _ ?_; clear hK K)
      with_reducible refine wpQuiet_nil ?_
      rintro w2 ⟨⟨dq, osq⟩, hw2⟩
      have hb2 : Below W.heap.size W w2 := by rw [hw2]; exact below_regrown _ _ _
      have k2 := kW.trans (hb2.mono kW.size)
      have V0 := keptB x0 hb2
      have V1 := keptB x1 hb2
      have z2 := hb2.size
      have KM2 := Lib.hid (HM0.out.below k2 hb)
      have HB2 := Lib.hid k2
      clear hw2 hb2 k2 hW CP A0 A1 A2 A3 E0 E1 E2 az ez x0 x1
      go_wp2_with fail
      exact bodyPost_ret (v := .tuple #[.bool false, .int .i64 8]) (by simp [results, Try.results50, go_sem]) rfl (.late w2 _ HK.out HLT.out HB2.out)
    · have d8 : decide (now < t) = false := decide_eq_false hlt
      have HLT := Lib.hid hlt
      go_enter Try.func50, Try.ntmps50
      have Q : ((w.alloc (.cells #[.int .i64 rate, .int .i64 burst, .map (some b), .func (.func F) #[] #[.pointer (some ⟨p, 0, none⟩)]] 79)).alloc (.cells #[str st, .int .i64 x, .int .i64 t] 71)).heap[w.heap.size]? = some (.cells #[.int .i64 rate, .int .i64 burst, .map (some b), .func (.func F) #[] #[.pointer (some ⟨p, 0, none⟩)]] 79) ∧ ((w.alloc (.cells #[.int .i64 rate, .int .i64 burst, .map (some b), .func (.func F) #[] #[.pointer (some ⟨p, 0, none⟩)]] 79)).alloc (.cells #[str st, .int .i64 x, .int .i64 t] 71)).heap[w.heap.size + 1]? = some (.cells #[str st, .int .i64 x, .int .i64 t] 71) ∧ Below w.heap.size w ((w.alloc (.cells #[.int .i64 rate, .int .i64 burst, .map (some b), .func (.func F) #[] #[.pointer (some ⟨p, 0, none⟩)]] 79)).alloc (.cells #[str st, .int .i64 x, .int .i64 t] 71)) ∧ ((w.alloc (.cells #[.int .i64 rate, .int .i64 burst, .map (some b), .func (.func F) #[] #[.pointer (some ⟨p, 0, none⟩)]] 79)).alloc (.cells #[str st, .int .i64 x, .int .i64 t] 71)).heap.size = w.heap.size + 1 + 1 :=
        ⟨(alloc2 w _ _).1, (alloc2 w _ _).2, (new1 _ _).alloc (by simp) _, by simp⟩
      go_wp2_with (at_lookup; refine wp_look_ok (.tmp 12) (.tmp 13) b n M st rfl rfl rfl rfl HM.out hstm ?_; rw [hbk, hso])
      generalize hW : ((w.alloc (.cells #[.int .i64 rate, .int .i64 burst, .map (some b), .func (.func F) #[] #[.pointer (some ⟨p, 0, none⟩)]] 79)).alloc (.cells #[str st, .int .i64 x, .int .i64 t] 71)) = W at Q
      obtain ⟨x0, x1, kW, zW⟩ := Q
      obtain ⟨A0, A1, A2, A3, az⟩ := four x0
      obtain ⟨E0, E1, E2, ez⟩ := three x1
      have cp : W.cell? ⟨p, 0, none⟩ = some (.int .i64 now) := (kW.cell (p := ⟨p, 0, none⟩) hp).trans C.out
      have CP := fun (d : Nat) (os : Array Obj) => cell_regrown (d := d) (os := os) cp
      have A3 := fun (d : Nat) (os : Array Obj) => cell_regrown (d := d) (os := os) A3
      have E2 := fun (d : Nat) (os : Array Obj) => cell_regrown (d := d) (os := os) E2
      refine wp_region_quiet_below (by kernel_rfl) (by kernel_rfl) ?_
      iterate 7 (quiet_step (exact Calls.regrown_of (TL.out _ _ _ (CP _ _))))
      iterate 3 (with_reducible refine wpQuiet_step (fun K hK => ?_); go_simp; (try rw [if_neg (by decide)]); with_reducible refine hK _ ?_; clear hK K)
      with_reducible refine wpQuiet_nil ?_
      rintro V ⟨⟨dq, osq⟩, hw2⟩
      have hb2 : Below W.heap.size W V := by rw [hw2]; exact below_regrown _ _ _
      have k2 := kW.trans (hb2.mono kW.size)
      have V0 := keptB x0 hb2
      have V1 := keptB x1 hb2
      have z2 := hb2.size
      have KM2 := Lib.hid (HM0.out.below k2 hb)
      have HB2 := Lib.hid k2
      clear hw2 hb2 k2 hW CP A0 A1 A2 A3 E0 E1 E2 az ez x0 x1
      have g4 := four V0
      have b4 := three V1
      have CV : V.cell? ⟨p, 0, none⟩ = some (.int .i64 now) := (HB2.out.cell (p := ⟨p, 0, none⟩) hp).trans C.out
      have KMV := KM2.out
      have OV : Only b w V := Only.of_below HB2.out
      have vz : w.heap.size + 1 < V.heap.size := by omega
      have HH := has_calls F hF rate burst b p now ⟨st, x, t⟩ V CV r1 r2 b1 b2 n1 (by simp only; omega) n3 (by simp only; omega) t3
      obtain ⟨v, hv⟩ : ∃ v, v = nowR rate burst ⟨st, x, t⟩ now := ⟨_, rfl⟩
      have hv100 : 0 ≤ v ∧ v ≤ 100 := by
        rw [hv]
        have : 0 ≤ rate * (now - (⟨st, x, t⟩ : Bk).at_) := Int.mul_nonneg r1 (by simp only; omega)
        unfold nowR
        simp only at *
        omega
      rw [← hv] at HH
      unfold gateA clkV bkA at HH
      obtain ⟨g0, g1, g2, g3, gz⟩ := g4
      obtain ⟨e0, e1, e2, ez⟩ := b4
      have HH := Lib.hid HH
      have KMV := Lib.hid KMV
      have CV := Lib.hid CV
      have OV := Lib.hid OV
      have HV := Lib.hid hv
      clear hv
      go_wp2_with fail
      refine HH.out.mono ?_
      rintro e w3 ⟨rfl, hb3⟩
      have ow3 : Only b w w3 := OV.out.trans (Only.of_below hb3)
      have g3' := keptB V0 hb3
      have b3' := keptB V1 hb3
      have c3 : w3.cell? ⟨p, 0, none⟩ = some (.int .i64 now) := (hb3.cell (p := ⟨p, 0, none⟩) (by show p < V.heap.size; omega)).trans CV.out
      have KM3 := Lib.hid (KMV.out.below hb3 KMV.out.lt)
      have OW3 := Lib.hid ow3
      have hz3 := hb3.size
      clear g0 g1 g2 g3 gz e0 e1 e2 ez
      obtain ⟨g0, g1, g2, g3, gz⟩ := four g3'
      obtain ⟨e0, e1, e2, ez⟩ := three b3'
      clear hb3 ow3 g3' b3' V0 V1 CV KMV OV HH
      by_cases hy : 1 ≤ v
      · have d1 : decide (1 ≤ v) = true := decide_eq_true hy
        have d2 : decide (v < 1) = false := decide_eq_false (by omega)
        have hwv : IntKind.i64.wrap (v - 1) = v - 1 := by rw [IntKind.wrap_i64]; omega
        have hless : less v = v - 1 := by unfold less; rw [if_pos hy]

        go_wp2_with fail
        have c3d : w3.drew.cell? ⟨p, 0, none⟩ = some (.int .i64 now) := c3
        refine wp_region_still_tail 10 (by kernel_rfl) (by kernel_rfl) ?_
        simp only [List.take_succ_cons, List.take_zero, List.drop_succ_cons, List.drop_zero]
        change wpStill _ _ w3.drew (fun a' => wpList _ _ _ _ a' w3.drew) _ _
        repeat (first | still_step | still_call (TL0.out _ _ _ c3d))
        refine wpStill_nil ?_
        have KM4 := Lib.hid (KM3.out.below (rdr.Still.below (rdr.Still.drewN w3 1) w3.heap.size) KM3.out.lt)
        go_wp2_with (at_mapUpdate; refine wp_put (.tmp 55) (.tmp 56) (.tmp 63) b n M ⟨st, v - 1, now⟩ rfl rfl rfl rfl rfl KM4.out hstm (by unfold maxLen; omega) ?_; intro w5 hk5 hg5)
        have O5 : Only b w w5 := (OW3.out.trans (Only.of_below (rdr.Still.below (rdr.Still.drewN w3 1) w3.heap.size))).trans ⟨hg5.os, hg5.tape, hg5.output, hg5.size, fun i hi hne => hg5.block i hi (by intro e; cases e; exact hne rfl)⟩
        have HK5 := Lib.hid hk5
        have HO5 := Lib.hid O5
        clear hk5 hg5 O5
        go_wp2_with fail
        refine bodyPost_ret (v := .tuple #[.bool true, .int .i64 0]) (by simp [results, Try.results50, go_sem]) rfl ?_
        have hres := AskE.there (rate := rate) (burst := burst) (now := now) w5 _ HK.out (by have := HLT.out; simp only; omega) HO5.out (by rw [← HV.out, hless]; exact HK5.out)
        rw [← HV.out, d1] at hres
        exact hres
      · have d1 : decide (1 ≤ v) = false := decide_eq_false hy
        have d2 : decide (v < 1) = true := decide_eq_true (by omega)
        have hless : less v = v := by unfold less; rw [if_neg hy]

        go_wp2_with fail
        have c3d : w3.drew.cell? ⟨p, 0, none⟩ = some (.int .i64 now) := c3
        refine wp_region_still_tail 10 (by kernel_rfl) (by kernel_rfl) ?_
        simp only [List.take_succ_cons, List.take_zero, List.drop_succ_cons, List.drop_zero]
        change wpStill _ _ w3.drew (fun a' => wpList _ _ _ _ a' w3.drew) _ _
        repeat (first | still_step | still_call (TL0.out _ _ _ c3d))
        refine wpStill_nil ?_
        have KM4 := Lib.hid (KM3.out.below (rdr.Still.below (rdr.Still.drewN w3 1) w3.heap.size) KM3.out.lt)
        go_wp2_with (at_mapUpdate; refine wp_put (.tmp 55) (.tmp 56) (.tmp 63) b n M ⟨st, v, now⟩ rfl rfl rfl rfl rfl KM4.out hstm (by unfold maxLen; omega) ?_; intro w5 hk5 hg5)
        have O5 : Only b w w5 := (OW3.out.trans (Only.of_below (rdr.Still.below (rdr.Still.drewN w3 1) w3.heap.size))).trans ⟨hg5.os, hg5.tape, hg5.output, hg5.size, fun i hi hne => hg5.block i hi (by intro e; cases e; exact hne rfl)⟩
        have HK5 := Lib.hid hk5
        have HO5 := Lib.hid O5
        clear hk5 hg5 O5
        go_wp2_with fail
        refine bodyPost_ret (v := .tuple #[.bool false, .int .i64 0]) (by simp [results, Try.results50, go_sem]) rfl ?_
        have hres := AskE.there (rate := rate) (burst := burst) (now := now) w5 _ HK.out (by have := HLT.out; simp only; omega) HO5.out (by rw [← HV.out, hless]; exact HK5.out)
        rw [← HV.out, d1] at hres
        exact hres
end Go.Proofs.Ytdikjmhnjlalbaa.gak
