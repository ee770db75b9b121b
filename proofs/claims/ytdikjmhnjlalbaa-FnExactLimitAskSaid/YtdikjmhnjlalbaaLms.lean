/- Contract of LimitRight of the model. -/
import Derived.Test.YtdikjmhnjlalbaaLmr
import Derived.Test.YtdikjmhnjlalbaaGjr
namespace Go.Proofs.Ytdikjmhnjlalbaa.lms
open Go.RowKit Go.Sort Go.Proofs.Ytdikjmhnjlalbaa.tm Go.Proofs.Ytdikjmhnjlalbaa.lib Go.Proofs.Ytdikjmhnjlalbaa.rdr Go.Proofs.Ytdikjmhnjlalbaa.bld Go.Proofs.Ytdikjmhnjlalbaa.ltp Go.Proofs.Ytdikjmhnjlalbaa.gdp Go.Proofs.Ytdikjmhnjlalbaa.rbk Go.Proofs.Ytdikjmhnjlalbaa.gri Go.Proofs.Ytdikjmhnjlalbaa.lmr
set_option linter.unusedVariables false

set_option maxHeartbeats 16000000 in
set_option maxRecDepth 100000 in
theorem specLim_calls (rate burst : Int) (v : Value) (l : List Bk) (w : World) (h : Rbk w v l) (hl : l.length ≤ 2000000) (hs : ∀ b ∈ l, b.st.length ≤ 4000000) :
    Calls Try.prog 15 #[.agg (lmA rate burst v)] w fun e w' => e = .returned (.bool (limR rate burst l)) ∧ Below w.heap.size w w' := by
  obtain ⟨ad, cap, rfl⟩ := h.form
  obtain ⟨n, hn⟩ : ∃ n, n = l.length := ⟨_, rfl⟩
  have H := Lib.hid h
  have HS := Lib.hid hs
  rw [← hn] at H hl ⊢
  have HN := Lib.hid hn
  clear h hs hn
  unfold lmA
  have i1 := lsm.l02Is_calls rate 1 10
  have i2 := lsm.l02Is_calls burst 1 100
  cases e1 : (decide (1 ≤ rate) && decide (rate ≤ 10)) with
  | false =>
    have HF := Lib.hid (limR_no_hd (l := l) (rate := rate) (burst := burst) (by unfold hdR; rw [e1]; simp))
    rw [e1] at i1
    have I1 := Lib.hid i1
    clear i1 i2 e1
    go_enter Try.func15, Try.ntmps15
    go_wp2_with fail
    refine (I1.out _).mono ?_
    rintro e w1 ⟨rfl, rfl⟩
    go_wp2_with fail
    go_ret
    exact ⟨by rw [HF.out]; rfl, new1 _ _⟩
  | true =>
  cases e2 : (decide (1 ≤ burst) && decide (burst ≤ 100)) with
  | false =>
    have HF := Lib.hid (limR_no_hd (l := l) (rate := rate) (burst := burst) (by unfold hdR; rw [e2]; simp))
    rw [e1] at i1
    rw [e2] at i2
    have I1 := Lib.hid i1
    have I2 := Lib.hid i2
    clear i1 i2 e1 e2
    go_enter Try.func15, Try.ntmps15
    go_wp2_with fail
    refine (I1.out _).mono ?_
    rintro e w1 ⟨rfl, rfl⟩
    go_wp2_with fail
    refine (I2.out _).mono ?_
    rintro e w1 ⟨rfl, rfl⟩
    go_wp2_with fail
    go_ret
    exact ⟨by rw [HF.out]; rfl, new1 _ _⟩
  | true =>
  have HH := Lib.hid (show hdR rate burst = true by unfold hdR; rw [e1, e2]; rfl)
  rw [e1] at i1
  rw [e2] at i2
  have I1 := Lib.hid i1
  have I2 := Lib.hid i2
  clear i1 i2 e1 e2
  by_cases r5 : 6 < n
  · have d5 : decide (6 < (n : Int)) = true := decide_eq_true (by omega)
    have HF := Lib.hid (limR_no_len (l := l) (rate := rate) (burst := burst) (by have := HN.out; omega))
    clear r5
    go_enter Try.func15, Try.ntmps15
    go_wp2_with fail
    refine (I1.out _).mono ?_
    rintro e w1 ⟨rfl, rfl⟩
    go_wp2_with fail
    refine (I2.out _).mono ?_
    rintro e w1 ⟨rfl, rfl⟩
    go_wp2_with fail
    go_ret
    exact ⟨by rw [HF.out]; rfl, new1 _ _⟩
  have d5 : decide (6 < (n : Int)) = false := decide_eq_false (by omega)
  go_enter Try.func15, Try.ntmps15
  go_wp2_with fail
  refine (I1.out _).mono ?_
  rintro e w1 ⟨rfl, rfl⟩
  go_wp2_with fail
  refine (I2.out _).mono ?_
  rintro e w1 ⟨rfl, rfl⟩
  go_wp2_with fail
  go_loopw [3, 4, 21, 22, 23, 24, 25, 26, 27, 28, 29, 30, 31, 32, 33, 34, 35, 36, 37, 38, 39, 40, 41, 42, 43, 44, 45, 46, 47, 48, 49, 50, 51, 52, 53, 54, 55, 56, 57, 58, 59, 60, 61, 62, 63, 64, 65, 66] (fun vk _ _ _ _ _ _ _ _ _ _ _ _ _ _ _ _ _ _ _ _ _ _ _ _ _ _ _ _ _ _ _ _ _ _ _ _ _ _ _ _ _ _ _ _ _ _ _ wr => ∃ k : Nat, vk = .int .i64 (k : Nat) ∧ Lk burst l w wr k (.cells #[.int .i64 rate, .int .i64 burst, .slice ad n cap] 36)) (fun vk _ _ _ _ _ _ _ _ _ _ _ _ _ _ _ _ _ _ _ _ _ _ _ _ _ _ _ _ _ _ _ _ _ _ _ _ _ _ _ _ _ _ _ _ _ _ _ _ => n - (intOf vk).toNat)
  case atStart => exact ⟨0, rfl, Nat.zero_le _, okTo_zero _ _, new1 _ _, heap_alloc_new w _⟩
  case round =>
    obtain ⟨k, rfl, hL⟩ := hrel
    have hk : k ≤ n := by have := hL.le; have := HN.out; omega
    have HL := Lib.hid hL
    obtain ⟨p0, p1, p2, pz⟩ := glh.three hL.x
    clear hL
    by_cases hlt : k < n
    · have hk' : k < l.length := by have := HN.out; omega
      obtain ⟨x, hx⟩ : ∃ x, l[k]? = some x := ⟨_, List.getElem?_eq_getElem hk'⟩
      rcases H.out with ⟨h0, _⟩ | ⟨g, off, cap', e, hg, hc⟩
      · rw [h0] at hx; simp at hx
      cases e
      have hgr : g < wr.heap.size := Nat.lt_of_lt_of_le hg HL.out.bel.size
      obtain ⟨q0, q1, q2⟩ := (hc k x hx).same (HL.out.bel.block g hg)
      have HC := Lib.hid hc
      have HX := Lib.hid hx
      obtain ⟨b1, hb1⟩ : ∃ b, b = atomR x.st := ⟨_, rfl⟩
      obtain ⟨b2, hb2⟩ : ∃ b, b = (decide (0 ≤ x.left) && decide (x.left ≤ burst)) := ⟨_, rfl⟩
      obtain ⟨b3, hb3⟩ : ∃ b, b = timeR x.at_ := ⟨_, rfl⟩
      have A1 := Lib.hid (fun w' => (satom x.st (HS.out x (List.mem_of_getElem? hx)) b1 hb1.symm w').mono fun e w'' h => (⟨h.1, h.2 ▸ Below.refl _ _⟩ : e = .returned (.bool b1) ∧ Below w'.heap.size w' w''))
      have a2 := fun w' => (lsm.l02Is_calls x.left 0 burst w').mono fun e w'' h => (⟨h.1, h.2 ▸ Below.refl _ _⟩ : e = .returned (.bool (decide (0 ≤ x.left) && decide (x.left ≤ burst))) ∧ Below w'.heap.size w' w'')
      have a3 := fun w' => (gjr.l05Time_calls x.at_ w').mono fun e w'' h => (⟨h.1, h.2 ▸ Below.refl _ _⟩ : e = .returned (.bool (timeR x.at_)) ∧ Below w'.heap.size w' w'')
      rw [← hb2] at a2
      rw [← hb3] at a3
      have A2 := Lib.hid a2
      have A3 := Lib.hid a3
      have HBB := Lib.hid (show bkR burst x = (b1 && b2 && b3) by unfold bkR; rw [hb1, hb2, hb3])
      clear hc hx hb1 hb2 hb3 a2 a3
      cases b1 with
      | false =>
        have cy := q0
        have Q : (wr.alloc (.cells #[str x.st, .int .i64 x.left, .int .i64 x.at_] 71)).cell? ⟨wr.heap.size, 0, none⟩ = some (str x.st) ∧ (wr.alloc (.cells #[str x.st, .int .i64 x.left, .int .i64 x.at_] 71)).cell? ⟨wr.heap.size, 1, none⟩ = some (.int .i64 x.left) ∧ (wr.alloc (.cells #[str x.st, .int .i64 x.left, .int .i64 x.at_] 71)).cell? ⟨wr.heap.size, 2, none⟩ = some (.int .i64 x.at_) ∧
            (wr.alloc (.cells #[str x.st, .int .i64 x.left, .int .i64 x.at_] 71)).cell? ⟨w.heap.size, 0, none⟩ = some (.int .i64 rate) ∧ (wr.alloc (.cells #[str x.st, .int .i64 x.left, .int .i64 x.at_] 71)).cell? ⟨w.heap.size, 1, none⟩ = some (.int .i64 burst) ∧ (wr.alloc (.cells #[str x.st, .int .i64 x.left, .int .i64 x.at_] 71)).cell? ⟨w.heap.size, 2, none⟩ = some (.slice (some ⟨g, off, none⟩) l.length cap) ∧
            (wr.alloc (.cells #[str x.st, .int .i64 x.left, .int .i64 x.at_] 71)).cell? ⟨g, off + k * 3, none⟩ = some (str x.st) ∧ Below wr.heap.size wr (wr.alloc (.cells #[str x.st, .int .i64 x.left, .int .i64 x.at_] 71)) := by
          have kW := new1 wr (.cells #[str x.st, .int .i64 x.left, .int .i64 x.at_] 71)
          refine ⟨by simp [go_sem], by simp [go_sem], by simp [go_sem], ?_, ?_, ?_, ?_, kW⟩
          · rw [kW.cell (p := ⟨w.heap.size, 0, none⟩) pz]; exact p0
          · rw [kW.cell (p := ⟨w.heap.size, 1, none⟩) pz]; exact p1
          · rw [kW.cell (p := ⟨w.heap.size, 2, none⟩) pz]; exact p2
          · rw [kW.cell (p := ⟨g, off + k * 3, none⟩) hgr]; exact cy
        clear cy hgr
        go_wp2_with fail
        generalize hW : (wr.alloc (.cells #[str x.st, .int .i64 x.left, .int .i64 x.at_] 71)) = W at Q
        refine wp_region_quiet_below (by kernel_rfl) (by kernel_rfl) ?_
        obtain ⟨b0, b1, b2, l0, l1, l2, y0, kW⟩ := Q
        have B0 := fun (d : Nat) (os : Array Obj) => cell_regrown (d := d) (os := os) b0
        have B1 := fun (d : Nat) (os : Array Obj) => cell_regrown (d := d) (os := os) b1
        have B2 := fun (d : Nat) (os : Array Obj) => cell_regrown (d := d) (os := os) b2
        have L1 := fun (d : Nat) (os : Array Obj) => cell_regrown (d := d) (os := os) l1
        have L2 := fun (d : Nat) (os : Array Obj) => cell_regrown (d := d) (os := os) l2
        have Y0 := fun (d : Nat) (os : Array Obj) => cell_regrown (d := d) (os := os) y0
        iterate 3 (quiet_step (exact Calls.regrown_of (A1.out _)))
        iterate 31 (with_reducible refine wpQuiet_step (fun K hK => ?_); go_simp; (try rw [if_neg (by decide)]); with_reducible refine hK _ ?_; clear hK K)
        with_reducible refine wpQuiet_nil ?_
        rintro w2 ⟨⟨dq, osq⟩, hw2⟩
        have HB2 := Lib.hid (kW.trans ((show Below W.heap.size W w2 by rw [hw2]; exact below_regrown _ _ _).mono kW.size))
        clear hw2 hW b0 b1 b2 l0 l1 l2 y0 B0 B1 B2 L1 L2 Y0 kW
        go_wp2_with fail
        go_ret
        exact ⟨by rw [limR_no_b HX.out (by rw [HBB.out]; simp)]; rfl, HL.out.bel.trans (HB2.out.mono HL.out.bel.size)⟩
      | true =>
        cases k with
        | zero =>
          simp only [Nat.zero_mul, Nat.add_zero] at q0 q1 q2
          have cy := q0
          have Q : (wr.alloc (.cells #[str x.st, .int .i64 x.left, .int .i64 x.at_] 71)).cell? ⟨wr.heap.size, 0, none⟩ = some (str x.st) ∧ (wr.alloc (.cells #[str x.st, .int .i64 x.left, .int .i64 x.at_] 71)).cell? ⟨wr.heap.size, 1, none⟩ = some (.int .i64 x.left) ∧ (wr.alloc (.cells #[str x.st, .int .i64 x.left, .int .i64 x.at_] 71)).cell? ⟨wr.heap.size, 2, none⟩ = some (.int .i64 x.at_) ∧
              (wr.alloc (.cells #[str x.st, .int .i64 x.left, .int .i64 x.at_] 71)).cell? ⟨w.heap.size, 0, none⟩ = some (.int .i64 rate) ∧ (wr.alloc (.cells #[str x.st, .int .i64 x.left, .int .i64 x.at_] 71)).cell? ⟨w.heap.size, 1, none⟩ = some (.int .i64 burst) ∧ (wr.alloc (.cells #[str x.st, .int .i64 x.left, .int .i64 x.at_] 71)).cell? ⟨w.heap.size, 2, none⟩ = some (.slice (some ⟨g, off, none⟩) l.length cap) ∧
              (wr.alloc (.cells #[str x.st, .int .i64 x.left, .int .i64 x.at_] 71)).cell? ⟨g, off, none⟩ = some (str x.st) ∧ Below wr.heap.size wr (wr.alloc (.cells #[str x.st, .int .i64 x.left, .int .i64 x.at_] 71)) := by
            have kW := new1 wr (.cells #[str x.st, .int .i64 x.left, .int .i64 x.at_] 71)
            refine ⟨by simp [go_sem], by simp [go_sem], by simp [go_sem], ?_, ?_, ?_, ?_, kW⟩
            · rw [kW.cell (p := ⟨w.heap.size, 0, none⟩) pz]; exact p0
            · rw [kW.cell (p := ⟨w.heap.size, 1, none⟩) pz]; exact p1
            · rw [kW.cell (p := ⟨w.heap.size, 2, none⟩) pz]; exact p2
            · rw [kW.cell (p := ⟨g, off, none⟩) hgr]; exact cy
          clear cy hgr
          cases b2 with
          | false =>
            go_wp2_with fail
            generalize hW : (wr.alloc (.cells #[str x.st, .int .i64 x.left, .int .i64 x.at_] 71)) = W at Q
            refine wp_region_quiet_below (by kernel_rfl) (by kernel_rfl) ?_
            obtain ⟨b0, b1, b2, l0, l1, l2, y0, kW⟩ := Q
            have B0 := fun (d : Nat) (os : Array Obj) => cell_regrown (d := d) (os := os) b0
            have B1 := fun (d : Nat) (os : Array Obj) => cell_regrown (d := d) (os := os) b1
            have B2 := fun (d : Nat) (os : Array Obj) => cell_regrown (d := d) (os := os) b2
            have L1 := fun (d : Nat) (os : Array Obj) => cell_regrown (d := d) (os := os) l1
            have L2 := fun (d : Nat) (os : Array Obj) => cell_regrown (d := d) (os := os) l2
            have Y0 := fun (d : Nat) (os : Array Obj) => cell_regrown (d := d) (os := os) y0
            iterate 3 (quiet_step (exact Calls.regrown_of (A1.out _)))
            iterate 22 (with_reducible refine wpQuiet_step (fun K hK => ?_); go_simp; (try rw [if_neg (by decide)]); with_reducible refine hK _ ?_; clear hK K)
            quiet_step (exact Calls.regrown_of (A2.out _))
            iterate 8 (with_reducible refine wpQuiet_step (fun K hK => ?_); go_simp; (try rw [if_neg (by decide)]); with_reducible refine hK _ ?_; clear hK K)
            with_reducible refine wpQuiet_nil ?_
            rintro w2 ⟨⟨dq, osq⟩, hw2⟩
            have HB2 := Lib.hid (kW.trans ((show Below W.heap.size W w2 by rw [hw2]; exact below_regrown _ _ _).mono kW.size))
            clear hw2 hW b0 b1 b2 l0 l1 l2 y0 B0 B1 B2 L1 L2 Y0 kW
            go_wp2_with fail
            go_ret
            exact ⟨by rw [limR_no_b HX.out (by rw [HBB.out]; simp)]; rfl, HL.out.bel.trans (HB2.out.mono HL.out.bel.size)⟩
          | true =>
            cases b3 with
            | false =>
              go_wp2_with fail
              generalize hW : (wr.alloc (.cells #[str x.st, .int .i64 x.left, .int .i64 x.at_] 71)) = W at Q
              refine wp_region_quiet_below (by kernel_rfl) (by kernel_rfl) ?_
              obtain ⟨b0, b1, b2, l0, l1, l2, y0, kW⟩ := Q
              have B0 := fun (d : Nat) (os : Array Obj) => cell_regrown (d := d) (os := os) b0
              have B1 := fun (d : Nat) (os : Array Obj) => cell_regrown (d := d) (os := os) b1
              have B2 := fun (d : Nat) (os : Array Obj) => cell_regrown (d := d) (os := os) b2
              have L1 := fun (d : Nat) (os : Array Obj) => cell_regrown (d := d) (os := os) l1
              have L2 := fun (d : Nat) (os : Array Obj) => cell_regrown (d := d) (os := os) l2
              have Y0 := fun (d : Nat) (os : Array Obj) => cell_regrown (d := d) (os := os) y0
              iterate 3 (quiet_step (exact Calls.regrown_of (A1.out _)))
              iterate 22 (with_reducible refine wpQuiet_step (fun K hK => ?_); go_simp; (try rw [if_neg (by decide)]); with_reducible refine hK _ ?_; clear hK K)
              quiet_step (exact Calls.regrown_of (A2.out _))
              iterate 5 (with_reducible refine wpQuiet_step (fun K hK => ?_); go_simp; (try rw [if_neg (by decide)]); with_reducible refine hK _ ?_; clear hK K)
              quiet_step (exact Calls.regrown_of (A3.out _))
              iterate 2 (with_reducible refine wpQuiet_step (fun K hK => ?_); go_simp; (try rw [if_neg (by decide)]); with_reducible refine hK _ ?_; clear hK K)
              with_reducible refine wpQuiet_nil ?_
              rintro w2 ⟨⟨dq, osq⟩, hw2⟩
              have HB2 := Lib.hid (kW.trans ((show Below W.heap.size W w2 by rw [hw2]; exact below_regrown _ _ _).mono kW.size))
              clear hw2 hW b0 b1 b2 l0 l1 l2 y0 B0 B1 B2 L1 L2 Y0 kW
              go_wp2_with fail
              go_ret
              exact ⟨by rw [limR_no_b HX.out (by rw [HBB.out]; simp)]; rfl, HL.out.bel.trans (HB2.out.mono HL.out.bel.size)⟩
            | true =>
              go_wp2_with fail
              generalize hW : (wr.alloc (.cells #[str x.st, .int .i64 x.left, .int .i64 x.at_] 71)) = W at Q
              refine wp_region_quiet_below (by kernel_rfl) (by kernel_rfl) ?_
              obtain ⟨b0, b1, b2, l0, l1, l2, y0, kW⟩ := Q
              have B0 := fun (d : Nat) (os : Array Obj) => cell_regrown (d := d) (os := os) b0
              have B1 := fun (d : Nat) (os : Array Obj) => cell_regrown (d := d) (os := os) b1
              have B2 := fun (d : Nat) (os : Array Obj) => cell_regrown (d := d) (os := os) b2
              have L1 := fun (d : Nat) (os : Array Obj) => cell_regrown (d := d) (os := os) l1
              have L2 := fun (d : Nat) (os : Array Obj) => cell_regrown (d := d) (os := os) l2
              have Y0 := fun (d : Nat) (os : Array Obj) => cell_regrown (d := d) (os := os) y0
              iterate 3 (quiet_step (exact Calls.regrown_of (A1.out _)))
              iterate 22 (with_reducible refine wpQuiet_step (fun K hK => ?_); go_simp; (try rw [if_neg (by decide)]); with_reducible refine hK _ ?_; clear hK K)
              quiet_step (exact Calls.regrown_of (A2.out _))
              iterate 5 (with_reducible refine wpQuiet_step (fun K hK => ?_); go_simp; (try rw [if_neg (by decide)]); with_reducible refine hK _ ?_; clear hK K)
              quiet_step (exact Calls.regrown_of (A3.out _))
              iterate 2 (with_reducible refine wpQuiet_step (fun K hK => ?_); go_simp; (try rw [if_neg (by decide)]); with_reducible refine hK _ ?_; clear hK K)
              with_reducible refine wpQuiet_nil ?_
              rintro w2 ⟨⟨dq, osq⟩, hw2⟩
              have HB2 := Lib.hid (kW.trans ((show Below W.heap.size W w2 by rw [hw2]; exact below_regrown _ _ _).mono kW.size))
              clear hw2 hW b0 b1 b2 l0 l1 l2 y0 B0 B1 B2 L1 L2 Y0 kW
              go_wp2_with fail
              go_roundw
              case rel => exact ⟨0 + 1, by simp, HL.out.step HX.out (by rw [HBB.out]; rfl) (fun a h0 _ => by omega) HB2.out⟩
              case measure => simp [intOf]; omega
        | succ m =>
          obtain ⟨y, hy⟩ : ∃ y, l[m]? = some y := ⟨_, List.getElem?_eq_getElem (by omega)⟩
          have cy := ((HC.out m y hy).same (HL.out.bel.block g hg)).1
          have HY := Lib.hid hy
          have h0 : (0 : Int) ≤ (m : Int) + 1 := by omega
          have hp0 : decide ((0 : Int) < (m : Int) + 1) = true := decide_eq_true (by omega)
          have hwm : IntKind.i64.wrap (m : Int) = (m : Int) := by rw [IntKind.wrap_i64]; omega
          have h1m : m < l.length := by omega
          clear hy
          have Q : (wr.alloc (.cells #[str x.st, .int .i64 x.left, .int .i64 x.at_] 71)).cell? ⟨wr.heap.size, 0, none⟩ = some (str x.st) ∧ (wr.alloc (.cells #[str x.st, .int .i64 x.left, .int .i64 x.at_] 71)).cell? ⟨wr.heap.size, 1, none⟩ = some (.int .i64 x.left) ∧ (wr.alloc (.cells #[str x.st, .int .i64 x.left, .int .i64 x.at_] 71)).cell? ⟨wr.heap.size, 2, none⟩ = some (.int .i64 x.at_) ∧
              (wr.alloc (.cells #[str x.st, .int .i64 x.left, .int .i64 x.at_] 71)).cell? ⟨w.heap.size, 0, none⟩ = some (.int .i64 rate) ∧ (wr.alloc (.cells #[str x.st, .int .i64 x.left, .int .i64 x.at_] 71)).cell? ⟨w.heap.size, 1, none⟩ = some (.int .i64 burst) ∧ (wr.alloc (.cells #[str x.st, .int .i64 x.left, .int .i64 x.at_] 71)).cell? ⟨w.heap.size, 2, none⟩ = some (.slice (some ⟨g, off, none⟩) l.length cap) ∧
              (wr.alloc (.cells #[str x.st, .int .i64 x.left, .int .i64 x.at_] 71)).cell? ⟨g, off + m * 3, none⟩ = some (str y.st) ∧ Below wr.heap.size wr (wr.alloc (.cells #[str x.st, .int .i64 x.left, .int .i64 x.at_] 71)) := by
            have kW := new1 wr (.cells #[str x.st, .int .i64 x.left, .int .i64 x.at_] 71)
            refine ⟨by simp [go_sem], by simp [go_sem], by simp [go_sem], ?_, ?_, ?_, ?_, kW⟩
            · rw [kW.cell (p := ⟨w.heap.size, 0, none⟩) pz]; exact p0
            · rw [kW.cell (p := ⟨w.heap.size, 1, none⟩) pz]; exact p1
            · rw [kW.cell (p := ⟨w.heap.size, 2, none⟩) pz]; exact p2
            · rw [kW.cell (p := ⟨g, off + m * 3, none⟩) hgr]; exact cy
          clear cy hgr
          by_cases hyx : y.st < x.st
          · have s1 : Op.bytesLess y.st x.st = true := by rw [bytesLess_eq]; simpa using hyx
            have HR := Lib.hid hyx
            clear hyx
            cases b2 with
            | false =>
              go_wp2_with fail
              generalize hW : (wr.alloc (.cells #[str x.st, .int .i64 x.left, .int .i64 x.at_] 71)) = W at Q
              refine wp_region_quiet_below (by kernel_rfl) (by kernel_rfl) ?_
              obtain ⟨b0, b1, b2, l0, l1, l2, y0, kW⟩ := Q
              have B0 := fun (d : Nat) (os : Array Obj) => cell_regrown (d := d) (os := os) b0
              have B1 := fun (d : Nat) (os : Array Obj) => cell_regrown (d := d) (os := os) b1
              have B2 := fun (d : Nat) (os : Array Obj) => cell_regrown (d := d) (os := os) b2
              have L1 := fun (d : Nat) (os : Array Obj) => cell_regrown (d := d) (os := os) l1
              have L2 := fun (d : Nat) (os : Array Obj) => cell_regrown (d := d) (os := os) l2
              have Y0 := fun (d : Nat) (os : Array Obj) => cell_regrown (d := d) (os := os) y0
              iterate 3 (quiet_step (exact Calls.regrown_of (A1.out _)))
              iterate 22 (with_reducible refine wpQuiet_step (fun K hK => ?_); go_simp; (try rw [if_neg (by decide)]); with_reducible refine hK _ ?_; clear hK K)
              quiet_step (exact Calls.regrown_of (A2.out _))
              iterate 8 (with_reducible refine wpQuiet_step (fun K hK => ?_); go_simp; (try rw [if_neg (by decide)]); with_reducible refine hK _ ?_; clear hK K)
              with_reducible refine wpQuiet_nil ?_
              rintro w2 ⟨⟨dq, osq⟩, hw2⟩
              have HB2 := Lib.hid (kW.trans ((show Below W.heap.size W w2 by rw [hw2]; exact below_regrown _ _ _).mono kW.size))
              clear hw2 hW b0 b1 b2 l0 l1 l2 y0 B0 B1 B2 L1 L2 Y0 kW
              go_wp2_with fail
              go_ret
              exact ⟨by rw [limR_no_b HX.out (by rw [HBB.out]; simp)]; rfl, HL.out.bel.trans (HB2.out.mono HL.out.bel.size)⟩
            | true =>
              cases b3 with
              | false =>
                go_wp2_with fail
                generalize hW : (wr.alloc (.cells #[str x.st, .int .i64 x.left, .int .i64 x.at_] 71)) = W at Q
                refine wp_region_quiet_below (by kernel_rfl) (by kernel_rfl) ?_
                obtain ⟨b0, b1, b2, l0, l1, l2, y0, kW⟩ := Q
                have B0 := fun (d : Nat) (os : Array Obj) => cell_regrown (d := d) (os := os) b0
                have B1 := fun (d : Nat) (os : Array Obj) => cell_regrown (d := d) (os := os) b1
                have B2 := fun (d : Nat) (os : Array Obj) => cell_regrown (d := d) (os := os) b2
                have L1 := fun (d : Nat) (os : Array Obj) => cell_regrown (d := d) (os := os) l1
                have L2 := fun (d : Nat) (os : Array Obj) => cell_regrown (d := d) (os := os) l2
                have Y0 := fun (d : Nat) (os : Array Obj) => cell_regrown (d := d) (os := os) y0
                iterate 3 (quiet_step (exact Calls.regrown_of (A1.out _)))
                iterate 22 (with_reducible refine wpQuiet_step (fun K hK => ?_); go_simp; (try rw [if_neg (by decide)]); with_reducible refine hK _ ?_; clear hK K)
                quiet_step (exact Calls.regrown_of (A2.out _))
                iterate 5 (with_reducible refine wpQuiet_step (fun K hK => ?_); go_simp; (try rw [if_neg (by decide)]); with_reducible refine hK _ ?_; clear hK K)
                quiet_step (exact Calls.regrown_of (A3.out _))
                iterate 2 (with_reducible refine wpQuiet_step (fun K hK => ?_); go_simp; (try rw [if_neg (by decide)]); with_reducible refine hK _ ?_; clear hK K)
                with_reducible refine wpQuiet_nil ?_
                rintro w2 ⟨⟨dq, osq⟩, hw2⟩
                have HB2 := Lib.hid (kW.trans ((show Below W.heap.size W w2 by rw [hw2]; exact below_regrown _ _ _).mono kW.size))
                clear hw2 hW b0 b1 b2 l0 l1 l2 y0 B0 B1 B2 L1 L2 Y0 kW
                go_wp2_with fail
                go_ret
                exact ⟨by rw [limR_no_b HX.out (by rw [HBB.out]; simp)]; rfl, HL.out.bel.trans (HB2.out.mono HL.out.bel.size)⟩
              | true =>
                go_wp2_with fail
                generalize hW : (wr.alloc (.cells #[str x.st, .int .i64 x.left, .int .i64 x.at_] 71)) = W at Q
                refine wp_region_quiet_below (by kernel_rfl) (by kernel_rfl) ?_
                obtain ⟨b0, b1, b2, l0, l1, l2, y0, kW⟩ := Q
                have B0 := fun (d : Nat) (os : Array Obj) => cell_regrown (d := d) (os := os) b0
                have B1 := fun (d : Nat) (os : Array Obj) => cell_regrown (d := d) (os := os) b1
                have B2 := fun (d : Nat) (os : Array Obj) => cell_regrown (d := d) (os := os) b2
                have L1 := fun (d : Nat) (os : Array Obj) => cell_regrown (d := d) (os := os) l1
                have L2 := fun (d : Nat) (os : Array Obj) => cell_regrown (d := d) (os := os) l2
                have Y0 := fun (d : Nat) (os : Array Obj) => cell_regrown (d := d) (os := os) y0
                iterate 3 (quiet_step (exact Calls.regrown_of (A1.out _)))
                iterate 22 (with_reducible refine wpQuiet_step (fun K hK => ?_); go_simp; (try rw [if_neg (by decide)]); with_reducible refine hK _ ?_; clear hK K)
                quiet_step (exact Calls.regrown_of (A2.out _))
                iterate 5 (with_reducible refine wpQuiet_step (fun K hK => ?_); go_simp; (try rw [if_neg (by decide)]); with_reducible refine hK _ ?_; clear hK K)
                quiet_step (exact Calls.regrown_of (A3.out _))
                iterate 2 (with_reducible refine wpQuiet_step (fun K hK => ?_); go_simp; (try rw [if_neg (by decide)]); with_reducible refine hK _ ?_; clear hK K)
                with_reducible refine wpQuiet_nil ?_
                rintro w2 ⟨⟨dq, osq⟩, hw2⟩
                have HB2 := Lib.hid (kW.trans ((show Below W.heap.size W w2 by rw [hw2]; exact below_regrown _ _ _).mono kW.size))
                clear hw2 hW b0 b1 b2 l0 l1 l2 y0 B0 B1 B2 L1 L2 Y0 kW
                go_wp2_with fail
                go_roundw
                case rel => exact ⟨m + 1 + 1, by simp, HL.out.step HX.out (by rw [HBB.out]; rfl) (fun a _ ha => by rw [show m + 1 - 1 = m by omega, HY.out] at ha; cases ha; exact HR.out) HB2.out⟩
                case measure => simp [intOf]; omega
          · have s1 : Op.bytesLess y.st x.st = false := by rw [bytesLess_eq]; simpa using hyx
            have HR := Lib.hid hyx
            clear hyx
            go_wp2_with fail
            generalize hW : (wr.alloc (.cells #[str x.st, .int .i64 x.left, .int .i64 x.at_] 71)) = W at Q
            refine wp_region_quiet_below (by kernel_rfl) (by kernel_rfl) ?_
            obtain ⟨b0, b1, b2, l0, l1, l2, y0, kW⟩ := Q
            have B0 := fun (d : Nat) (os : Array Obj) => cell_regrown (d := d) (os := os) b0
            have B1 := fun (d : Nat) (os : Array Obj) => cell_regrown (d := d) (os := os) b1
            have B2 := fun (d : Nat) (os : Array Obj) => cell_regrown (d := d) (os := os) b2
            have L1 := fun (d : Nat) (os : Array Obj) => cell_regrown (d := d) (os := os) l1
            have L2 := fun (d : Nat) (os : Array Obj) => cell_regrown (d := d) (os := os) l2
            have Y0 := fun (d : Nat) (os : Array Obj) => cell_regrown (d := d) (os := os) y0
            iterate 3 (quiet_step (exact Calls.regrown_of (A1.out _)))
            iterate 31 (with_reducible refine wpQuiet_step (fun K hK => ?_); go_simp; (try rw [if_neg (by decide)]); with_reducible refine hK _ ?_; clear hK K)
            with_reducible refine wpQuiet_nil ?_
            rintro w2 ⟨⟨dq, osq⟩, hw2⟩
            have HB2 := Lib.hid (kW.trans ((show Below W.heap.size W w2 by rw [hw2]; exact below_regrown _ _ _).mono kW.size))
            clear hw2 hW b0 b1 b2 l0 l1 l2 y0 B0 B1 B2 L1 L2 Y0 kW
            go_wp2_with fail
            go_ret
            exact ⟨by rw [limR_no_r HY.out HX.out HR.out]; rfl, HL.out.bel.trans (HB2.out.mono HL.out.bel.size)⟩
    · obtain rfl : k = n := by omega
      have HR := Lib.hid (limR_all (l := l) HH.out (by have := HN.out; omega) (by have h := HL.out.ok; rw [HN.out] at h; exact h))
      go_wp2_with fail
      go_ret
      exact ⟨by rw [HR.out]; rfl, HL.out.bel⟩
end Go.Proofs.Ytdikjmhnjlalbaa.lms
