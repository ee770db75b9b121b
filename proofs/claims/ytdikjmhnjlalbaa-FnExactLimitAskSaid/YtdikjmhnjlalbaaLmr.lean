/- Contracts of LimitRight and bucketRight of the program. -/
import Derived.Test.YtdikjmhnjlalbaaGri
import Derived.Test.YtdikjmhnjlalbaaTim
import Derived.Test.YtdikjmhnjlalbaaGl0
import Derived.StillTailTactics
import Derived.Lib.QuietBelow
namespace Go.Proofs.Ytdikjmhnjlalbaa.lmr
open Go.RowKit Go.Sort Go.Proofs.Ytdikjmhnjlalbaa.tm Go.Proofs.Ytdikjmhnjlalbaa.lib Go.Proofs.Ytdikjmhnjlalbaa.rdr Go.Proofs.Ytdikjmhnjlalbaa.bld Go.Proofs.Ytdikjmhnjlalbaa.ltp Go.Proofs.Ytdikjmhnjlalbaa.gdp Go.Proofs.Ytdikjmhnjlalbaa.rbk Go.Proofs.Ytdikjmhnjlalbaa.gri
set_option linter.unusedVariables false

set_option maxHeartbeats 2000000 in
set_option maxRecDepth 100000 in
theorem bucketRight_calls (b : Bk) (burst : Int) (hs : b.st.length ≤ 4000000) (w : World) :
    Calls Try.prog 43 #[.agg (bkA b), .int .i64 burst] w fun e w' => e = .returned (.bool (bkR burst b)) ∧ Below w.heap.size w w' := by
  obtain ⟨s, x, t⟩ := b
  unfold bkA bkR
  simp only at hs ⊢
  obtain ⟨b1, hb1⟩ : ∃ b, b = atomR s := ⟨_, rfl⟩
  obtain ⟨b3, hb3⟩ : ∃ b, b = timeR t := ⟨_, rfl⟩
  have I1 := Lib.hid (iatom s hs b1 hb1.symm)
  have I3 := Lib.hid (lri.isTime_calls t)
  rw [← hb1]
  rw [← hb3] at I3 ⊢
  clear hb1 hb3 hs
  cases b1
  · simp only [Bool.false_and]
    go_enter Try.func43, Try.ntmps43
    go_wp2_with fail
    refine (I1.out _).mono ?_
    rintro e w1 ⟨rfl, rfl⟩
    go_wp2_with fail
    go_ret
    exact ⟨rfl, new1 _ _⟩
  simp only [Bool.true_and]
  by_cases e1 : 0 ≤ x
  · have d1 : decide (0 ≤ x) = true := by simp [e1]
    by_cases e2 : x ≤ burst
    · have d2 : decide (x ≤ burst) = true := by simp [e2]
      rw [d1, d2]
      simp only [Bool.true_and]
      go_enter Try.func43, Try.ntmps43
      go_wp2_with fail
      refine (I1.out _).mono ?_
      rintro e w1 ⟨rfl, rfl⟩
      go_wp2_with fail
      refine (I3.out _).mono ?_
      rintro e w1 ⟨rfl, rfl⟩
      go_wp2_with fail
      go_ret
      exact ⟨rfl, new1 _ _⟩
    · have d2 : decide (x ≤ burst) = false := by simp; omega
      rw [d2]
      simp only [Bool.and_false, Bool.false_and]
      go_enter Try.func43, Try.ntmps43
      go_wp2_with fail
      refine (I1.out _).mono ?_
      rintro e w1 ⟨rfl, rfl⟩
      go_wp2_with fail
      go_ret
      exact ⟨rfl, new1 _ _⟩
  · have d1 : decide (0 ≤ x) = false := by simp; omega
    rw [d1]
    simp only [Bool.false_and]
    go_enter Try.func43, Try.ntmps43
    go_wp2_with fail
    refine (I1.out _).mono ?_
    rintro e w1 ⟨rfl, rfl⟩
    go_wp2_with fail
    go_ret
    exact ⟨rfl, new1 _ _⟩

/-- Behind k buckets that are right. -/
structure Lk (burst : Int) (l : List Bk) (w wr : World) (k : Nat) (o : Obj) : Prop where
  le : k ≤ l.length
  ok : okTo burst l k
  bel : Below w.heap.size w wr
  x : wr.heap[w.heap.size]? = some o

theorem Lk.step {burst : Int} {l : List Bk} {w wr w2 : World} {k : Nat} {o : Obj} {b : Bk} (h : Lk burst l w wr k o) (hb : l[k]? = some b) (h1 : bkR burst b = true) (h2 : ∀ a, 0 < k → l[k - 1]? = some a → a.st < b.st) (hw : Below wr.heap.size wr w2) : Lk burst l w w2 (k + 1) o :=
  ⟨(List.getElem?_eq_some_iff.1 hb).1, okTo_step h.ok hb h1 h2, h.bel.trans (hw.mono h.bel.size), glh.keptB h.x hw⟩

set_option maxHeartbeats 16000000 in
set_option maxRecDepth 100000 in
theorem implLim_calls (rate burst : Int) (v : Value) (l : List Bk) (w : World) (h : Rbk w v l) (hl : l.length ≤ 2000000) (hs : ∀ b ∈ l, b.st.length ≤ 4000000) :
    Calls Try.prog 17 #[.agg (lmA rate burst v)] w fun e w' => e = .returned (.bool (limR rate burst l)) ∧ Below w.heap.size w w' := by
  obtain ⟨ad, cap, rfl⟩ := h.form
  obtain ⟨n, hn⟩ : ∃ n, n = l.length := ⟨_, rfl⟩
  have H := Lib.hid h
  have HS := Lib.hid hs
  rw [← hn] at H hl ⊢
  have HN := Lib.hid hn
  clear h hs hn
  unfold lmA
  by_cases r1 : rate < 1
  · have d1 : decide (rate < 1) = true := by simp [r1]
    have HF := Lib.hid (limR_no_hd (l := l) (rate := rate) (burst := burst) (by unfold hdR; rw [show decide (1 ≤ rate) = false by simp; omega]; simp))
    clear r1
    go_enter Try.func17, Try.ntmps17
    go_wp2_with fail
    go_ret
    exact ⟨by rw [HF.out]; rfl, new1 _ _⟩
  have d1 : decide (rate < 1) = false := by simp; omega
  by_cases r2 : 10 < rate
  · have d2 : decide (10 < rate) = true := by simp [r2]
    have HF := Lib.hid (limR_no_hd (l := l) (rate := rate) (burst := burst) (by unfold hdR; rw [show decide (rate ≤ 10) = false by simp; omega]; simp))
    clear r1 r2
    go_enter Try.func17, Try.ntmps17
    go_wp2_with fail
    go_ret
    exact ⟨by rw [HF.out]; rfl, new1 _ _⟩
  have d2 : decide (10 < rate) = false := by simp; omega
  by_cases r3 : burst < 1
  · have d3 : decide (burst < 1) = true := by simp [r3]
    have HF := Lib.hid (limR_no_hd (l := l) (rate := rate) (burst := burst) (by unfold hdR; rw [show decide (1 ≤ burst) = false by simp; omega]; simp))
    clear r1 r2 r3
    go_enter Try.func17, Try.ntmps17
    go_wp2_with fail
    go_ret
    exact ⟨by rw [HF.out]; rfl, new1 _ _⟩
  have d3 : decide (burst < 1) = false := by simp; omega
  by_cases r4 : 100 < burst
  · have d4 : decide (100 < burst) = true := by simp [r4]
    have HF := Lib.hid (limR_no_hd (l := l) (rate := rate) (burst := burst) (by unfold hdR; rw [show decide (burst ≤ 100) = false by simp; omega]; simp))
    clear r1 r2 r3 r4
    go_enter Try.func17, Try.ntmps17
    go_wp2_with fail
    go_ret
    exact ⟨by rw [HF.out]; rfl, new1 _ _⟩
  have d4 : decide (100 < burst) = false := by simp; omega
  have HH := Lib.hid (show hdR rate burst = true by unfold hdR; simp; omega)
  clear r1 r2 r3 r4
  by_cases r5 : 6 < n
  · have d5 : decide (6 < (n : Int)) = true := by simp; omega
    have HF := Lib.hid (limR_no_len (l := l) (rate := rate) (burst := burst) (by have := HN.out; omega))
    clear r5
    go_enter Try.func17, Try.ntmps17
    go_wp2_with fail
    go_ret
    exact ⟨by rw [HF.out]; rfl, new1 _ _⟩
  have d5 : decide (6 < (n : Int)) = false := by simp; omega
  go_enter Try.func17, Try.ntmps17
  go_wp2_with fail
  go_loopw [3, 4, 32, 33, 34, 35, 36, 37, 38, 39, 40, 41, 42, 43, 44, 45, 46, 47, 48, 49, 50, 51, 52, 53, 54, 55, 56, 57, 58] (fun _ _ vk _ _ _ _ _ _ _ _ _ _ _ _ _ _ _ _ _ _ _ _ _ _ _ _ _ _ wr => ∃ k : Nat, vk = .int .i64 (k : Nat) ∧ Lk burst l w wr k (.cells #[.int .i64 rate, .int .i64 burst, .slice ad n cap] 36)) (fun _ _ vk _ _ _ _ _ _ _ _ _ _ _ _ _ _ _ _ _ _ _ _ _ _ _ _ _ _ _ => n - (intOf vk).toNat)
  case atStart => exact ⟨0, rfl, Nat.zero_le _, okTo_zero _ _, new1 _ _, heap_alloc_new w _⟩
  case round =>
    obtain ⟨k, rfl, hL⟩ := hrel
    have hk : k ≤ n := by have := hL.le; have := HN.out; omega
    have HL := Lib.hid hL
    obtain ⟨p0, p1, p2, pz⟩ := glh.three hL.x
    clear hL
    by_cases hlt : k < n
    · have hk' : k < l.length := by have := HN.out; omega
      obtain ⟨x, hx⟩ : ∃ x, l[k]? = some x := ⟨_, List.getElem?_eq_getElem hk'⟩
      rcases H.out with ⟨h0, _⟩ | ⟨g, off, cap', e, hg, hc⟩
      · rw [h0] at hx; simp at hx
      cases e
      have hgr : g < wr.heap.size := Nat.lt_of_lt_of_le hg HL.out.bel.size
      obtain ⟨q0, q1, q2⟩ := (hc k x hx).same (HL.out.bel.block g hg)
      have HC := Lib.hid hc
      have HX := Lib.hid hx
      obtain ⟨bb, hbb⟩ : ∃ b, b = bkR burst x := ⟨_, rfl⟩
      have a1 := fun w' => bucketRight_calls x burst (HS.out x (List.mem_of_getElem? hx)) w'
      rw [← hbb] at a1
      have HBB := Lib.hid hbb
      unfold bkA at a1
      clear hc hx hbb
      cases bb with
      | false =>
        have cy := q0
        have Q : (wr.alloc (.cells #[str x.st, .int .i64 x.left, .int .i64 x.at_] 71)).cell? ⟨wr.heap.size, 0, none⟩ = some (str x.st) ∧ (wr.alloc (.cells #[str x.st, .int .i64 x.left, .int .i64 x.at_] 71)).cell? ⟨wr.heap.size, 1, none⟩ = some (.int .i64 x.left) ∧ (wr.alloc (.cells #[str x.st, .int .i64 x.left, .int .i64 x.at_] 71)).cell? ⟨wr.heap.size, 2, none⟩ = some (.int .i64 x.at_) ∧
          (wr.alloc (.cells #[str x.st, .int .i64 x.left, .int .i64 x.at_] 71)).cell? ⟨w.heap.size, 0, none⟩ = some (.int .i64 rate) ∧ (wr.alloc (.cells #[str x.st, .int .i64 x.left, .int .i64 x.at_] 71)).cell? ⟨w.heap.size, 1, none⟩ = some (.int .i64 burst) ∧ (wr.alloc (.cells #[str x.st, .int .i64 x.left, .int .i64 x.at_] 71)).cell? ⟨w.heap.size, 2, none⟩ = some (.slice (some ⟨g, off, none⟩) l.length cap) ∧
          (wr.alloc (.cells #[str x.st, .int .i64 x.left, .int .i64 x.at_] 71)).cell? ⟨g, off + k * 3, none⟩ = some (str x.st) ∧ Below wr.heap.size wr (wr.alloc (.cells #[str x.st, .int .i64 x.left, .int .i64 x.at_] 71)) := by
          have kW := new1 wr (.cells #[str x.st, .int .i64 x.left, .int .i64 x.at_] 71)
          refine ⟨by simp [go_sem], by simp [go_sem], by simp [go_sem], ?_, ?_, ?_, ?_, kW⟩
          · rw [kW.cell (p := ⟨w.heap.size, 0, none⟩) pz]; exact p0
          · rw [kW.cell (p := ⟨w.heap.size, 1, none⟩) pz]; exact p1
          · rw [kW.cell (p := ⟨w.heap.size, 2, none⟩) pz]; exact p2
          · rw [kW.cell (p := ⟨g, off + k * 3, none⟩) hgr]; exact cy
        clear cy hgr
        go_wp2_with fail
        generalize hW : (wr.alloc (.cells #[str x.st, .int .i64 x.left, .int .i64 x.at_] 71)) = W at Q
        refine wp_region_quiet_below (by kernel_rfl) (by kernel_rfl) ?_
        obtain ⟨b0, b1, b2, l0, l1, l2, y0, kW⟩ := Q
        have B0 := fun (d : Nat) (os : Array Obj) => cell_regrown (d := d) (os := os) b0
        have B1 := fun (d : Nat) (os : Array Obj) => cell_regrown (d := d) (os := os) b1
        have B2 := fun (d : Nat) (os : Array Obj) => cell_regrown (d := d) (os := os) b2
        have L1 := fun (d : Nat) (os : Array Obj) => cell_regrown (d := d) (os := os) l1
        have L2 := fun (d : Nat) (os : Array Obj) => cell_regrown (d := d) (os := os) l2
        have Y0 := fun (d : Nat) (os : Array Obj) => cell_regrown (d := d) (os := os) y0
        iterate 4 (quiet_step (exact Calls.regrown_of (a1 _)))
        iterate 17 (with_reducible refine wpQuiet_step (fun K hK => ?_); go_simp; (try rw [if_neg (by decide)]); with_reducible refine hK _ ?_; clear hK K)
        with_reducible refine wpQuiet_nil ?_
        rintro w2 ⟨⟨dq, osq⟩, hw2⟩
        have HB2 := Lib.hid (kW.trans ((show Below W.heap.size W w2 by rw [hw2]; exact below_regrown _ _ _).mono kW.size))
        clear hw2 hW b0 b1 b2 l0 l1 l2 y0 B0 B1 B2 L1 L2 Y0 kW
        go_wp2_with fail
        go_ret
        exact ⟨by rw [limR_no_b HX.out HBB.out.symm]; rfl, HL.out.bel.trans (HB2.out.mono HL.out.bel.size)⟩
      | true =>
        cases k with
        | zero =>
          simp only [Nat.zero_mul, Nat.add_zero] at q0 q1 q2
          have cy := q0
          have Q : (wr.alloc (.cells #[str x.st, .int .i64 x.left, .int .i64 x.at_] 71)).cell? ⟨wr.heap.size, 0, none⟩ = some (str x.st) ∧ (wr.alloc (.cells #[str x.st, .int .i64 x.left, .int .i64 x.at_] 71)).cell? ⟨wr.heap.size, 1, none⟩ = some (.int .i64 x.left) ∧ (wr.alloc (.cells #[str x.st, .int .i64 x.left, .int .i64 x.at_] 71)).cell? ⟨wr.heap.size, 2, none⟩ = some (.int .i64 x.at_) ∧
            (wr.alloc (.cells #[str x.st, .int .i64 x.left, .int .i64 x.at_] 71)).cell? ⟨w.heap.size, 0, none⟩ = some (.int .i64 rate) ∧ (wr.alloc (.cells #[str x.st, .int .i64 x.left, .int .i64 x.at_] 71)).cell? ⟨w.heap.size, 1, none⟩ = some (.int .i64 burst) ∧ (wr.alloc (.cells #[str x.st, .int .i64 x.left, .int .i64 x.at_] 71)).cell? ⟨w.heap.size, 2, none⟩ = some (.slice (some ⟨g, off, none⟩) l.length cap) ∧
            (wr.alloc (.cells #[str x.st, .int .i64 x.left, .int .i64 x.at_] 71)).cell? ⟨g, off, none⟩ = some (str x.st) ∧ Below wr.heap.size wr (wr.alloc (.cells #[str x.st, .int .i64 x.left, .int .i64 x.at_] 71)) := by
            have kW := new1 wr (.cells #[str x.st, .int .i64 x.left, .int .i64 x.at_] 71)
            refine ⟨by simp [go_sem], by simp [go_sem], by simp [go_sem], ?_, ?_, ?_, ?_, kW⟩
            · rw [kW.cell (p := ⟨w.heap.size, 0, none⟩) pz]; exact p0
            · rw [kW.cell (p := ⟨w.heap.size, 1, none⟩) pz]; exact p1
            · rw [kW.cell (p := ⟨w.heap.size, 2, none⟩) pz]; exact p2
            · rw [kW.cell (p := ⟨g, off, none⟩) hgr]; exact cy
          clear cy hgr
          go_wp2_with fail
          generalize hW : (wr.alloc (.cells #[str x.st, .int .i64 x.left, .int .i64 x.at_] 71)) = W at Q
          refine wp_region_quiet_below (by kernel_rfl) (by kernel_rfl) ?_
          obtain ⟨b0, b1, b2, l0, l1, l2, y0, kW⟩ := Q
          have B0 := fun (d : Nat) (os : Array Obj) => cell_regrown (d := d) (os := os) b0
          have B1 := fun (d : Nat) (os : Array Obj) => cell_regrown (d := d) (os := os) b1
          have B2 := fun (d : Nat) (os : Array Obj) => cell_regrown (d := d) (os := os) b2
          have L1 := fun (d : Nat) (os : Array Obj) => cell_regrown (d := d) (os := os) l1
          have L2 := fun (d : Nat) (os : Array Obj) => cell_regrown (d := d) (os := os) l2
          have Y0 := fun (d : Nat) (os : Array Obj) => cell_regrown (d := d) (os := os) y0
          iterate 4 (quiet_step (exact Calls.regrown_of (a1 _)))
          iterate 17 (with_reducible refine wpQuiet_step (fun K hK => ?_); go_simp; (try rw [if_neg (by decide)]); with_reducible refine hK _ ?_; clear hK K)
          with_reducible refine wpQuiet_nil ?_
          rintro w2 ⟨⟨dq, osq⟩, hw2⟩
          have HB2 := Lib.hid (kW.trans ((show Below W.heap.size W w2 by rw [hw2]; exact below_regrown _ _ _).mono kW.size))
          clear hw2 hW b0 b1 b2 l0 l1 l2 y0 B0 B1 B2 L1 L2 Y0 kW
          go_wp2_with fail
          go_roundw
          case rel => exact ⟨0 + 1, by simp, HL.out.step HX.out HBB.out.symm (fun a h0 _ => by omega) HB2.out⟩
          case measure => simp [intOf]; omega
        | succ m =>
          obtain ⟨y, hy⟩ : ∃ y, l[m]? = some y := ⟨_, List.getElem?_eq_getElem (by omega)⟩
          have cy := ((HC.out m y hy).same (HL.out.bel.block g hg)).1
          have HY := Lib.hid hy
          have h0 : (0 : Int) ≤ (m : Int) + 1 := by omega
          have hp0 : decide ((0 : Int) < (m : Int) + 1) = true := decide_eq_true (by omega)
          have hwm : IntKind.i64.wrap (m : Int) = (m : Int) := by rw [IntKind.wrap_i64]; omega
          have h1m : m < l.length := by omega
          clear hy
          have Q : (wr.alloc (.cells #[str x.st, .int .i64 x.left, .int .i64 x.at_] 71)).cell? ⟨wr.heap.size, 0, none⟩ = some (str x.st) ∧ (wr.alloc (.cells #[str x.st, .int .i64 x.left, .int .i64 x.at_] 71)).cell? ⟨wr.heap.size, 1, none⟩ = some (.int .i64 x.left) ∧ (wr.alloc (.cells #[str x.st, .int .i64 x.left, .int .i64 x.at_] 71)).cell? ⟨wr.heap.size, 2, none⟩ = some (.int .i64 x.at_) ∧
            (wr.alloc (.cells #[str x.st, .int .i64 x.left, .int .i64 x.at_] 71)).cell? ⟨w.heap.size, 0, none⟩ = some (.int .i64 rate) ∧ (wr.alloc (.cells #[str x.st, .int .i64 x.left, .int .i64 x.at_] 71)).cell? ⟨w.heap.size, 1, none⟩ = some (.int .i64 burst) ∧ (wr.alloc (.cells #[str x.st, .int .i64 x.left, .int .i64 x.at_] 71)).cell? ⟨w.heap.size, 2, none⟩ = some (.slice (some ⟨g, off, none⟩) l.length cap) ∧
            (wr.alloc (.cells #[str x.st, .int .i64 x.left, .int .i64 x.at_] 71)).cell? ⟨g, off + m * 3, none⟩ = some (str y.st) ∧ Below wr.heap.size wr (wr.alloc (.cells #[str x.st, .int .i64 x.left, .int .i64 x.at_] 71)) := by
            have kW := new1 wr (.cells #[str x.st, .int .i64 x.left, .int .i64 x.at_] 71)
            refine ⟨by simp [go_sem], by simp [go_sem], by simp [go_sem], ?_, ?_, ?_, ?_, kW⟩
            · rw [kW.cell (p := ⟨w.heap.size, 0, none⟩) pz]; exact p0
            · rw [kW.cell (p := ⟨w.heap.size, 1, none⟩) pz]; exact p1
            · rw [kW.cell (p := ⟨w.heap.size, 2, none⟩) pz]; exact p2
            · rw [kW.cell (p := ⟨g, off + m * 3, none⟩) hgr]; exact cy
          clear cy hgr
          by_cases hyx : y.st < x.st
          · have s1 : Op.bytesLess y.st x.st = true := by rw [bytesLess_eq]; simpa using hyx
            have HR := Lib.hid hyx
            clear hyx
            go_wp2_with fail
            generalize hW : (wr.alloc (.cells #[str x.st, .int .i64 x.left, .int .i64 x.at_] 71)) = W at Q
            refine wp_region_quiet_below (by kernel_rfl) (by kernel_rfl) ?_
            obtain ⟨b0, b1, b2, l0, l1, l2, y0, kW⟩ := Q
            have B0 := fun (d : Nat) (os : Array Obj) => cell_regrown (d := d) (os := os) b0
            have B1 := fun (d : Nat) (os : Array Obj) => cell_regrown (d := d) (os := os) b1
            have B2 := fun (d : Nat) (os : Array Obj) => cell_regrown (d := d) (os := os) b2
            have L1 := fun (d : Nat) (os : Array Obj) => cell_regrown (d := d) (os := os) l1
            have L2 := fun (d : Nat) (os : Array Obj) => cell_regrown (d := d) (os := os) l2
            have Y0 := fun (d : Nat) (os : Array Obj) => cell_regrown (d := d) (os := os) y0
            iterate 4 (quiet_step (exact Calls.regrown_of (a1 _)))
            iterate 17 (with_reducible refine wpQuiet_step (fun K hK => ?_); go_simp; (try rw [if_neg (by decide)]); with_reducible refine hK _ ?_; clear hK K)
            with_reducible refine wpQuiet_nil ?_
            rintro w2 ⟨⟨dq, osq⟩, hw2⟩
            have HB2 := Lib.hid (kW.trans ((show Below W.heap.size W w2 by rw [hw2]; exact below_regrown _ _ _).mono kW.size))
            clear hw2 hW b0 b1 b2 l0 l1 l2 y0 B0 B1 B2 L1 L2 Y0 kW
            go_wp2_with fail
            go_roundw
            case rel => exact ⟨m + 1 + 1, by simp, HL.out.step HX.out HBB.out.symm (fun a _ ha => by rw [show m + 1 - 1 = m by omega, HY.out] at ha; cases ha; exact HR.out) HB2.out⟩
            case measure => simp [intOf]; omega
          · have s1 : Op.bytesLess y.st x.st = false := by rw [bytesLess_eq]; simpa using hyx
            have HR := Lib.hid hyx
            clear hyx
            go_wp2_with fail
            generalize hW : (wr.alloc (.cells #[str x.st, .int .i64 x.left, .int .i64 x.at_] 71)) = W at Q
            refine wp_region_quiet_below (by kernel_rfl) (by kernel_rfl) ?_
            obtain ⟨b0, b1, b2, l0, l1, l2, y0, kW⟩ := Q
            have B0 := fun (d : Nat) (os : Array Obj) => cell_regrown (d := d) (os := os) b0
            have B1 := fun (d : Nat) (os : Array Obj) => cell_regrown (d := d) (os := os) b1
            have B2 := fun (d : Nat) (os : Array Obj) => cell_regrown (d := d) (os := os) b2
            have L1 := fun (d : Nat) (os : Array Obj) => cell_regrown (d := d) (os := os) l1
            have L2 := fun (d : Nat) (os : Array Obj) => cell_regrown (d := d) (os := os) l2
            have Y0 := fun (d : Nat) (os : Array Obj) => cell_regrown (d := d) (os := os) y0
            iterate 4 (quiet_step (exact Calls.regrown_of (a1 _)))
            iterate 17 (with_reducible refine wpQuiet_step (fun K hK => ?_); go_simp; (try rw [if_neg (by decide)]); with_reducible refine hK _ ?_; clear hK K)
            with_reducible refine wpQuiet_nil ?_
            rintro w2 ⟨⟨dq, osq⟩, hw2⟩
            have HB2 := Lib.hid (kW.trans ((show Below W.heap.size W w2 by rw [hw2]; exact below_regrown _ _ _).mono kW.size))
            clear hw2 hW b0 b1 b2 l0 l1 l2 y0 B0 B1 B2 L1 L2 Y0 kW
            go_wp2_with fail
            go_ret
            exact ⟨by rw [limR_no_r HY.out HX.out HR.out]; rfl, HL.out.bel.trans (HB2.out.mono HL.out.bel.size)⟩
    · obtain rfl : k = n := by omega
      have HR := Lib.hid (limR_all (l := l) HH.out (by have := HN.out; omega) (by have h := HL.out.ok; rw [HN.out] at h; exact h))
      go_wp2_with fail
      go_ret
      exact ⟨by rw [HR.out]; rfl, HL.out.bel⟩
end Go.Proofs.Ytdikjmhnjlalbaa.lmr
