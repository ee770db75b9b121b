/- Mac2Fits of the model. -/
import Derived.Test.YtdikjmhnjlalbaaGreatSgs2q
import Derived.StillTailTactics
import Derived.Lib.QuietBelow
namespace Go.Proofs.YtdikjmhnjlalbaaGreat.ftm
open Go.RowKit Go.Sort Go.Proofs.YtdikjmhnjlalbaaGreat.tm Go.Proofs.YtdikjmhnjlalbaaGreat.lib Go.Proofs.YtdikjmhnjlalbaaGreat.rdr Go.Proofs.YtdikjmhnjlalbaaGreat.bld Go.Proofs.YtdikjmhnjlalbaaGreat.app Go.Proofs.YtdikjmhnjlalbaaGreat.mrk Go.Proofs.YtdikjmhnjlalbaaGreat.ltq Go.Proofs.YtdikjmhnjlalbaaGreat.ltv Go.Proofs.YtdikjmhnjlalbaaGreat.ltp Go.Proofs.YtdikjmhnjlalbaaGreat.lsm Go.Proofs.YtdikjmhnjlalbaaGreat.sgs
set_option linter.unusedVariables false

theorem strEq (a b : Bs) : (a == b) = decide (a = b) := by rw [Bool.eq_iff_iff]; simp

set_option maxHeartbeats 2000000 in
set_option maxRecDepth 100000 in
theorem fits2_calls (m : Lt) (v : Value) (lock : Bs) (w : World) (h : Rds w v m.ps) (hl : m.ps.length ≤ 2000000) (hx : ∀ x ∈ m.ps, x.length ≤ 4000000) (ha : m.a.length ≤ 4000000) (hb : m.b.length ≤ 4000000) (hlk : lock.length ≤ 4000000) :
    Calls Tryz.prog 17 #[.agg (letA m v), str lock] w fun e w' => e = .returned (.bool (fits2 m lock)) ∧ Below w.heap.size w w' := by
  have hsg := fun w' (k : Below w.heap.size w w') => signs_calls m v w' (Rds.below h k) hl hx ha hb
  obtain ⟨ad, cap, hv⟩ := lsa.rds_form h
  unfold fits2
  cases hs : signs m with
  | false =>
    simp only [Bool.false_and]
    simp only [hs] at hsg
    have SG := Lib.hid hsg
    clear hsg hs h hl hx ha hb hlk
    obtain ⟨k, f, t, c, ps, a, b⟩ := m
    subst hv
    unfold letA at SG ⊢
    simp only at SG  ⊢
    obtain ⟨n, hn⟩ : ∃ n, n = ps.length := ⟨_, rfl⟩
    rw [← hn] at SG ⊢
    clear hn
    obtain ⟨W1, hW1⟩ : ∃ W, W = w.alloc (.cells #[.int .i64 k, .int .i64 f, .int .i64 t, .int .i64 c, .slice ad n cap, str a, str b] 35) := ⟨_, rfl⟩
    have X1 := Lib.hid (show W1.heap[w.heap.size]? = some (.cells #[.int .i64 k, .int .i64 f, .int .i64 t, .int .i64 c, .slice ad n cap, str a, str b] 35 (0, 0)) by rw [hW1]; exact heap_alloc_new w _)
    obtain ⟨p0, p1, p2, p3, p4, p5, p6, pz⟩ := lsm.seven X1.out
    have q0 := fun (d : Nat) (os : Array Obj) => cell_regrown (d := d) (os := os) p0
    have q1 := fun (d : Nat) (os : Array Obj) => cell_regrown (d := d) (os := os) p1
    have q2 := fun (d : Nat) (os : Array Obj) => cell_regrown (d := d) (os := os) p2
    have q3 := fun (d : Nat) (os : Array Obj) => cell_regrown (d := d) (os := os) p3
    have q4 := fun (d : Nat) (os : Array Obj) => cell_regrown (d := d) (os := os) p4
    have q5 := fun (d : Nat) (os : Array Obj) => cell_regrown (d := d) (os := os) p5
    have q6 := fun (d : Nat) (os : Array Obj) => cell_regrown (d := d) (os := os) p6
    have B1 := Lib.hid (show Below w.heap.size w W1 by rw [hW1]; exact (Below.refl _ _).alloc (Nat.le_refl _) _)
    go_enter Tryz.func17, Tryz.ntmps17
    go_wp2_with fail
    rw [← hW1]
    clear hW1 p0 p1 p2 p3 p4 p5 p6 pz
    refine wp_region_quiet_below (by kernel_rfl) (by kernel_rfl) ?_
    iterate 20 (with_reducible refine wpQuiet_step (fun K hK => ?_); go_simp; first | (apply Exists.intro; with_reducible refine ⟨fun _ => ?_, hK _ ?_⟩; (first | exact Calls.regrown_of (SG.out _ (B1.out.trans ((below_regrown _ _ _).mono B1.out.size))) | exact Calls.regrown_of (IR.out _) | exact Calls.regrown_of (MK.out _ (B1.out.trans ((below_regrown _ _ _).mono B1.out.size)))); clear hK K) | (rw [if_neg (by decide)]; with_reducible refine hK _ ?_; clear hK K) | (with_reducible refine hK _ ?_; clear hK K))
    with_reducible refine wpQuiet_nil ?_
    rintro w2 ⟨⟨dq, osq⟩, hw2⟩
    have HB2 := Lib.hid (B1.out.trans ((show Below W1.heap.size W1 w2 by rw [hw2]; exact below_regrown _ _ _).mono B1.out.size))
    clear hw2 q0 q1 q2 q3 q4 q5 q6
    go_wp2_with fail
    go_ret
    exact ⟨rfl, HB2.out⟩
  | true =>
    simp only [Bool.true_and]
    simp only [hs] at hsg
    have hr := signs_right hs
    have hal : m.a.length ≤ 3000 := by
      by_cases e : m.a = []
      · rw [e]; simp
      · exact okT_len (mac_ok hs e)
    cases hL : okT lock with
    | false =>
      simp only [Bool.false_and]
      have ir := fun w => gky.right_any lock false hL hlk w
      have IR := Lib.hid ir
      have SG := Lib.hid hsg
      clear hsg hs h hl hx ha hb hlk hr ir hL hal
      obtain ⟨k, f, t, c, ps, a, b⟩ := m
      subst hv
      unfold letA at SG ⊢
      simp only at SG  ⊢
      obtain ⟨n, hn⟩ : ∃ n, n = ps.length := ⟨_, rfl⟩
      rw [← hn] at SG ⊢
      clear hn
      obtain ⟨W1, hW1⟩ : ∃ W, W = w.alloc (.cells #[.int .i64 k, .int .i64 f, .int .i64 t, .int .i64 c, .slice ad n cap, str a, str b] 35) := ⟨_, rfl⟩
      have X1 := Lib.hid (show W1.heap[w.heap.size]? = some (.cells #[.int .i64 k, .int .i64 f, .int .i64 t, .int .i64 c, .slice ad n cap, str a, str b] 35 (0, 0)) by rw [hW1]; exact heap_alloc_new w _)
      obtain ⟨p0, p1, p2, p3, p4, p5, p6, pz⟩ := lsm.seven X1.out
      have q0 := fun (d : Nat) (os : Array Obj) => cell_regrown (d := d) (os := os) p0
      have q1 := fun (d : Nat) (os : Array Obj) => cell_regrown (d := d) (os := os) p1
      have q2 := fun (d : Nat) (os : Array Obj) => cell_regrown (d := d) (os := os) p2
      have q3 := fun (d : Nat) (os : Array Obj) => cell_regrown (d := d) (os := os) p3
      have q4 := fun (d : Nat) (os : Array Obj) => cell_regrown (d := d) (os := os) p4
      have q5 := fun (d : Nat) (os : Array Obj) => cell_regrown (d := d) (os := os) p5
      have q6 := fun (d : Nat) (os : Array Obj) => cell_regrown (d := d) (os := os) p6
      have B1 := Lib.hid (show Below w.heap.size w W1 by rw [hW1]; exact (Below.refl _ _).alloc (Nat.le_refl _) _)
      go_enter Tryz.func17, Tryz.ntmps17
      go_wp2_with fail
      rw [← hW1]
      clear hW1 p0 p1 p2 p3 p4 p5 p6 pz
      refine wp_region_quiet_below (by kernel_rfl) (by kernel_rfl) ?_
      iterate 20 (with_reducible refine wpQuiet_step (fun K hK => ?_); go_simp; first | (apply Exists.intro; with_reducible refine ⟨fun _ => ?_, hK _ ?_⟩; (first | exact Calls.regrown_of (SG.out _ (B1.out.trans ((below_regrown _ _ _).mono B1.out.size))) | exact Calls.regrown_of (IR.out _) | exact Calls.regrown_of (MK.out _ (B1.out.trans ((below_regrown _ _ _).mono B1.out.size)))); clear hK K) | (rw [if_neg (by decide)]; with_reducible refine hK _ ?_; clear hK K) | (with_reducible refine hK _ ?_; clear hK K))
      with_reducible refine wpQuiet_nil ?_
      rintro w2 ⟨⟨dq, osq⟩, hw2⟩
      have HB2 := Lib.hid (B1.out.trans ((show Below W1.heap.size W1 w2 by rw [hw2]; exact below_regrown _ _ _).mono B1.out.size))
      clear hw2 q0 q1 q2 q3 q4 q5 q6
      go_wp2_with fail
      go_ret
      exact ⟨rfl, HB2.out⟩
    | true =>
      simp only [Bool.true_and]
      have ir := fun w => gky.right_any lock true hL hlk w
      have IR := Lib.hid ir
      have SG := Lib.hid hsg
      by_cases hz : m.b = []
      · have : decide (m.b ≠ []) = false := by simp [hz]
        rw [this, Bool.false_and]
        obtain ⟨d1, d2, d3⟩ := e_yes hz
        clear hsg hs h hl hx ha hb hlk hr ir hL this hz hal
        obtain ⟨k, f, t, c, ps, a, b⟩ := m
        subst hv
        unfold letA at SG ⊢
        simp only at SG d1 d2 d3 ⊢
        obtain ⟨n, hn⟩ : ∃ n, n = ps.length := ⟨_, rfl⟩
        rw [← hn] at SG ⊢
        clear hn
        obtain ⟨W1, hW1⟩ : ∃ W, W = w.alloc (.cells #[.int .i64 k, .int .i64 f, .int .i64 t, .int .i64 c, .slice ad n cap, str a, str b] 35) := ⟨_, rfl⟩
        have X1 := Lib.hid (show W1.heap[w.heap.size]? = some (.cells #[.int .i64 k, .int .i64 f, .int .i64 t, .int .i64 c, .slice ad n cap, str a, str b] 35 (0, 0)) by rw [hW1]; exact heap_alloc_new w _)
        obtain ⟨p0, p1, p2, p3, p4, p5, p6, pz⟩ := lsm.seven X1.out
        have q0 := fun (d : Nat) (os : Array Obj) => cell_regrown (d := d) (os := os) p0
        have q1 := fun (d : Nat) (os : Array Obj) => cell_regrown (d := d) (os := os) p1
        have q2 := fun (d : Nat) (os : Array Obj) => cell_regrown (d := d) (os := os) p2
        have q3 := fun (d : Nat) (os : Array Obj) => cell_regrown (d := d) (os := os) p3
        have q4 := fun (d : Nat) (os : Array Obj) => cell_regrown (d := d) (os := os) p4
        have q5 := fun (d : Nat) (os : Array Obj) => cell_regrown (d := d) (os := os) p5
        have q6 := fun (d : Nat) (os : Array Obj) => cell_regrown (d := d) (os := os) p6
        have B1 := Lib.hid (show Below w.heap.size w W1 by rw [hW1]; exact (Below.refl _ _).alloc (Nat.le_refl _) _)
        go_enter Tryz.func17, Tryz.ntmps17
        go_wp2_with fail
        rw [← hW1]
        clear hW1 p0 p1 p2 p3 p4 p5 p6 pz
        refine wp_region_quiet_below (by kernel_rfl) (by kernel_rfl) ?_
        iterate 20 (with_reducible refine wpQuiet_step (fun K hK => ?_); go_simp; first | (apply Exists.intro; with_reducible refine ⟨fun _ => ?_, hK _ ?_⟩; (first | exact Calls.regrown_of (SG.out _ (B1.out.trans ((below_regrown _ _ _).mono B1.out.size))) | exact Calls.regrown_of (IR.out _) | exact Calls.regrown_of (MK.out _ (B1.out.trans ((below_regrown _ _ _).mono B1.out.size)))); clear hK K) | (rw [if_neg (by decide)]; with_reducible refine hK _ ?_; clear hK K) | (with_reducible refine hK _ ?_; clear hK K))
        with_reducible refine wpQuiet_nil ?_
        rintro w2 ⟨⟨dq, osq⟩, hw2⟩
        have HB2 := Lib.hid (B1.out.trans ((show Below W1.heap.size W1 w2 by rw [hw2]; exact below_regrown _ _ _).mono B1.out.size))
        clear hw2 q0 q1 q2 q3 q4 q5 q6
        go_wp2_with fail
        go_ret
        exact ⟨rfl, HB2.out⟩
      · have : decide (m.b ≠ []) = true := by simpa using hz
        rw [this, Bool.true_and]
        obtain ⟨d1, d2, d3⟩ := e_no hz
        have hlk2 := okT_len hL
        have mk := fun w' (k : Below w.heap.size w w') => mac2_calls m v lock w' (Rds.below h k) hr hlk2 hal
        obtain ⟨M, hM⟩ : ∃ M, M = mac2 m lock := ⟨_, rfl⟩
        simp only [← hM] at mk ⊢
        have MK := Lib.hid mk
        rw [← strEq]
        clear hsg hs h hl hx ha hb hlk hr ir hL this hz hlk2 mk hM hal
        obtain ⟨k, f, t, c, ps, a, b⟩ := m
        subst hv
        unfold letA at SG MK ⊢
        simp only at SG MK d1 d2 d3 ⊢
        obtain ⟨n, hn⟩ : ∃ n, n = ps.length := ⟨_, rfl⟩
        rw [← hn] at SG MK ⊢
        clear hn
        obtain ⟨W1, hW1⟩ : ∃ W, W = w.alloc (.cells #[.int .i64 k, .int .i64 f, .int .i64 t, .int .i64 c, .slice ad n cap, str a, str b] 35) := ⟨_, rfl⟩
        have X1 := Lib.hid (show W1.heap[w.heap.size]? = some (.cells #[.int .i64 k, .int .i64 f, .int .i64 t, .int .i64 c, .slice ad n cap, str a, str b] 35 (0, 0)) by rw [hW1]; exact heap_alloc_new w _)
        obtain ⟨p0, p1, p2, p3, p4, p5, p6, pz⟩ := lsm.seven X1.out
        have q0 := fun (d : Nat) (os : Array Obj) => cell_regrown (d := d) (os := os) p0
        have q1 := fun (d : Nat) (os : Array Obj) => cell_regrown (d := d) (os := os) p1
        have q2 := fun (d : Nat) (os : Array Obj) => cell_regrown (d := d) (os := os) p2
        have q3 := fun (d : Nat) (os : Array Obj) => cell_regrown (d := d) (os := os) p3
        have q4 := fun (d : Nat) (os : Array Obj) => cell_regrown (d := d) (os := os) p4
        have q5 := fun (d : Nat) (os : Array Obj) => cell_regrown (d := d) (os := os) p5
        have q6 := fun (d : Nat) (os : Array Obj) => cell_regrown (d := d) (os := os) p6
        have B1 := Lib.hid (show Below w.heap.size w W1 by rw [hW1]; exact (Below.refl _ _).alloc (Nat.le_refl _) _)
        go_enter Tryz.func17, Tryz.ntmps17
        go_wp2_with fail
        rw [← hW1]
        clear hW1 p0 p1 p2 p3 p4 p5 p6 pz
        refine wp_region_quiet_below (by kernel_rfl) (by kernel_rfl) ?_
        iterate 20 (with_reducible refine wpQuiet_step (fun K hK => ?_); go_simp; first | (apply Exists.intro; with_reducible refine ⟨fun _ => ?_, hK _ ?_⟩; (first | exact Calls.regrown_of (SG.out _ (B1.out.trans ((below_regrown _ _ _).mono B1.out.size))) | exact Calls.regrown_of (IR.out _) | exact Calls.regrown_of (MK.out _ (B1.out.trans ((below_regrown _ _ _).mono B1.out.size)))); clear hK K) | (rw [if_neg (by decide)]; with_reducible refine hK _ ?_; clear hK K) | (with_reducible refine hK _ ?_; clear hK K))
        with_reducible refine wpQuiet_nil ?_
        rintro w2 ⟨⟨dq, osq⟩, hw2⟩
        have HB2 := Lib.hid (B1.out.trans ((show Below W1.heap.size W1 w2 by rw [hw2]; exact below_regrown _ _ _).mono B1.out.size))
        clear hw2 q0 q1 q2 q3 q4 q5 q6
        go_wp2_with fail
        go_ret
        exact ⟨rfl, HB2.out⟩

end Go.Proofs.YtdikjmhnjlalbaaGreat.ftm