/- LetterRight of the model (written by wip/gen_lsr.py). -/
import Derived.Test.YtonjohlecomeoaaGreatQl
namespace Go.Proofs.YtonjohlecomeoaaGreat.lsr
open Go.RowKit Go.Sort Go.Proofs.YtonjohlecomeoaaGreat.tm Go.Proofs.YtonjohlecomeoaaGreat.lib Go.Proofs.YtonjohlecomeoaaGreat.rdr Go.Proofs.YtonjohlecomeoaaGreat.bld Go.Proofs.YtonjohlecomeoaaGreat.app Go.Proofs.YtonjohlecomeoaaGreat.mrk Go.Proofs.YtonjohlecomeoaaGreat.ltq Go.Proofs.YtonjohlecomeoaaGreat.ltv Go.Proofs.YtonjohlecomeoaaGreat.ltp Go.Proofs.YtonjohlecomeoaaGreat.lsm
set_option linter.unusedVariables false

set_option maxHeartbeats 1000000 in
set_option maxRecDepth 100000 in
theorem no2_nf0 (f t c : Int) (ad : Option Addr) (n cap : Nat) (a b : Bs) (w : World) (nf nt mm : Bool)
    (NF : Hid (∀ w, Calls Tryz.prog 37 #[.int .i64 f] w fun e w' => e = .returned (.bool nf) ∧ Below w.heap.size w w'))
    (NT : Hid (∀ w, Calls Tryz.prog 37 #[.int .i64 t] w fun e w' => e = .returned (.bool nt) ∧ Below w.heap.size w w'))
    (MC : Hid (∀ w, Calls Tryz.prog 96 #[.agg #[.int .i64 2, .int .i64 f, .int .i64 t, .int .i64 c, .slice ad n cap, str a, str b]] w fun e w' => e = .returned (.bool mm) ∧ Below w.heap.size w w'))
    (h1 : nf = false) :
    Calls Tryz.prog 45 #[.agg #[.int .i64 2, .int .i64 f, .int .i64 t, .int .i64 c, .slice ad n cap, str a, str b]] w fun e w' => e = .returned (.bool false) ∧ Below w.heap.size w w' := by
  subst h1
  obtain ⟨W1, hW1⟩ : ∃ W, W = w.alloc (.cells #[.int .i64 2, .int .i64 f, .int .i64 t, .int .i64 c, .slice ad n cap, str a, str b] 24) := ⟨_, rfl⟩
  have X1 := Lib.hid (show W1.heap[w.heap.size]? = some (.cells #[.int .i64 2, .int .i64 f, .int .i64 t, .int .i64 c, .slice ad n cap, str a, str b] 24 (0, 0)) by rw [hW1]; exact heap_alloc_new w _)
  obtain ⟨p0, p1, p2, p3, p4, p5, p6, pz⟩ := lsm.seven X1.out
  have q0 := fun (d : Nat) (os : Array Obj) => cell_regrown (d := d) (os := os) p0
  have q1 := fun (d : Nat) (os : Array Obj) => cell_regrown (d := d) (os := os) p1
  have q2 := fun (d : Nat) (os : Array Obj) => cell_regrown (d := d) (os := os) p2
  have q3 := fun (d : Nat) (os : Array Obj) => cell_regrown (d := d) (os := os) p3
  have q4 := fun (d : Nat) (os : Array Obj) => cell_regrown (d := d) (os := os) p4
  have q5 := fun (d : Nat) (os : Array Obj) => cell_regrown (d := d) (os := os) p5
  have q6 := fun (d : Nat) (os : Array Obj) => cell_regrown (d := d) (os := os) p6
  have B1 := Lib.hid (show Below w.heap.size w W1 by rw [hW1]; exact (Below.refl _ _).alloc (Nat.le_refl _) _)
  go_enter Tryz.func45, Tryz.ntmps45
  go_wp2_with fail
  rw [← hW1]
  clear hW1 p0 p1 p2 p3 p4 p5 p6 pz
  refine wp_region_quiet_below (by kernel_rfl) (by kernel_rfl) ?_
  iterate 49 (with_reducible refine wpQuiet_step (fun K hK => ?_); go_simp; first | (apply Exists.intro; with_reducible refine ⟨fun _ => ?_, hK _ ?_⟩; (first | exact Calls.regrown_of (NF.out _) | exact Calls.regrown_of (NT.out _) | exact Calls.regrown_of (MC.out _)); clear hK K) | (rw [if_neg (by decide)]; with_reducible refine hK _ ?_; clear hK K) | (with_reducible refine hK _ ?_; clear hK K))
  with_reducible refine wpQuiet_nil ?_
  rintro w2 ⟨⟨dq, osq⟩, hw2⟩
  have HB2 := Lib.hid (B1.out.trans ((show Below W1.heap.size W1 w2 by rw [hw2]; exact below_regrown _ _ _).mono B1.out.size))
  clear hw2 q0 q1 q2 q3 q4 q5 q6
  go_wp2_with fail
  go_ret
  exact ⟨rfl, HB2.out⟩

set_option maxHeartbeats 1000000 in
set_option maxRecDepth 100000 in
theorem no2_nf1_t0 (f t c : Int) (ad : Option Addr) (n cap : Nat) (a b : Bs) (w : World) (nf nt mm : Bool)
    (NF : Hid (∀ w, Calls Tryz.prog 37 #[.int .i64 f] w fun e w' => e = .returned (.bool nf) ∧ Below w.heap.size w w'))
    (NT : Hid (∀ w, Calls Tryz.prog 37 #[.int .i64 t] w fun e w' => e = .returned (.bool nt) ∧ Below w.heap.size w w'))
    (MC : Hid (∀ w, Calls Tryz.prog 96 #[.agg #[.int .i64 2, .int .i64 f, .int .i64 t, .int .i64 c, .slice ad n cap, str a, str b]] w fun e w' => e = .returned (.bool mm) ∧ Below w.heap.size w w'))
    (h1 : nf = true) (ht : t = 0) :
    Calls Tryz.prog 45 #[.agg #[.int .i64 2, .int .i64 f, .int .i64 t, .int .i64 c, .slice ad n cap, str a, str b]] w fun e w' => e = .returned (.bool false) ∧ Below w.heap.size w w' := by
  subst h1
  have d1 : (t == 0) = true := by simpa using ht
  have d2 : (t != 0) = false := by simpa using ht
  clear ht
  obtain ⟨W1, hW1⟩ : ∃ W, W = w.alloc (.cells #[.int .i64 2, .int .i64 f, .int .i64 t, .int .i64 c, .slice ad n cap, str a, str b] 24) := ⟨_, rfl⟩
  have X1 := Lib.hid (show W1.heap[w.heap.size]? = some (.cells #[.int .i64 2, .int .i64 f, .int .i64 t, .int .i64 c, .slice ad n cap, str a, str b] 24 (0, 0)) by rw [hW1]; exact heap_alloc_new w _)
  obtain ⟨p0, p1, p2, p3, p4, p5, p6, pz⟩ := lsm.seven X1.out
  have q0 := fun (d : Nat) (os : Array Obj) => cell_regrown (d := d) (os := os) p0
  have q1 := fun (d : Nat) (os : Array Obj) => cell_regrown (d := d) (os := os) p1
  have q2 := fun (d : Nat) (os : Array Obj) => cell_regrown (d := d) (os := os) p2
  have q3 := fun (d : Nat) (os : Array Obj) => cell_regrown (d := d) (os := os) p3
  have q4 := fun (d : Nat) (os : Array Obj) => cell_regrown (d := d) (os := os) p4
  have q5 := fun (d : Nat) (os : Array Obj) => cell_regrown (d := d) (os := os) p5
  have q6 := fun (d : Nat) (os : Array Obj) => cell_regrown (d := d) (os := os) p6
  have B1 := Lib.hid (show Below w.heap.size w W1 by rw [hW1]; exact (Below.refl _ _).alloc (Nat.le_refl _) _)
  go_enter Tryz.func45, Tryz.ntmps45
  go_wp2_with fail
  rw [← hW1]
  clear hW1 p0 p1 p2 p3 p4 p5 p6 pz
  refine wp_region_quiet_below (by kernel_rfl) (by kernel_rfl) ?_
  iterate 49 (with_reducible refine wpQuiet_step (fun K hK => ?_); go_simp; first | (apply Exists.intro; with_reducible refine ⟨fun _ => ?_, hK _ ?_⟩; (first | exact Calls.regrown_of (NF.out _) | exact Calls.regrown_of (NT.out _) | exact Calls.regrown_of (MC.out _)); clear hK K) | (rw [if_neg (by decide)]; with_reducible refine hK _ ?_; clear hK K) | (with_reducible refine hK _ ?_; clear hK K))
  with_reducible refine wpQuiet_nil ?_
  rintro w2 ⟨⟨dq, osq⟩, hw2⟩
  have HB2 := Lib.hid (B1.out.trans ((show Below W1.heap.size W1 w2 by rw [hw2]; exact below_regrown _ _ _).mono B1.out.size))
  clear hw2 q0 q1 q2 q3 q4 q5 q6
  go_wp2_with fail
  go_ret
  exact ⟨rfl, HB2.out⟩

set_option maxHeartbeats 1000000 in
set_option maxRecDepth 100000 in
theorem no2_nf1_t1_nt0 (f t c : Int) (ad : Option Addr) (n cap : Nat) (a b : Bs) (w : World) (nf nt mm : Bool)
    (NF : Hid (∀ w, Calls Tryz.prog 37 #[.int .i64 f] w fun e w' => e = .returned (.bool nf) ∧ Below w.heap.size w w'))
    (NT : Hid (∀ w, Calls Tryz.prog 37 #[.int .i64 t] w fun e w' => e = .returned (.bool nt) ∧ Below w.heap.size w w'))
    (MC : Hid (∀ w, Calls Tryz.prog 96 #[.agg #[.int .i64 2, .int .i64 f, .int .i64 t, .int .i64 c, .slice ad n cap, str a, str b]] w fun e w' => e = .returned (.bool mm) ∧ Below w.heap.size w w'))
    (h1 : nf = true) (ht : t ≠ 0) (h2 : nt = false) :
    Calls Tryz.prog 45 #[.agg #[.int .i64 2, .int .i64 f, .int .i64 t, .int .i64 c, .slice ad n cap, str a, str b]] w fun e w' => e = .returned (.bool false) ∧ Below w.heap.size w w' := by
  subst h1
  subst h2
  have d1 : (t == 0) = false := by simpa using ht
  have d2 : (t != 0) = true := by simpa using ht
  clear ht
  obtain ⟨W1, hW1⟩ : ∃ W, W = w.alloc (.cells #[.int .i64 2, .int .i64 f, .int .i64 t, .int .i64 c, .slice ad n cap, str a, str b] 24) := ⟨_, rfl⟩
  have X1 := Lib.hid (show W1.heap[w.heap.size]? = some (.cells #[.int .i64 2, .int .i64 f, .int .i64 t, .int .i64 c, .slice ad n cap, str a, str b] 24 (0, 0)) by rw [hW1]; exact heap_alloc_new w _)
  obtain ⟨p0, p1, p2, p3, p4, p5, p6, pz⟩ := lsm.seven X1.out
  have q0 := fun (d : Nat) (os : Array Obj) => cell_regrown (d := d) (os := os) p0
  have q1 := fun (d : Nat) (os : Array Obj) => cell_regrown (d := d) (os := os) p1
  have q2 := fun (d : Nat) (os : Array Obj) => cell_regrown (d := d) (os := os) p2
  have q3 := fun (d : Nat) (os : Array Obj) => cell_regrown (d := d) (os := os) p3
  have q4 := fun (d : Nat) (os : Array Obj) => cell_regrown (d := d) (os := os) p4
  have q5 := fun (d : Nat) (os : Array Obj) => cell_regrown (d := d) (os := os) p5
  have q6 := fun (d : Nat) (os : Array Obj) => cell_regrown (d := d) (os := os) p6
  have B1 := Lib.hid (show Below w.heap.size w W1 by rw [hW1]; exact (Below.refl _ _).alloc (Nat.le_refl _) _)
  go_enter Tryz.func45, Tryz.ntmps45
  go_wp2_with fail
  rw [← hW1]
  clear hW1 p0 p1 p2 p3 p4 p5 p6 pz
  refine wp_region_quiet_below (by kernel_rfl) (by kernel_rfl) ?_
  iterate 49 (with_reducible refine wpQuiet_step (fun K hK => ?_); go_simp; first | (apply Exists.intro; with_reducible refine ⟨fun _ => ?_, hK _ ?_⟩; (first | exact Calls.regrown_of (NF.out _) | exact Calls.regrown_of (NT.out _) | exact Calls.regrown_of (MC.out _)); clear hK K) | (rw [if_neg (by decide)]; with_reducible refine hK _ ?_; clear hK K) | (with_reducible refine hK _ ?_; clear hK K))
  with_reducible refine wpQuiet_nil ?_
  rintro w2 ⟨⟨dq, osq⟩, hw2⟩
  have HB2 := Lib.hid (B1.out.trans ((show Below W1.heap.size W1 w2 by rw [hw2]; exact below_regrown _ _ _).mono B1.out.size))
  clear hw2 q0 q1 q2 q3 q4 q5 q6
  go_wp2_with fail
  go_ret
  exact ⟨rfl, HB2.out⟩

set_option maxHeartbeats 1000000 in
set_option maxRecDepth 100000 in
theorem no2_nf1_t1_nt1_n0 (f t c : Int) (ad : Option Addr) (n cap : Nat) (a b : Bs) (w : World) (nf nt mm : Bool)
    (NF : Hid (∀ w, Calls Tryz.prog 37 #[.int .i64 f] w fun e w' => e = .returned (.bool nf) ∧ Below w.heap.size w w'))
    (NT : Hid (∀ w, Calls Tryz.prog 37 #[.int .i64 t] w fun e w' => e = .returned (.bool nt) ∧ Below w.heap.size w w'))
    (MC : Hid (∀ w, Calls Tryz.prog 96 #[.agg #[.int .i64 2, .int .i64 f, .int .i64 t, .int .i64 c, .slice ad n cap, str a, str b]] w fun e w' => e = .returned (.bool mm) ∧ Below w.heap.size w w'))
    (h1 : nf = true) (ht : t ≠ 0) (h2 : nt = true) (hn : n ≠ 2) :
    Calls Tryz.prog 45 #[.agg #[.int .i64 2, .int .i64 f, .int .i64 t, .int .i64 c, .slice ad n cap, str a, str b]] w fun e w' => e = .returned (.bool false) ∧ Below w.heap.size w w' := by
  subst h1
  subst h2
  have d1 : (t == 0) = false := by simpa using ht
  have d2 : (t != 0) = true := by simpa using ht
  clear ht
  have g1 : ((n : Int) != 2) = true := by rw [bne_iff_ne]; omega
  have g2 : ((n : Int) == 2) = false := by rw [beq_eq_false_iff_ne]; omega
  clear hn
  obtain ⟨W1, hW1⟩ : ∃ W, W = w.alloc (.cells #[.int .i64 2, .int .i64 f, .int .i64 t, .int .i64 c, .slice ad n cap, str a, str b] 24) := ⟨_, rfl⟩
  have X1 := Lib.hid (show W1.heap[w.heap.size]? = some (.cells #[.int .i64 2, .int .i64 f, .int .i64 t, .int .i64 c, .slice ad n cap, str a, str b] 24 (0, 0)) by rw [hW1]; exact heap_alloc_new w _)
  obtain ⟨p0, p1, p2, p3, p4, p5, p6, pz⟩ := lsm.seven X1.out
  have q0 := fun (d : Nat) (os : Array Obj) => cell_regrown (d := d) (os := os) p0
  have q1 := fun (d : Nat) (os : Array Obj) => cell_regrown (d := d) (os := os) p1
  have q2 := fun (d : Nat) (os : Array Obj) => cell_regrown (d := d) (os := os) p2
  have q3 := fun (d : Nat) (os : Array Obj) => cell_regrown (d := d) (os := os) p3
  have q4 := fun (d : Nat) (os : Array Obj) => cell_regrown (d := d) (os := os) p4
  have q5 := fun (d : Nat) (os : Array Obj) => cell_regrown (d := d) (os := os) p5
  have q6 := fun (d : Nat) (os : Array Obj) => cell_regrown (d := d) (os := os) p6
  have B1 := Lib.hid (show Below w.heap.size w W1 by rw [hW1]; exact (Below.refl _ _).alloc (Nat.le_refl _) _)
  go_enter Tryz.func45, Tryz.ntmps45
  go_wp2_with fail
  rw [← hW1]
  clear hW1 p0 p1 p2 p3 p4 p5 p6 pz
  refine wp_region_quiet_below (by kernel_rfl) (by kernel_rfl) ?_
  iterate 49 (with_reducible refine wpQuiet_step (fun K hK => ?_); go_simp; first | (apply Exists.intro; with_reducible refine ⟨fun _ => ?_, hK _ ?_⟩; (first | exact Calls.regrown_of (NF.out _) | exact Calls.regrown_of (NT.out _) | exact Calls.regrown_of (MC.out _)); clear hK K) | (rw [if_neg (by decide)]; with_reducible refine hK _ ?_; clear hK K) | (with_reducible refine hK _ ?_; clear hK K))
  with_reducible refine wpQuiet_nil ?_
  rintro w2 ⟨⟨dq, osq⟩, hw2⟩
  have HB2 := Lib.hid (B1.out.trans ((show Below W1.heap.size W1 w2 by rw [hw2]; exact below_regrown _ _ _).mono B1.out.size))
  clear hw2 q0 q1 q2 q3 q4 q5 q6
  go_wp2_with fail
  go_ret
  exact ⟨rfl, HB2.out⟩

set_option maxHeartbeats 1000000 in
set_option maxRecDepth 100000 in
theorem no2_nf1_t1_nt1_n1_mm0 (f t c : Int) (ad : Option Addr) (n cap : Nat) (a b : Bs) (w : World) (nf nt mm : Bool)
    (NF : Hid (∀ w, Calls Tryz.prog 37 #[.int .i64 f] w fun e w' => e = .returned (.bool nf) ∧ Below w.heap.size w w'))
    (NT : Hid (∀ w, Calls Tryz.prog 37 #[.int .i64 t] w fun e w' => e = .returned (.bool nt) ∧ Below w.heap.size w w'))
    (MC : Hid (∀ w, Calls Tryz.prog 96 #[.agg #[.int .i64 2, .int .i64 f, .int .i64 t, .int .i64 c, .slice ad n cap, str a, str b]] w fun e w' => e = .returned (.bool mm) ∧ Below w.heap.size w w'))
    (h1 : nf = true) (ht : t ≠ 0) (h2 : nt = true) (hn : n = 2) (h3 : mm = false) :
    Calls Tryz.prog 45 #[.agg #[.int .i64 2, .int .i64 f, .int .i64 t, .int .i64 c, .slice ad n cap, str a, str b]] w fun e w' => e = .returned (.bool false) ∧ Below w.heap.size w w' := by
  subst h1
  subst h2
  subst h3
  have d1 : (t == 0) = false := by simpa using ht
  have d2 : (t != 0) = true := by simpa using ht
  clear ht
  have g1 : ((n : Int) != 2) = false := by rw [bne_eq_false_iff_eq]; omega
  have g2 : ((n : Int) == 2) = true := by rw [beq_iff_eq]; omega
  clear hn
  obtain ⟨W1, hW1⟩ : ∃ W, W = w.alloc (.cells #[.int .i64 2, .int .i64 f, .int .i64 t, .int .i64 c, .slice ad n cap, str a, str b] 24) := ⟨_, rfl⟩
  have X1 := Lib.hid (show W1.heap[w.heap.size]? = some (.cells #[.int .i64 2, .int .i64 f, .int .i64 t, .int .i64 c, .slice ad n cap, str a, str b] 24 (0, 0)) by rw [hW1]; exact heap_alloc_new w _)
  obtain ⟨p0, p1, p2, p3, p4, p5, p6, pz⟩ := lsm.seven X1.out
  have q0 := fun (d : Nat) (os : Array Obj) => cell_regrown (d := d) (os := os) p0
  have q1 := fun (d : Nat) (os : Array Obj) => cell_regrown (d := d) (os := os) p1
  have q2 := fun (d : Nat) (os : Array Obj) => cell_regrown (d := d) (os := os) p2
  have q3 := fun (d : Nat) (os : Array Obj) => cell_regrown (d := d) (os := os) p3
  have q4 := fun (d : Nat) (os : Array Obj) => cell_regrown (d := d) (os := os) p4
  have q5 := fun (d : Nat) (os : Array Obj) => cell_regrown (d := d) (os := os) p5
  have q6 := fun (d : Nat) (os : Array Obj) => cell_regrown (d := d) (os := os) p6
  have B1 := Lib.hid (show Below w.heap.size w W1 by rw [hW1]; exact (Below.refl _ _).alloc (Nat.le_refl _) _)
  go_enter Tryz.func45, Tryz.ntmps45
  go_wp2_with fail
  rw [← hW1]
  clear hW1 p0 p1 p2 p3 p4 p5 p6 pz
  refine wp_region_quiet_below (by kernel_rfl) (by kernel_rfl) ?_
  iterate 49 (with_reducible refine wpQuiet_step (fun K hK => ?_); go_simp; first | (apply Exists.intro; with_reducible refine ⟨fun _ => ?_, hK _ ?_⟩; (first | exact Calls.regrown_of (NF.out _) | exact Calls.regrown_of (NT.out _) | exact Calls.regrown_of (MC.out _)); clear hK K) | (rw [if_neg (by decide)]; with_reducible refine hK _ ?_; clear hK K) | (with_reducible refine hK _ ?_; clear hK K))
  with_reducible refine wpQuiet_nil ?_
  rintro w2 ⟨⟨dq, osq⟩, hw2⟩
  have HB2 := Lib.hid (B1.out.trans ((show Below W1.heap.size W1 w2 by rw [hw2]; exact below_regrown _ _ _).mono B1.out.size))
  clear hw2 q0 q1 q2 q3 q4 q5 q6
  go_wp2_with fail
  go_ret
  exact ⟨rfl, HB2.out⟩

set_option maxHeartbeats 2000000 in
set_option maxRecDepth 100000 in
theorem go2 (f t c : Int) (ad : Option Addr) (n cap : Nat) (ps : List Bs) (a b : Bs) (w : World) (nf nt mm : Bool)
    (NF : Hid (∀ w, Calls Tryz.prog 37 #[.int .i64 f] w fun e w' => e = .returned (.bool nf) ∧ Below w.heap.size w w'))
    (NT : Hid (∀ w, Calls Tryz.prog 37 #[.int .i64 t] w fun e w' => e = .returned (.bool nt) ∧ Below w.heap.size w w'))
    (MC : Hid (∀ w, Calls Tryz.prog 96 #[.agg #[.int .i64 2, .int .i64 f, .int .i64 t, .int .i64 c, .slice ad n cap, str a, str b]] w fun e w' => e = .returned (.bool mm) ∧ Below w.heap.size w w'))
    (HR : Hid (Rds w (.slice ad n cap) ps)) (HS : Hid (∀ x ∈ ps, x.length ≤ 4000000)) (HN : Hid (n = ps.length)) (hnl : n ≤ 2000000)
    (h1 : nf = true) (ht : t ≠ 0) (h2 : nt = true) (hn : n = 2) (h3 : mm = true) :
    Calls Tryz.prog 45 #[.agg #[.int .i64 2, .int .i64 f, .int .i64 t, .int .i64 c, .slice ad n cap, str a, str b]] w fun e w' => e = .returned (.bool (ps.all okT && cq 2 c)) ∧ Below w.heap.size w w' := by
  subst h1
  subst h2
  subst h3
  have d1 : (t == 0) = false := by simpa using ht
  have d2 : (t != 0) = true := by simpa using ht
  clear ht
  have g1 : ((n : Int) != 2) = false := by rw [bne_eq_false_iff_eq]; omega
  have g2 : ((n : Int) == 2) = true := by rw [beq_iff_eq]; omega
  clear hn
  obtain ⟨W1, hW1⟩ : ∃ W, W = w.alloc (.cells #[.int .i64 2, .int .i64 f, .int .i64 t, .int .i64 c, .slice ad n cap, str a, str b] 24) := ⟨_, rfl⟩
  have X1 := Lib.hid (show W1.heap[w.heap.size]? = some (.cells #[.int .i64 2, .int .i64 f, .int .i64 t, .int .i64 c, .slice ad n cap, str a, str b] 24 (0, 0)) by rw [hW1]; exact heap_alloc_new w _)
  obtain ⟨p0, p1, p2, p3, p4, p5, p6, pz⟩ := lsm.seven X1.out
  have q0 := fun (d : Nat) (os : Array Obj) => cell_regrown (d := d) (os := os) p0
  have q1 := fun (d : Nat) (os : Array Obj) => cell_regrown (d := d) (os := os) p1
  have q2 := fun (d : Nat) (os : Array Obj) => cell_regrown (d := d) (os := os) p2
  have q3 := fun (d : Nat) (os : Array Obj) => cell_regrown (d := d) (os := os) p3
  have q4 := fun (d : Nat) (os : Array Obj) => cell_regrown (d := d) (os := os) p4
  have q5 := fun (d : Nat) (os : Array Obj) => cell_regrown (d := d) (os := os) p5
  have q6 := fun (d : Nat) (os : Array Obj) => cell_regrown (d := d) (os := os) p6
  have B1 := Lib.hid (show Below w.heap.size w W1 by rw [hW1]; exact (Below.refl _ _).alloc (Nat.le_refl _) _)
  go_enter Tryz.func45, Tryz.ntmps45
  go_wp2_with fail
  rw [← hW1]
  clear hW1 p0 p1 p2 p3 p4 p5 p6 pz
  refine wp_region_quiet_below (by kernel_rfl) (by kernel_rfl) ?_
  iterate 49 (with_reducible refine wpQuiet_step (fun K hK => ?_); go_simp; first | (apply Exists.intro; with_reducible refine ⟨fun _ => ?_, hK _ ?_⟩; (first | exact Calls.regrown_of (NF.out _) | exact Calls.regrown_of (NT.out _) | exact Calls.regrown_of (MC.out _)); clear hK K) | (rw [if_neg (by decide)]; with_reducible refine hK _ ?_; clear hK K) | (with_reducible refine hK _ ?_; clear hK K))
  with_reducible refine wpQuiet_nil ?_
  rintro w2 ⟨⟨dq, osq⟩, hw2⟩
  have HB2 := Lib.hid (B1.out.trans ((show Below W1.heap.size W1 w2 by rw [hw2]; exact below_regrown _ _ _).mono B1.out.size))
  have X2 := Lib.hid (keptB X1.out (show Below W1.heap.size W1 w2 by rw [hw2]; exact below_regrown _ _ _))
  obtain ⟨r0, r1, r2, r3, r4, r5, r6, rz⟩ := lsm.seven X2.out
  clear hw2 q0 q1 q2 q3 q4 q5 q6
  go_wp2_with fail
  clear r0 r1 r2 r3 r4 r5 r6 rz
  go_loopw [4, 63, 64, 65, 66, 67, 68, 69, 70, 71, 72, 73, 74, 75, 76] (fun vi _ _ _ _ _ _ _ _ _ _ _ _ _ _ wr => ∃ j : Nat, vi = .int .i64 j ∧ Lp w ps wr j (.cells #[.int .i64 2, .int .i64 f, .int .i64 t, .int .i64 c, .slice ad n cap, str a, str b] 24 (0, 0))) (fun vi _ _ _ _ _ _ _ _ _ _ _ _ _ _ _ => n - (intOf vi).toNat)
  case atStart => exact ⟨0, rfl, Nat.zero_le _, fun i x hi => by omega, HB2.out, X2.out⟩
  case round =>
    obtain ⟨j, rfl, L⟩ := hrel
    have HL := Lib.hid L
    have hj : j ≤ n := by have := L.le; have := HN.out; omega
    obtain ⟨r0, r1, r2, r3, r4, r5, r6, rz⟩ := lsm.seven L.x
    clear L
    by_cases hlt : j < n
    · obtain ⟨x, hx⟩ : ∃ x, ps[j]? = some x := ⟨_, List.getElem?_eq_getElem (by have := HN.out; omega)⟩
      rcases HR.out with ⟨h0, _⟩ | ⟨g, off, cap', e, hg, hc⟩
      · rw [h0] at hx; simp at hx
      cases e
      have c1 : wr.cell? ⟨g, off + j, none⟩ = some (str x) := by rw [← hc j x hx]; exact HL.out.bel.cell (p := ⟨g, off + j, none⟩) hg
      have hxl := HS.out x (List.mem_of_getElem? hx)
      have HX := Lib.hid hx
      clear hx hc hg
      cases hT : okT x with
      | false =>
        have t1 := fun w => gky.right_any x false hT hxl w
        have T1 := Lib.hid t1
        have HT := Lib.hid hT
        clear t1 hT hxl
        go_wp2_with fail
        refine (T1.out _).mono ?_
        rintro e w3 ⟨rfl, hb3⟩
        have HB3 := Lib.hid (HL.out.bel.trans (hb3.mono HL.out.bel.size))
        clear hb3
        go_wp2_with fail
        go_ret
        refine ⟨?_, HB3.out⟩
        have : ps.all okT = false := by rw [List.all_eq_false]; exact ⟨x, List.mem_of_getElem? HX.out, by rw [HT.out]; simp⟩
        rw [this]
        rfl
      | true =>
        have t1 := fun w => gky.right_any x true hT hxl w
        have T1 := Lib.hid t1
        have HT := Lib.hid hT
        clear t1 hT hxl
        go_wp2_with fail
        refine (T1.out _).mono ?_
        rintro e w3 ⟨rfl, hb3⟩
        have HL3 := Lib.hid (HL.out.step HX.out HT.out hb3)
        clear hb3
        go_wp2_with fail
        go_roundw
        case rel => exact ⟨j + 1, by first | rfl | trivial | go_num, HL3.out⟩
        case measure => simp [intOf]; omega
    · obtain rfl : j = n := by omega
      have hall := HL.out.done (by have := HN.out; omega)
      have HA := Lib.hid hall
      clear hall
      go_wp2_with fail
      go_ret
      refine ⟨?_, HL.out.bel⟩
      rw [HA.out]
      unfold cq
      rw [if_neg (by decide), Bool.true_and, ← eq0]
      rfl

end Go.Proofs.YtonjohlecomeoaaGreat.lsr
