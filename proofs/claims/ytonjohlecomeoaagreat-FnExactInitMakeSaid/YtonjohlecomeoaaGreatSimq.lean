/- InitMake of the model (written by wip/gen_sim.py). -/
import Derived.Test.YtonjohlecomeoaaGreatSilq
import Derived.Test.YtonjohlecomeoaaGreatSgxq
namespace Go.Proofs.YtonjohlecomeoaaGreat.sim
open Go.RowKit Go.Proofs.YtonjohlecomeoaaGreat.tm Go.Proofs.YtonjohlecomeoaaGreat.lib Go.Proofs.YtonjohlecomeoaaGreat.rdr Go.Proofs.YtonjohlecomeoaaGreat.bld Go.Proofs.YtonjohlecomeoaaGreat.sop Go.Proofs.YtonjohlecomeoaaGreat.mkp Go.Proofs.YtonjohlecomeoaaGreat.mrk Go.Proofs.YtonjohlecomeoaaGreat.mrs Go.Proofs.YtonjohlecomeoaaGreat.ltq Go.Proofs.YtonjohlecomeoaaGreat.ltv Go.Proofs.YtonjohlecomeoaaGreat.ltp Go.Proofs.YtonjohlecomeoaaGreat.hdp Go.Proofs.YtonjohlecomeoaaGreat.hdv Go.Proofs.YtonjohlecomeoaaGreat.blw Go.Proofs.YtonjohlecomeoaaGreat.smx
set_option linter.unusedVariables false

/-- What a walk of InitMake leans on. -/
theorem rds3 {w : World} {b : Nat} {x y z : Bs} {cap : Nat} (h : w.heap[b]? = some (.cells #[str x, str y, str z] 9 (0, 0))) : Rds w (.slice (some ⟨b, 0, none⟩) 3 cap) [x, y, z] := by
  obtain ⟨a1, a2, a3, _, _, _, hz⟩ := three h
  refine .inr ⟨b, 0, cap, rfl, hz, fun j l hj => ?_⟩
  match j, hj with
  | 0, hj => simp at hj; subst hj; exact a1
  | 1, hj => simp at hj; subst hj; exact a2
  | 2, hj => simp at hj; subst hj; exact a3
  | j + 3, hj => simp at hj

set_option maxHeartbeats 4000000 in
set_option maxRecDepth 100000 in
theorem size0 (f : Int) (me lock eph stamp : Bs) (w : World) (d0 : decide (8000 < (me.length : Int)) = true) : Calls Tryz.prog 9 #[.int .i64 f, str me, str lock, str eph, str stamp] w (HEnd (ill 2) w) := by
  have il := fun c w => ill_calls c w
  simp only [illA] at il
  have IL := Lib.hid il
  clear il
  have X0 := Lib.hid (heap_alloc_new w (.cells #[.int .i64 0, .int .i64 0, .int .i64 0, .int .i64 0, .slice none 0 0, .string ⟨#[]⟩, .string ⟨#[]⟩, .string ⟨#[]⟩, .string ⟨#[]⟩, .string ⟨#[]⟩, .string ⟨#[]⟩, .string ⟨#[]⟩, .string ⟨#[]⟩, .string ⟨#[]⟩, .int .i64 0] 28))
  have HB0 := Lib.hid (Below.refl (w.alloc (.cells #[.int .i64 0, .int .i64 0, .int .i64 0, .int .i64 0, .slice none 0 0, .string ⟨#[]⟩, .string ⟨#[]⟩, .string ⟨#[]⟩, .string ⟨#[]⟩, .string ⟨#[]⟩, .string ⟨#[]⟩, .string ⟨#[]⟩, .string ⟨#[]⟩, .string ⟨#[]⟩, .int .i64 0] 28)).heap.size (w.alloc (.cells #[.int .i64 0, .int .i64 0, .int .i64 0, .int .i64 0, .slice none 0 0, .string ⟨#[]⟩, .string ⟨#[]⟩, .string ⟨#[]⟩, .string ⟨#[]⟩, .string ⟨#[]⟩, .string ⟨#[]⟩, .string ⟨#[]⟩, .string ⟨#[]⟩, .string ⟨#[]⟩, .int .i64 0] 28)))
  go_enter Tryz.func9, Tryz.ntmps9
  go_wp2_with fail
  refine (on (by first | exact HB0.out | exact al1 HB0.out _ | exact al2 HB0.out _ _ | exact al3 HB0.out _ _ _) (IL.out _ _)).mono ?_
  rintro e w1 ⟨rfl, hb⟩
  have HB1 := Lib.hid hb
  clear hb
  obtain ⟨p0, p1, p2, p3, p4, p5, p6, p7, p8, p9, p10, p11, p12, p13, p14, pz, pf⟩ := fifteen (keptB X0.out HB1.out)
  go_wp2_with fail
  clear p0 p1 p2 p3 p4 p5 p6 p7 p8 p9 p10 p11 p12 p13 p14 pz pf
  generalize hW : World.setCell _ _ _ = W'
  have hX : W'.heap[w.heap.size]? = some (.cells #[.int .i64 0, .int .i64 0, .int .i64 0, .int .i64 0, .slice none 0 0, .string ⟨#[]⟩, .string ⟨#[]⟩, .string ⟨#[]⟩, .string ⟨#[]⟩, .string ⟨#[]⟩, .string ⟨#[]⟩, .string ⟨#[]⟩, .string ⟨#[]⟩, .string ⟨#[]⟩, .int .i64 2] 28 (0, 0)) := by rw [← hW]; exact put15 (keptB X0.out HB1.out) _ _ _ _ _ _ _ _ _ _ _ _ _ _ _
  have hK : Below w.heap.size w W' := by rw [← hW]; exact set15 (base (al0 _) HB1.out) (Nat.le_refl _) _ _ _ _ _ _ _ _ _ _ _ _ _ _ _
  clear hW
  obtain ⟨q0, q1, q2, q3, q4, q5, q6, q7, q8, q9, q10, q11, q12, q13, q14, qz, qf⟩ := fifteen hX
  refine bodyPost_ret (v := .agg #[.int .i64 0, .int .i64 0, .int .i64 0, .int .i64 0, .slice none 0 0, .string ⟨#[]⟩, .string ⟨#[]⟩, .string ⟨#[]⟩, .string ⟨#[]⟩, .string ⟨#[]⟩, .string ⟨#[]⟩, .string ⟨#[]⟩, .string ⟨#[]⟩, .string ⟨#[]⟩, .int .i64 2]) (by simp [results, Tryz.results9, go_sem, q0, q1, q2, q3, q4, q5, q6, q7, q8, q9, q10, q11, q12, q13, q14]) rfl ?_
  exact (HEnd.ill hK)

set_option maxHeartbeats 4000000 in
set_option maxRecDepth 100000 in
theorem size1 (f : Int) (me lock eph stamp : Bs) (w : World) (d0 : decide (8000 < (me.length : Int)) = false) (d1 : decide (8000 < (lock.length : Int)) = true) : Calls Tryz.prog 9 #[.int .i64 f, str me, str lock, str eph, str stamp] w (HEnd (ill 2) w) := by
  have il := fun c w => ill_calls c w
  simp only [illA] at il
  have IL := Lib.hid il
  clear il
  have X0 := Lib.hid (heap_alloc_new w (.cells #[.int .i64 0, .int .i64 0, .int .i64 0, .int .i64 0, .slice none 0 0, .string ⟨#[]⟩, .string ⟨#[]⟩, .string ⟨#[]⟩, .string ⟨#[]⟩, .string ⟨#[]⟩, .string ⟨#[]⟩, .string ⟨#[]⟩, .string ⟨#[]⟩, .string ⟨#[]⟩, .int .i64 0] 28))
  have HB0 := Lib.hid (Below.refl (w.alloc (.cells #[.int .i64 0, .int .i64 0, .int .i64 0, .int .i64 0, .slice none 0 0, .string ⟨#[]⟩, .string ⟨#[]⟩, .string ⟨#[]⟩, .string ⟨#[]⟩, .string ⟨#[]⟩, .string ⟨#[]⟩, .string ⟨#[]⟩, .string ⟨#[]⟩, .string ⟨#[]⟩, .int .i64 0] 28)).heap.size (w.alloc (.cells #[.int .i64 0, .int .i64 0, .int .i64 0, .int .i64 0, .slice none 0 0, .string ⟨#[]⟩, .string ⟨#[]⟩, .string ⟨#[]⟩, .string ⟨#[]⟩, .string ⟨#[]⟩, .string ⟨#[]⟩, .string ⟨#[]⟩, .string ⟨#[]⟩, .string ⟨#[]⟩, .int .i64 0] 28)))
  go_enter Tryz.func9, Tryz.ntmps9
  go_wp2_with fail
  refine (on (by first | exact HB0.out | exact al1 HB0.out _ | exact al2 HB0.out _ _ | exact al3 HB0.out _ _ _) (IL.out _ _)).mono ?_
  rintro e w1 ⟨rfl, hb⟩
  have HB1 := Lib.hid hb
  clear hb
  obtain ⟨p0, p1, p2, p3, p4, p5, p6, p7, p8, p9, p10, p11, p12, p13, p14, pz, pf⟩ := fifteen (keptB X0.out HB1.out)
  go_wp2_with fail
  clear p0 p1 p2 p3 p4 p5 p6 p7 p8 p9 p10 p11 p12 p13 p14 pz pf
  generalize hW : World.setCell _ _ _ = W'
  have hX : W'.heap[w.heap.size]? = some (.cells #[.int .i64 0, .int .i64 0, .int .i64 0, .int .i64 0, .slice none 0 0, .string ⟨#[]⟩, .string ⟨#[]⟩, .string ⟨#[]⟩, .string ⟨#[]⟩, .string ⟨#[]⟩, .string ⟨#[]⟩, .string ⟨#[]⟩, .string ⟨#[]⟩, .string ⟨#[]⟩, .int .i64 2] 28 (0, 0)) := by rw [← hW]; exact put15 (keptB X0.out HB1.out) _ _ _ _ _ _ _ _ _ _ _ _ _ _ _
  have hK : Below w.heap.size w W' := by rw [← hW]; exact set15 (base (al0 _) HB1.out) (Nat.le_refl _) _ _ _ _ _ _ _ _ _ _ _ _ _ _ _
  clear hW
  obtain ⟨q0, q1, q2, q3, q4, q5, q6, q7, q8, q9, q10, q11, q12, q13, q14, qz, qf⟩ := fifteen hX
  refine bodyPost_ret (v := .agg #[.int .i64 0, .int .i64 0, .int .i64 0, .int .i64 0, .slice none 0 0, .string ⟨#[]⟩, .string ⟨#[]⟩, .string ⟨#[]⟩, .string ⟨#[]⟩, .string ⟨#[]⟩, .string ⟨#[]⟩, .string ⟨#[]⟩, .string ⟨#[]⟩, .string ⟨#[]⟩, .int .i64 2]) (by simp [results, Tryz.results9, go_sem, q0, q1, q2, q3, q4, q5, q6, q7, q8, q9, q10, q11, q12, q13, q14]) rfl ?_
  exact (HEnd.ill hK)

set_option maxHeartbeats 4000000 in
set_option maxRecDepth 100000 in
theorem size2 (f : Int) (me lock eph stamp : Bs) (w : World) (d0 : decide (8000 < (me.length : Int)) = false) (d1 : decide (8000 < (lock.length : Int)) = false) (d2 : decide (8000 < (eph.length : Int)) = true) : Calls Tryz.prog 9 #[.int .i64 f, str me, str lock, str eph, str stamp] w (HEnd (ill 2) w) := by
  have il := fun c w => ill_calls c w
  simp only [illA] at il
  have IL := Lib.hid il
  clear il
  have X0 := Lib.hid (heap_alloc_new w (.cells #[.int .i64 0, .int .i64 0, .int .i64 0, .int .i64 0, .slice none 0 0, .string ⟨#[]⟩, .string ⟨#[]⟩, .string ⟨#[]⟩, .string ⟨#[]⟩, .string ⟨#[]⟩, .string ⟨#[]⟩, .string ⟨#[]⟩, .string ⟨#[]⟩, .string ⟨#[]⟩, .int .i64 0] 28))
  have HB0 := Lib.hid (Below.refl (w.alloc (.cells #[.int .i64 0, .int .i64 0, .int .i64 0, .int .i64 0, .slice none 0 0, .string ⟨#[]⟩, .string ⟨#[]⟩, .string ⟨#[]⟩, .string ⟨#[]⟩, .string ⟨#[]⟩, .string ⟨#[]⟩, .string ⟨#[]⟩, .string ⟨#[]⟩, .string ⟨#[]⟩, .int .i64 0] 28)).heap.size (w.alloc (.cells #[.int .i64 0, .int .i64 0, .int .i64 0, .int .i64 0, .slice none 0 0, .string ⟨#[]⟩, .string ⟨#[]⟩, .string ⟨#[]⟩, .string ⟨#[]⟩, .string ⟨#[]⟩, .string ⟨#[]⟩, .string ⟨#[]⟩, .string ⟨#[]⟩, .string ⟨#[]⟩, .int .i64 0] 28)))
  go_enter Tryz.func9, Tryz.ntmps9
  go_wp2_with fail
  refine (on (by first | exact HB0.out | exact al1 HB0.out _ | exact al2 HB0.out _ _ | exact al3 HB0.out _ _ _) (IL.out _ _)).mono ?_
  rintro e w1 ⟨rfl, hb⟩
  have HB1 := Lib.hid hb
  clear hb
  obtain ⟨p0, p1, p2, p3, p4, p5, p6, p7, p8, p9, p10, p11, p12, p13, p14, pz, pf⟩ := fifteen (keptB X0.out HB1.out)
  go_wp2_with fail
  clear p0 p1 p2 p3 p4 p5 p6 p7 p8 p9 p10 p11 p12 p13 p14 pz pf
  generalize hW : World.setCell _ _ _ = W'
  have hX : W'.heap[w.heap.size]? = some (.cells #[.int .i64 0, .int .i64 0, .int .i64 0, .int .i64 0, .slice none 0 0, .string ⟨#[]⟩, .string ⟨#[]⟩, .string ⟨#[]⟩, .string ⟨#[]⟩, .string ⟨#[]⟩, .string ⟨#[]⟩, .string ⟨#[]⟩, .string ⟨#[]⟩, .string ⟨#[]⟩, .int .i64 2] 28 (0, 0)) := by rw [← hW]; exact put15 (keptB X0.out HB1.out) _ _ _ _ _ _ _ _ _ _ _ _ _ _ _
  have hK : Below w.heap.size w W' := by rw [← hW]; exact set15 (base (al0 _) HB1.out) (Nat.le_refl _) _ _ _ _ _ _ _ _ _ _ _ _ _ _ _
  clear hW
  obtain ⟨q0, q1, q2, q3, q4, q5, q6, q7, q8, q9, q10, q11, q12, q13, q14, qz, qf⟩ := fifteen hX
  refine bodyPost_ret (v := .agg #[.int .i64 0, .int .i64 0, .int .i64 0, .int .i64 0, .slice none 0 0, .string ⟨#[]⟩, .string ⟨#[]⟩, .string ⟨#[]⟩, .string ⟨#[]⟩, .string ⟨#[]⟩, .string ⟨#[]⟩, .string ⟨#[]⟩, .string ⟨#[]⟩, .string ⟨#[]⟩, .int .i64 2]) (by simp [results, Tryz.results9, go_sem, q0, q1, q2, q3, q4, q5, q6, q7, q8, q9, q10, q11, q12, q13, q14]) rfl ?_
  exact (HEnd.ill hK)

set_option maxHeartbeats 4000000 in
set_option maxRecDepth 100000 in
theorem size3 (f : Int) (me lock eph stamp : Bs) (w : World) (d0 : decide (8000 < (me.length : Int)) = false) (d1 : decide (8000 < (lock.length : Int)) = false) (d2 : decide (8000 < (eph.length : Int)) = false) (d3 : decide (8000 < (stamp.length : Int)) = true) : Calls Tryz.prog 9 #[.int .i64 f, str me, str lock, str eph, str stamp] w (HEnd (ill 2) w) := by
  have il := fun c w => ill_calls c w
  simp only [illA] at il
  have IL := Lib.hid il
  clear il
  have X0 := Lib.hid (heap_alloc_new w (.cells #[.int .i64 0, .int .i64 0, .int .i64 0, .int .i64 0, .slice none 0 0, .string ⟨#[]⟩, .string ⟨#[]⟩, .string ⟨#[]⟩, .string ⟨#[]⟩, .string ⟨#[]⟩, .string ⟨#[]⟩, .string ⟨#[]⟩, .string ⟨#[]⟩, .string ⟨#[]⟩, .int .i64 0] 28))
  have HB0 := Lib.hid (Below.refl (w.alloc (.cells #[.int .i64 0, .int .i64 0, .int .i64 0, .int .i64 0, .slice none 0 0, .string ⟨#[]⟩, .string ⟨#[]⟩, .string ⟨#[]⟩, .string ⟨#[]⟩, .string ⟨#[]⟩, .string ⟨#[]⟩, .string ⟨#[]⟩, .string ⟨#[]⟩, .string ⟨#[]⟩, .int .i64 0] 28)).heap.size (w.alloc (.cells #[.int .i64 0, .int .i64 0, .int .i64 0, .int .i64 0, .slice none 0 0, .string ⟨#[]⟩, .string ⟨#[]⟩, .string ⟨#[]⟩, .string ⟨#[]⟩, .string ⟨#[]⟩, .string ⟨#[]⟩, .string ⟨#[]⟩, .string ⟨#[]⟩, .string ⟨#[]⟩, .int .i64 0] 28)))
  go_enter Tryz.func9, Tryz.ntmps9
  go_wp2_with fail
  refine (on (by first | exact HB0.out | exact al1 HB0.out _ | exact al2 HB0.out _ _ | exact al3 HB0.out _ _ _) (IL.out _ _)).mono ?_
  rintro e w1 ⟨rfl, hb⟩
  have HB1 := Lib.hid hb
  clear hb
  obtain ⟨p0, p1, p2, p3, p4, p5, p6, p7, p8, p9, p10, p11, p12, p13, p14, pz, pf⟩ := fifteen (keptB X0.out HB1.out)
  go_wp2_with fail
  clear p0 p1 p2 p3 p4 p5 p6 p7 p8 p9 p10 p11 p12 p13 p14 pz pf
  generalize hW : World.setCell _ _ _ = W'
  have hX : W'.heap[w.heap.size]? = some (.cells #[.int .i64 0, .int .i64 0, .int .i64 0, .int .i64 0, .slice none 0 0, .string ⟨#[]⟩, .string ⟨#[]⟩, .string ⟨#[]⟩, .string ⟨#[]⟩, .string ⟨#[]⟩, .string ⟨#[]⟩, .string ⟨#[]⟩, .string ⟨#[]⟩, .string ⟨#[]⟩, .int .i64 2] 28 (0, 0)) := by rw [← hW]; exact put15 (keptB X0.out HB1.out) _ _ _ _ _ _ _ _ _ _ _ _ _ _ _
  have hK : Below w.heap.size w W' := by rw [← hW]; exact set15 (base (al0 _) HB1.out) (Nat.le_refl _) _ _ _ _ _ _ _ _ _ _ _ _ _ _ _
  clear hW
  obtain ⟨q0, q1, q2, q3, q4, q5, q6, q7, q8, q9, q10, q11, q12, q13, q14, qz, qf⟩ := fifteen hX
  refine bodyPost_ret (v := .agg #[.int .i64 0, .int .i64 0, .int .i64 0, .int .i64 0, .slice none 0 0, .string ⟨#[]⟩, .string ⟨#[]⟩, .string ⟨#[]⟩, .string ⟨#[]⟩, .string ⟨#[]⟩, .string ⟨#[]⟩, .string ⟨#[]⟩, .string ⟨#[]⟩, .string ⟨#[]⟩, .int .i64 2]) (by simp [results, Tryz.results9, go_sem, q0, q1, q2, q3, q4, q5, q6, q7, q8, q9, q10, q11, q12, q13, q14]) rfl ?_
  exact (HEnd.ill hK)

set_option maxHeartbeats 4000000 in
set_option maxRecDepth 100000 in
theorem form0 (f : Int) (me lock eph stamp : Bs) (w : World) (d0 : decide (8000 < (me.length : Int)) = false) (d1 : decide (8000 < (lock.length : Int)) = false) (d2 : decide (8000 < (eph.length : Int)) = false) (d3 : decide (8000 < (stamp.length : Int)) = false) (N : Gives 37 #[.int .i64 f] (.bool false)) : Calls Tryz.prog 9 #[.int .i64 f, str me, str lock, str eph, str stamp] w (HEnd (ill 1) w) := by
  have NH := Lib.hid N
  clear N
  have il := fun c w => ill_calls c w
  simp only [illA] at il
  have IL := Lib.hid il
  clear il
  have X0 := Lib.hid (heap_alloc_new w (.cells #[.int .i64 0, .int .i64 0, .int .i64 0, .int .i64 0, .slice none 0 0, .string ⟨#[]⟩, .string ⟨#[]⟩, .string ⟨#[]⟩, .string ⟨#[]⟩, .string ⟨#[]⟩, .string ⟨#[]⟩, .string ⟨#[]⟩, .string ⟨#[]⟩, .string ⟨#[]⟩, .int .i64 0] 28))
  have HB0 := Lib.hid (Below.refl (w.alloc (.cells #[.int .i64 0, .int .i64 0, .int .i64 0, .int .i64 0, .slice none 0 0, .string ⟨#[]⟩, .string ⟨#[]⟩, .string ⟨#[]⟩, .string ⟨#[]⟩, .string ⟨#[]⟩, .string ⟨#[]⟩, .string ⟨#[]⟩, .string ⟨#[]⟩, .string ⟨#[]⟩, .int .i64 0] 28)).heap.size (w.alloc (.cells #[.int .i64 0, .int .i64 0, .int .i64 0, .int .i64 0, .slice none 0 0, .string ⟨#[]⟩, .string ⟨#[]⟩, .string ⟨#[]⟩, .string ⟨#[]⟩, .string ⟨#[]⟩, .string ⟨#[]⟩, .string ⟨#[]⟩, .string ⟨#[]⟩, .string ⟨#[]⟩, .int .i64 0] 28)))
  go_enter Tryz.func9, Tryz.ntmps9
  go_wp2_with fail
  refine (on (by first | exact HB0.out | exact al1 HB0.out _ | exact al2 HB0.out _ _ | exact al3 HB0.out _ _ _) (NH.out _)).mono ?_
  rintro e w1 ⟨rfl, hb⟩
  have HB1 := Lib.hid hb
  clear hb
  go_wp2_with fail
  refine (on (by first | exact HB1.out | exact al1 HB1.out _ | exact al2 HB1.out _ _ | exact al3 HB1.out _ _ _) (IL.out _ _)).mono ?_
  rintro e w2 ⟨rfl, hb⟩
  have HB2 := Lib.hid hb
  clear hb
  obtain ⟨p0, p1, p2, p3, p4, p5, p6, p7, p8, p9, p10, p11, p12, p13, p14, pz, pf⟩ := fifteen (keptB X0.out HB2.out)
  go_wp2_with fail
  clear p0 p1 p2 p3 p4 p5 p6 p7 p8 p9 p10 p11 p12 p13 p14 pz pf
  generalize hW : World.setCell _ _ _ = W'
  have hX : W'.heap[w.heap.size]? = some (.cells #[.int .i64 0, .int .i64 0, .int .i64 0, .int .i64 0, .slice none 0 0, .string ⟨#[]⟩, .string ⟨#[]⟩, .string ⟨#[]⟩, .string ⟨#[]⟩, .string ⟨#[]⟩, .string ⟨#[]⟩, .string ⟨#[]⟩, .string ⟨#[]⟩, .string ⟨#[]⟩, .int .i64 1] 28 (0, 0)) := by rw [← hW]; exact put15 (keptB X0.out HB2.out) _ _ _ _ _ _ _ _ _ _ _ _ _ _ _
  have hK : Below w.heap.size w W' := by rw [← hW]; exact set15 (base (al0 _) HB2.out) (Nat.le_refl _) _ _ _ _ _ _ _ _ _ _ _ _ _ _ _
  clear hW
  obtain ⟨q0, q1, q2, q3, q4, q5, q6, q7, q8, q9, q10, q11, q12, q13, q14, qz, qf⟩ := fifteen hX
  refine bodyPost_ret (v := .agg #[.int .i64 0, .int .i64 0, .int .i64 0, .int .i64 0, .slice none 0 0, .string ⟨#[]⟩, .string ⟨#[]⟩, .string ⟨#[]⟩, .string ⟨#[]⟩, .string ⟨#[]⟩, .string ⟨#[]⟩, .string ⟨#[]⟩, .string ⟨#[]⟩, .string ⟨#[]⟩, .int .i64 1]) (by simp [results, Tryz.results9, go_sem, q0, q1, q2, q3, q4, q5, q6, q7, q8, q9, q10, q11, q12, q13, q14]) rfl ?_
  exact (HEnd.ill hK)

set_option maxHeartbeats 4000000 in
set_option maxRecDepth 100000 in
theorem form1 (f : Int) (me lock eph stamp : Bs) (w : World) (d0 : decide (8000 < (me.length : Int)) = false) (d1 : decide (8000 < (lock.length : Int)) = false) (d2 : decide (8000 < (eph.length : Int)) = false) (d3 : decide (8000 < (stamp.length : Int)) = false) (N : Gives 37 #[.int .i64 f] (.bool true)) (M : Gives 38 #[str me] (.bool false)) : Calls Tryz.prog 9 #[.int .i64 f, str me, str lock, str eph, str stamp] w (HEnd (ill 1) w) := by
  have NH := Lib.hid N
  clear N
  have MH := Lib.hid M
  clear M
  have il := fun c w => ill_calls c w
  simp only [illA] at il
  have IL := Lib.hid il
  clear il
  have X0 := Lib.hid (heap_alloc_new w (.cells #[.int .i64 0, .int .i64 0, .int .i64 0, .int .i64 0, .slice none 0 0, .string ⟨#[]⟩, .string ⟨#[]⟩, .string ⟨#[]⟩, .string ⟨#[]⟩, .string ⟨#[]⟩, .string ⟨#[]⟩, .string ⟨#[]⟩, .string ⟨#[]⟩, .string ⟨#[]⟩, .int .i64 0] 28))
  have HB0 := Lib.hid (Below.refl (w.alloc (.cells #[.int .i64 0, .int .i64 0, .int .i64 0, .int .i64 0, .slice none 0 0, .string ⟨#[]⟩, .string ⟨#[]⟩, .string ⟨#[]⟩, .string ⟨#[]⟩, .string ⟨#[]⟩, .string ⟨#[]⟩, .string ⟨#[]⟩, .string ⟨#[]⟩, .string ⟨#[]⟩, .int .i64 0] 28)).heap.size (w.alloc (.cells #[.int .i64 0, .int .i64 0, .int .i64 0, .int .i64 0, .slice none 0 0, .string ⟨#[]⟩, .string ⟨#[]⟩, .string ⟨#[]⟩, .string ⟨#[]⟩, .string ⟨#[]⟩, .string ⟨#[]⟩, .string ⟨#[]⟩, .string ⟨#[]⟩, .string ⟨#[]⟩, .int .i64 0] 28)))
  go_enter Tryz.func9, Tryz.ntmps9
  go_wp2_with fail
  refine (on (by first | exact HB0.out | exact al1 HB0.out _ | exact al2 HB0.out _ _ | exact al3 HB0.out _ _ _) (NH.out _)).mono ?_
  rintro e w1 ⟨rfl, hb⟩
  have HB1 := Lib.hid hb
  clear hb
  go_wp2_with fail
  refine (on (by first | exact HB1.out | exact al1 HB1.out _ | exact al2 HB1.out _ _ | exact al3 HB1.out _ _ _) (MH.out _)).mono ?_
  rintro e w2 ⟨rfl, hb⟩
  have HB2 := Lib.hid hb
  clear hb
  go_wp2_with fail
  refine (on (by first | exact HB2.out | exact al1 HB2.out _ | exact al2 HB2.out _ _ | exact al3 HB2.out _ _ _) (IL.out _ _)).mono ?_
  rintro e w3 ⟨rfl, hb⟩
  have HB3 := Lib.hid hb
  clear hb
  obtain ⟨p0, p1, p2, p3, p4, p5, p6, p7, p8, p9, p10, p11, p12, p13, p14, pz, pf⟩ := fifteen (keptB X0.out HB3.out)
  go_wp2_with fail
  clear p0 p1 p2 p3 p4 p5 p6 p7 p8 p9 p10 p11 p12 p13 p14 pz pf
  generalize hW : World.setCell _ _ _ = W'
  have hX : W'.heap[w.heap.size]? = some (.cells #[.int .i64 0, .int .i64 0, .int .i64 0, .int .i64 0, .slice none 0 0, .string ⟨#[]⟩, .string ⟨#[]⟩, .string ⟨#[]⟩, .string ⟨#[]⟩, .string ⟨#[]⟩, .string ⟨#[]⟩, .string ⟨#[]⟩, .string ⟨#[]⟩, .string ⟨#[]⟩, .int .i64 1] 28 (0, 0)) := by rw [← hW]; exact put15 (keptB X0.out HB3.out) _ _ _ _ _ _ _ _ _ _ _ _ _ _ _
  have hK : Below w.heap.size w W' := by rw [← hW]; exact set15 (base (al0 _) HB3.out) (Nat.le_refl _) _ _ _ _ _ _ _ _ _ _ _ _ _ _ _
  clear hW
  obtain ⟨q0, q1, q2, q3, q4, q5, q6, q7, q8, q9, q10, q11, q12, q13, q14, qz, qf⟩ := fifteen hX
  refine bodyPost_ret (v := .agg #[.int .i64 0, .int .i64 0, .int .i64 0, .int .i64 0, .slice none 0 0, .string ⟨#[]⟩, .string ⟨#[]⟩, .string ⟨#[]⟩, .string ⟨#[]⟩, .string ⟨#[]⟩, .string ⟨#[]⟩, .string ⟨#[]⟩, .string ⟨#[]⟩, .string ⟨#[]⟩, .int .i64 1]) (by simp [results, Tryz.results9, go_sem, q0, q1, q2, q3, q4, q5, q6, q7, q8, q9, q10, q11, q12, q13, q14]) rfl ?_
  exact (HEnd.ill hK)

set_option maxHeartbeats 4000000 in
set_option maxRecDepth 100000 in
theorem form2 (f : Int) (me lock eph stamp : Bs) (w : World) (d0 : decide (8000 < (me.length : Int)) = false) (d1 : decide (8000 < (lock.length : Int)) = false) (d2 : decide (8000 < (eph.length : Int)) = false) (d3 : decide (8000 < (stamp.length : Int)) = false) (N : Gives 37 #[.int .i64 f] (.bool true)) (M : Gives 38 #[str me] (.bool true)) (L : Gives 39 #[str lock] (.bool false)) : Calls Tryz.prog 9 #[.int .i64 f, str me, str lock, str eph, str stamp] w (HEnd (ill 1) w) := by
  have NH := Lib.hid N
  clear N
  have MH := Lib.hid M
  clear M
  have LH := Lib.hid L
  clear L
  have il := fun c w => ill_calls c w
  simp only [illA] at il
  have IL := Lib.hid il
  clear il
  have X0 := Lib.hid (heap_alloc_new w (.cells #[.int .i64 0, .int .i64 0, .int .i64 0, .int .i64 0, .slice none 0 0, .string ⟨#[]⟩, .string ⟨#[]⟩, .string ⟨#[]⟩, .string ⟨#[]⟩, .string ⟨#[]⟩, .string ⟨#[]⟩, .string ⟨#[]⟩, .string ⟨#[]⟩, .string ⟨#[]⟩, .int .i64 0] 28))
  have HB0 := Lib.hid (Below.refl (w.alloc (.cells #[.int .i64 0, .int .i64 0, .int .i64 0, .int .i64 0, .slice none 0 0, .string ⟨#[]⟩, .string ⟨#[]⟩, .string ⟨#[]⟩, .string ⟨#[]⟩, .string ⟨#[]⟩, .string ⟨#[]⟩, .string ⟨#[]⟩, .string ⟨#[]⟩, .string ⟨#[]⟩, .int .i64 0] 28)).heap.size (w.alloc (.cells #[.int .i64 0, .int .i64 0, .int .i64 0, .int .i64 0, .slice none 0 0, .string ⟨#[]⟩, .string ⟨#[]⟩, .string ⟨#[]⟩, .string ⟨#[]⟩, .string ⟨#[]⟩, .string ⟨#[]⟩, .string ⟨#[]⟩, .string ⟨#[]⟩, .string ⟨#[]⟩, .int .i64 0] 28)))
  go_enter Tryz.func9, Tryz.ntmps9
  go_wp2_with fail
  refine (on (by first | exact HB0.out | exact al1 HB0.out _ | exact al2 HB0.out _ _ | exact al3 HB0.out _ _ _) (NH.out _)).mono ?_
  rintro e w1 ⟨rfl, hb⟩
  have HB1 := Lib.hid hb
  clear hb
  go_wp2_with fail
  refine (on (by first | exact HB1.out | exact al1 HB1.out _ | exact al2 HB1.out _ _ | exact al3 HB1.out _ _ _) (MH.out _)).mono ?_
  rintro e w2 ⟨rfl, hb⟩
  have HB2 := Lib.hid hb
  clear hb
  go_wp2_with fail
  refine (on (by first | exact HB2.out | exact al1 HB2.out _ | exact al2 HB2.out _ _ | exact al3 HB2.out _ _ _) (LH.out _)).mono ?_
  rintro e w3 ⟨rfl, hb⟩
  have HB3 := Lib.hid hb
  clear hb
  go_wp2_with fail
  refine (on (by first | exact HB3.out | exact al1 HB3.out _ | exact al2 HB3.out _ _ | exact al3 HB3.out _ _ _) (IL.out _ _)).mono ?_
  rintro e w4 ⟨rfl, hb⟩
  have HB4 := Lib.hid hb
  clear hb
  obtain ⟨p0, p1, p2, p3, p4, p5, p6, p7, p8, p9, p10, p11, p12, p13, p14, pz, pf⟩ := fifteen (keptB X0.out HB4.out)
  go_wp2_with fail
  clear p0 p1 p2 p3 p4 p5 p6 p7 p8 p9 p10 p11 p12 p13 p14 pz pf
  generalize hW : World.setCell _ _ _ = W'
  have hX : W'.heap[w.heap.size]? = some (.cells #[.int .i64 0, .int .i64 0, .int .i64 0, .int .i64 0, .slice none 0 0, .string ⟨#[]⟩, .string ⟨#[]⟩, .string ⟨#[]⟩, .string ⟨#[]⟩, .string ⟨#[]⟩, .string ⟨#[]⟩, .string ⟨#[]⟩, .string ⟨#[]⟩, .string ⟨#[]⟩, .int .i64 1] 28 (0, 0)) := by rw [← hW]; exact put15 (keptB X0.out HB4.out) _ _ _ _ _ _ _ _ _ _ _ _ _ _ _
  have hK : Below w.heap.size w W' := by rw [← hW]; exact set15 (base (al0 _) HB4.out) (Nat.le_refl _) _ _ _ _ _ _ _ _ _ _ _ _ _ _ _
  clear hW
  obtain ⟨q0, q1, q2, q3, q4, q5, q6, q7, q8, q9, q10, q11, q12, q13, q14, qz, qf⟩ := fifteen hX
  refine bodyPost_ret (v := .agg #[.int .i64 0, .int .i64 0, .int .i64 0, .int .i64 0, .slice none 0 0, .string ⟨#[]⟩, .string ⟨#[]⟩, .string ⟨#[]⟩, .string ⟨#[]⟩, .string ⟨#[]⟩, .string ⟨#[]⟩, .string ⟨#[]⟩, .string ⟨#[]⟩, .string ⟨#[]⟩, .int .i64 1]) (by simp [results, Tryz.results9, go_sem, q0, q1, q2, q3, q4, q5, q6, q7, q8, q9, q10, q11, q12, q13, q14]) rfl ?_
  exact (HEnd.ill hK)

set_option maxHeartbeats 4000000 in
set_option maxRecDepth 100000 in
theorem form3 (f : Int) (me lock eph stamp : Bs) (w : World) (d0 : decide (8000 < (me.length : Int)) = false) (d1 : decide (8000 < (lock.length : Int)) = false) (d2 : decide (8000 < (eph.length : Int)) = false) (d3 : decide (8000 < (stamp.length : Int)) = false) (N : Gives 37 #[.int .i64 f] (.bool true)) (M : Gives 38 #[str me] (.bool true)) (L : Gives 39 #[str lock] (.bool true)) (E : Gives 38 #[str eph] (.bool false)) : Calls Tryz.prog 9 #[.int .i64 f, str me, str lock, str eph, str stamp] w (HEnd (ill 1) w) := by
  have NH := Lib.hid N
  clear N
  have MH := Lib.hid M
  clear M
  have LH := Lib.hid L
  clear L
  have EH := Lib.hid E
  clear E
  have il := fun c w => ill_calls c w
  simp only [illA] at il
  have IL := Lib.hid il
  clear il
  have X0 := Lib.hid (heap_alloc_new w (.cells #[.int .i64 0, .int .i64 0, .int .i64 0, .int .i64 0, .slice none 0 0, .string ⟨#[]⟩, .string ⟨#[]⟩, .string ⟨#[]⟩, .string ⟨#[]⟩, .string ⟨#[]⟩, .string ⟨#[]⟩, .string ⟨#[]⟩, .string ⟨#[]⟩, .string ⟨#[]⟩, .int .i64 0] 28))
  have HB0 := Lib.hid (Below.refl (w.alloc (.cells #[.int .i64 0, .int .i64 0, .int .i64 0, .int .i64 0, .slice none 0 0, .string ⟨#[]⟩, .string ⟨#[]⟩, .string ⟨#[]⟩, .string ⟨#[]⟩, .string ⟨#[]⟩, .string ⟨#[]⟩, .string ⟨#[]⟩, .string ⟨#[]⟩, .string ⟨#[]⟩, .int .i64 0] 28)).heap.size (w.alloc (.cells #[.int .i64 0, .int .i64 0, .int .i64 0, .int .i64 0, .slice none 0 0, .string ⟨#[]⟩, .string ⟨#[]⟩, .string ⟨#[]⟩, .string ⟨#[]⟩, .string ⟨#[]⟩, .string ⟨#[]⟩, .string ⟨#[]⟩, .string ⟨#[]⟩, .string ⟨#[]⟩, .int .i64 0] 28)))
  go_enter Tryz.func9, Tryz.ntmps9
  go_wp2_with fail
  refine (on (by first | exact HB0.out | exact al1 HB0.out _ | exact al2 HB0.out _ _ | exact al3 HB0.out _ _ _) (NH.out _)).mono ?_
  rintro e w1 ⟨rfl, hb⟩
  have HB1 := Lib.hid hb
  clear hb
  go_wp2_with fail
  refine (on (by first | exact HB1.out | exact al1 HB1.out _ | exact al2 HB1.out _ _ | exact al3 HB1.out _ _ _) (MH.out _)).mono ?_
  rintro e w2 ⟨rfl, hb⟩
  have HB2 := Lib.hid hb
  clear hb
  go_wp2_with fail
  refine (on (by first | exact HB2.out | exact al1 HB2.out _ | exact al2 HB2.out _ _ | exact al3 HB2.out _ _ _) (LH.out _)).mono ?_
  rintro e w3 ⟨rfl, hb⟩
  have HB3 := Lib.hid hb
  clear hb
  go_wp2_with fail
  refine (on (by first | exact HB3.out | exact al1 HB3.out _ | exact al2 HB3.out _ _ | exact al3 HB3.out _ _ _) (EH.out _)).mono ?_
  rintro e w4 ⟨rfl, hb⟩
  have HB4 := Lib.hid hb
  clear hb
  go_wp2_with fail
  refine (on (by first | exact HB4.out | exact al1 HB4.out _ | exact al2 HB4.out _ _ | exact al3 HB4.out _ _ _) (IL.out _ _)).mono ?_
  rintro e w5 ⟨rfl, hb⟩
  have HB5 := Lib.hid hb
  clear hb
  obtain ⟨p0, p1, p2, p3, p4, p5, p6, p7, p8, p9, p10, p11, p12, p13, p14, pz, pf⟩ := fifteen (keptB X0.out HB5.out)
  go_wp2_with fail
  clear p0 p1 p2 p3 p4 p5 p6 p7 p8 p9 p10 p11 p12 p13 p14 pz pf
  generalize hW : World.setCell _ _ _ = W'
  have hX : W'.heap[w.heap.size]? = some (.cells #[.int .i64 0, .int .i64 0, .int .i64 0, .int .i64 0, .slice none 0 0, .string ⟨#[]⟩, .string ⟨#[]⟩, .string ⟨#[]⟩, .string ⟨#[]⟩, .string ⟨#[]⟩, .string ⟨#[]⟩, .string ⟨#[]⟩, .string ⟨#[]⟩, .string ⟨#[]⟩, .int .i64 1] 28 (0, 0)) := by rw [← hW]; exact put15 (keptB X0.out HB5.out) _ _ _ _ _ _ _ _ _ _ _ _ _ _ _
  have hK : Below w.heap.size w W' := by rw [← hW]; exact set15 (base (al0 _) HB5.out) (Nat.le_refl _) _ _ _ _ _ _ _ _ _ _ _ _ _ _ _
  clear hW
  obtain ⟨q0, q1, q2, q3, q4, q5, q6, q7, q8, q9, q10, q11, q12, q13, q14, qz, qf⟩ := fifteen hX
  refine bodyPost_ret (v := .agg #[.int .i64 0, .int .i64 0, .int .i64 0, .int .i64 0, .slice none 0 0, .string ⟨#[]⟩, .string ⟨#[]⟩, .string ⟨#[]⟩, .string ⟨#[]⟩, .string ⟨#[]⟩, .string ⟨#[]⟩, .string ⟨#[]⟩, .string ⟨#[]⟩, .string ⟨#[]⟩, .int .i64 1]) (by simp [results, Tryz.results9, go_sem, q0, q1, q2, q3, q4, q5, q6, q7, q8, q9, q10, q11, q12, q13, q14]) rfl ?_
  exact (HEnd.ill hK)

set_option maxHeartbeats 4000000 in
set_option maxRecDepth 100000 in
theorem form4 (f : Int) (me lock eph stamp : Bs) (w : World) (d0 : decide (8000 < (me.length : Int)) = false) (d1 : decide (8000 < (lock.length : Int)) = false) (d2 : decide (8000 < (eph.length : Int)) = false) (d3 : decide (8000 < (stamp.length : Int)) = false) (N : Gives 37 #[.int .i64 f] (.bool true)) (M : Gives 38 #[str me] (.bool true)) (L : Gives 39 #[str lock] (.bool true)) (E : Gives 38 #[str eph] (.bool true)) (S : Gives 40 #[str stamp] (.bool false)) : Calls Tryz.prog 9 #[.int .i64 f, str me, str lock, str eph, str stamp] w (HEnd (ill 1) w) := by
  have NH := Lib.hid N
  clear N
  have MH := Lib.hid M
  clear M
  have LH := Lib.hid L
  clear L
  have EH := Lib.hid E
  clear E
  have SH := Lib.hid S
  clear S
  have il := fun c w => ill_calls c w
  simp only [illA] at il
  have IL := Lib.hid il
  clear il
  have X0 := Lib.hid (heap_alloc_new w (.cells #[.int .i64 0, .int .i64 0, .int .i64 0, .int .i64 0, .slice none 0 0, .string ⟨#[]⟩, .string ⟨#[]⟩, .string ⟨#[]⟩, .string ⟨#[]⟩, .string ⟨#[]⟩, .string ⟨#[]⟩, .string ⟨#[]⟩, .string ⟨#[]⟩, .string ⟨#[]⟩, .int .i64 0] 28))
  have HB0 := Lib.hid (Below.refl (w.alloc (.cells #[.int .i64 0, .int .i64 0, .int .i64 0, .int .i64 0, .slice none 0 0, .string ⟨#[]⟩, .string ⟨#[]⟩, .string ⟨#[]⟩, .string ⟨#[]⟩, .string ⟨#[]⟩, .string ⟨#[]⟩, .string ⟨#[]⟩, .string ⟨#[]⟩, .string ⟨#[]⟩, .int .i64 0] 28)).heap.size (w.alloc (.cells #[.int .i64 0, .int .i64 0, .int .i64 0, .int .i64 0, .slice none 0 0, .string ⟨#[]⟩, .string ⟨#[]⟩, .string ⟨#[]⟩, .string ⟨#[]⟩, .string ⟨#[]⟩, .string ⟨#[]⟩, .string ⟨#[]⟩, .string ⟨#[]⟩, .string ⟨#[]⟩, .int .i64 0] 28)))
  go_enter Tryz.func9, Tryz.ntmps9
  go_wp2_with fail
  refine (on (by first | exact HB0.out | exact al1 HB0.out _ | exact al2 HB0.out _ _ | exact al3 HB0.out _ _ _) (NH.out _)).mono ?_
  rintro e w1 ⟨rfl, hb⟩
  have HB1 := Lib.hid hb
  clear hb
  go_wp2_with fail
  refine (on (by first | exact HB1.out | exact al1 HB1.out _ | exact al2 HB1.out _ _ | exact al3 HB1.out _ _ _) (MH.out _)).mono ?_
  rintro e w2 ⟨rfl, hb⟩
  have HB2 := Lib.hid hb
  clear hb
  go_wp2_with fail
  refine (on (by first | exact HB2.out | exact al1 HB2.out _ | exact al2 HB2.out _ _ | exact al3 HB2.out _ _ _) (LH.out _)).mono ?_
  rintro e w3 ⟨rfl, hb⟩
  have HB3 := Lib.hid hb
  clear hb
  go_wp2_with fail
  refine (on (by first | exact HB3.out | exact al1 HB3.out _ | exact al2 HB3.out _ _ | exact al3 HB3.out _ _ _) (EH.out _)).mono ?_
  rintro e w4 ⟨rfl, hb⟩
  have HB4 := Lib.hid hb
  clear hb
  go_wp2_with fail
  refine (on (by first | exact HB4.out | exact al1 HB4.out _ | exact al2 HB4.out _ _ | exact al3 HB4.out _ _ _) (SH.out _)).mono ?_
  rintro e w5 ⟨rfl, hb⟩
  have HB5 := Lib.hid hb
  clear hb
  go_wp2_with fail
  refine (on (by first | exact HB5.out | exact al1 HB5.out _ | exact al2 HB5.out _ _ | exact al3 HB5.out _ _ _) (IL.out _ _)).mono ?_
  rintro e w6 ⟨rfl, hb⟩
  have HB6 := Lib.hid hb
  clear hb
  obtain ⟨p0, p1, p2, p3, p4, p5, p6, p7, p8, p9, p10, p11, p12, p13, p14, pz, pf⟩ := fifteen (keptB X0.out HB6.out)
  go_wp2_with fail
  clear p0 p1 p2 p3 p4 p5 p6 p7 p8 p9 p10 p11 p12 p13 p14 pz pf
  generalize hW : World.setCell _ _ _ = W'
  have hX : W'.heap[w.heap.size]? = some (.cells #[.int .i64 0, .int .i64 0, .int .i64 0, .int .i64 0, .slice none 0 0, .string ⟨#[]⟩, .string ⟨#[]⟩, .string ⟨#[]⟩, .string ⟨#[]⟩, .string ⟨#[]⟩, .string ⟨#[]⟩, .string ⟨#[]⟩, .string ⟨#[]⟩, .string ⟨#[]⟩, .int .i64 1] 28 (0, 0)) := by rw [← hW]; exact put15 (keptB X0.out HB6.out) _ _ _ _ _ _ _ _ _ _ _ _ _ _ _
  have hK : Below w.heap.size w W' := by rw [← hW]; exact set15 (base (al0 _) HB6.out) (Nat.le_refl _) _ _ _ _ _ _ _ _ _ _ _ _ _ _ _
  clear hW
  obtain ⟨q0, q1, q2, q3, q4, q5, q6, q7, q8, q9, q10, q11, q12, q13, q14, qz, qf⟩ := fifteen hX
  refine bodyPost_ret (v := .agg #[.int .i64 0, .int .i64 0, .int .i64 0, .int .i64 0, .slice none 0 0, .string ⟨#[]⟩, .string ⟨#[]⟩, .string ⟨#[]⟩, .string ⟨#[]⟩, .string ⟨#[]⟩, .string ⟨#[]⟩, .string ⟨#[]⟩, .string ⟨#[]⟩, .string ⟨#[]⟩, .int .i64 1]) (by simp [results, Tryz.results9, go_sem, q0, q1, q2, q3, q4, q5, q6, q7, q8, q9, q10, q11, q12, q13, q14]) rfl ?_
  exact (HEnd.ill hK)

theorem bad_calls (f : Int) (me lock eph stamp : Bs) (w : World) (h1 : me.length ≤ 4000000) (h2 : lock.length ≤ 4000000) (h3 : eph.length ≤ 4000000) (h4 : stamp.length ≤ 4000000)
    (hb : ¬ (8000 < me.length ∨ 8000 < lock.length ∨ 8000 < eph.length ∨ 8000 < stamp.length) → (endR f && atomR me && (lockS lock).isSome && atomR eph && okT stamp) = false) :
    Calls Tryz.prog 9 #[.int .i64 f, str me, str lock, str eph, str stamp] w (HEnd (initR f me lock eph stamp) w) := by
  have dT : ∀ {l : Bs}, 8000 < l.length → decide (8000 < (l.length : Int)) = true := fun h => by simp; omega
  have dF : ∀ {l : Bs}, ¬ 8000 < l.length → decide (8000 < (l.length : Int)) = false := fun h => by simp; omega
  by_cases g0 : 8000 < me.length
  · rw [initR_size (by omega)]; exact size0 f me lock eph stamp w (dT g0)
  by_cases g1 : 8000 < lock.length
  · rw [initR_size (by omega)]; exact size1 f me lock eph stamp w (dF g0) (dT g1)
  by_cases g2 : 8000 < eph.length
  · rw [initR_size (by omega)]; exact size2 f me lock eph stamp w (dF g0) (dF g1) (dT g2)
  by_cases g3 : 8000 < stamp.length
  · rw [initR_size (by omega)]; exact size3 f me lock eph stamp w (dF g0) (dF g1) (dF g2) (dT g3)
  have hb := hb (by omega)
  rw [initR_form (by omega) hb]
  have N : Gives 37 #[.int .i64 f] (.bool (endR f)) := fun w => lsm.l04No_calls f w
  have M : Gives 38 #[str me] (.bool (atomR me)) := fun w => still (Below.refl _ _) (atom_calls me _ h1 rfl w)
  have L : Gives 39 #[str lock] (.bool (lockS lock).isSome) := fun w => l06Lock_calls lock h2 _ rfl w
  have E : Gives 38 #[str eph] (.bool (atomR eph)) := fun w => still (Below.refl _ _) (atom_calls eph _ h3 rfl w)
  have S : Gives 40 #[str stamp] (.bool (okT stamp)) := fun w => gky.right_any stamp _ rfl h4 w
  cases b0 : endR f
  · rw [b0] at N; exact form0 f me lock eph stamp w (dF g0) (dF g1) (dF g2) (dF g3) N
  rw [b0] at N
  cases b1 : atomR me
  · rw [b1] at M; exact form1 f me lock eph stamp w (dF g0) (dF g1) (dF g2) (dF g3) N M
  rw [b1] at M
  cases b2 : (lockS lock).isSome
  · rw [b2] at L; exact form2 f me lock eph stamp w (dF g0) (dF g1) (dF g2) (dF g3) N M L
  rw [b2] at L
  cases b3 : atomR eph
  · rw [b3] at E; exact form3 f me lock eph stamp w (dF g0) (dF g1) (dF g2) (dF g3) N M L E
  rw [b3] at E
  cases b4 : okT stamp
  · rw [b4] at S; exact form4 f me lock eph stamp w (dF g0) (dF g1) (dF g2) (dF g3) N M L E S
  rw [b0, b1, b2, b3, b4] at hb
  cases hb
end Go.Proofs.YtonjohlecomeoaaGreat.sim
