/- guarded at texts and its deferred closure. -/
import Derived.Test.YtonjohlecomeoaaGrp
namespace Go.Proofs.Ytonjohlecomeoaa.grd
open Go.RowKit Go.Proofs.Ytonjohlecomeoaa.tm Go.Proofs.Ytonjohlecomeoaa.lib Go.Proofs.Ytonjohlecomeoaa.rdr Go.Proofs.Ytonjohlecomeoaa.bld Go.Proofs.Ytonjohlecomeoaa.app Go.Proofs.Ytonjohlecomeoaa.prs
set_option linter.unusedVariables false

set_option maxRecDepth 100000 in
theorem catchS_panic (p : Addr) (x c : Int) (older : List PanicEntry) (w : World) (hc : w.cell? p = some (.int .i64 x)) (hz : w.frozen? p = false) (hp : p.block < w.heap.size) :
    CallsD Try.prog 81 #[.pointer (some p)] (.panicking ({ v := .iface 117 (.agg #[.int .i64 c]), recovered := false } :: older)) w fun e u' w' =>
      e = .returned (.tuple #[]) ∧ u' = .panicking ({ v := .iface 117 (.agg #[.int .i64 c]), recovered := true } :: older) ∧ ∃ w1, Below w.heap.size w w1 ∧ w' = w1.setCell p (.int .i64 c) := by
  refine callsD_of_wpS Try.func81 rfl fun c₀ cs hu => ?_
  apply wpS_seq
  apply wpS_region
  simp [wpOpsS, go_sem, recoverD, hu, Try.ntmps81, Exit.thenS]
  refine wpS_of_wp ?_
  change Code.wp _ _ _ { tmps := #[.pointer (some p), .iface 117 (.agg #[.int .i64 c]), .iface 117 (.agg #[.int .i64 c]), undef, undef, undef, undef], defers := [] } _
  clear hu
  go_wp2_with (go_at_call 82; refine (codeOf_calls _ _).mono ?_; rintro e w1 ⟨rfl, hb⟩; have hc1 := hb.cell hp; rw [hc] at hc1; have hz1 := hb.frozen hp; rw [hz] at hz1; have HB := Lib.hid hb; clear hb)
  exact ⟨rfl, _, rfl, .tuple #[], by simp [results, Try.results81, go_sem], rfl, rfl, w1, HB.out, rfl⟩

set_option maxRecDepth 100000 in
theorem catchS_idle (p : Addr) (w : World) :
    CallsD Try.prog 81 #[.pointer (some p)] .returning w fun e u' w' => e = .returned (.tuple #[]) ∧ u' = .returning ∧ w' = w := by
  refine callsD_of_wpS Try.func81 rfl fun c₀ cs hu => ?_
  apply wpS_seq
  apply wpS_region
  simp [wpOpsS, go_sem, recoverD, hu, Try.ntmps81, Exit.thenS]
  refine wpS_of_wp ?_
  change Code.wp _ _ _ { tmps := #[.pointer (some p), .nilIface, .nilIface, undef, undef, undef, undef], defers := [] } _
  go_wp2
  refine ⟨rfl, .returning, ?_, .tuple #[], by simp [results, Try.results81, go_sem], rfl, rfl, rfl⟩
  cases c₀
  simp_all

/-- guarded of a closure that returns. -/
theorem guardedS_ret (F : FuncId) (cap : Array Value) (v : Value) (hcf : ∀ (w : World), (callFunc F cap).run Try.prog w = .ok (.enter F cap) w) (w : World)
    (h : ∀ w1, Below w.heap.size w w1 → Calls Try.prog F cap w1 fun e w' => e = .returned v ∧ Below w1.heap.size w1 w') :
    Calls Try.prog 70 #[.func (.func F) #[] cap] w fun e w' => e = .returned (.tuple #[v, .int .i64 0]) ∧ Below w.heap.size w w' := by
  have hmf : ∀ (fn : Fn) (first cap : Array Value) (w : World), (Instr.makeFunc fn first cap).run Try.prog w = .ok (.func fn first cap) w := fun _ _ _ _ => rfl
  have HH := Lib.hid h
  clear h
  go_enter_defers Try.func70, Try.ntmps70
  go_wp2_with fail
  refine (HH.out _ ((Below.refl _ _).alloc (Nat.le_refl _) _)).mono ?_
  rintro e w1 ⟨rfl, hb⟩
  obtain ⟨c0, f0, z0⟩ := one (clo.new_kept hb)
  have HB := Lib.hid (((Below.refl _ _).alloc (Nat.le_refl _) _).trans (hb.mono (by simp)))
  clear hb
  go_wp2_with fail
  refine leaves_cons (f := 81) (args := #[.pointer (some ⟨w.heap.size, 0, none⟩)]) (by simp) (by simp [go_sem]) ?_
  refine (catchS_idle ⟨w.heap.size, 0, none⟩ _).mono ?_
  rintro e u' w'' ⟨rfl, rfl, rfl⟩
  refine ⟨.tuple #[v, .int .i64 0], by simp [results, Try.results70, go_sem, c0], rfl, HB.out.setCell (by simp) _⟩

/-- guarded of a closure that leaves off with a code. -/
theorem guardedS_fault (F : FuncId) (cap : Array Value) (c : Int) (hcf : ∀ (w : World), (callFunc F cap).run Try.prog w = .ok (.enter F cap) w) (w : World)
    (h : ∀ w1, Below w.heap.size w w1 → Calls Try.prog F cap w1 fun e w' => e = fault c ∧ Below w1.heap.size w1 w') :
    Calls Try.prog 70 #[.func (.func F) #[] cap] w fun e w' => e = .returned (.tuple #[.string ⟨#[]⟩, .int .i64 c]) ∧ Below w.heap.size w w' := by
  have hmf : ∀ (fn : Fn) (first cap : Array Value) (w : World), (Instr.makeFunc fn first cap).run Try.prog w = .ok (.func fn first cap) w := fun _ _ _ _ => rfl
  have HH := Lib.hid h
  clear h
  go_enter_defers Try.func70, Try.ntmps70
  go_wp2_with fail
  refine (HH.out _ ((Below.refl _ _).alloc (Nat.le_refl _) _)).mono ?_
  rintro e w1 ⟨rfl, hb⟩
  obtain ⟨c0, f0, z0⟩ := one (clo.new_kept hb)
  have HB := Lib.hid (((Below.refl _ _).alloc (Nat.le_refl _) _).trans (hb.mono (by simp)))
  clear hb
  refine leaves_cons (f := 81) (args := #[.pointer (some ⟨w.heap.size, 0, none⟩)]) (by simp) (by simp [go_sem]) ?_
  refine (catchS_panic ⟨w.heap.size, 0, none⟩ 0 c [] _ c0 f0 z0).mono ?_
  rintro e u' w'' ⟨rfl, rfl, w2, hb2, rfl⟩
  have c1 := hb2.cell (p := ⟨w.heap.size, 0, none⟩) z0
  rw [c0] at c1
  have z2 := hb2.size
  have z3 : w.heap.size < w2.heap.size := by omega
  refine ⟨.tuple #[.string ⟨#[]⟩, .int .i64 c], by simp [results, Try.results70, go_sem, c1], rfl, (HB.out.trans (hb2.mono (by omega))).setCell (by simp) _⟩

end Go.Proofs.Ytonjohlecomeoaa.grd
