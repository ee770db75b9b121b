/- Contract: eqNumOut, of one and the same answer. -/
import Derived.Test.YtbohfmnobhodcaaDoorLib
namespace Go.Proofs.YtbohfmnobhodcaaDoor.eqn
open Go.RowKit Go.Proofs.YtbohfmnobhodcaaDoor.lib
set_option linter.unusedVariables false

theorem eqNumOut_calls (x y z : Int) (w : World) :
    Calls Tryd.prog 15 #[.agg #[.int .i64 x, .int .i64 y, .int .i64 z], .agg #[.int .i64 x, .int .i64 y, .int .i64 z]] w fun e w' => e = .returned (.bool true) ∧ Below w.heap.size w w' := by
  go_enter Tryd.func15, Tryd.ntmps15
  go_wp2
  go_ret
  exact ⟨rfl, ((Below.refl _ _).alloc (Nat.le_refl _) _).alloc (by simp) _⟩
end Go.Proofs.YtbohfmnobhodcaaDoor.eqn
