/- Contract: eqTextOut, of one and the same answer. -/
import Derived.Test.YtbohfmnobhodcaaLib
namespace Go.Proofs.Ytbohfmnobhodcaa.clo
open Go.RowKit Go.Proofs.Ytbohfmnobhodcaa.lib
set_option linter.unusedVariables false

theorem eqTextOut_calls (s : ByteArray) (x y : Int) (w : World) :
    Calls Try.prog 28 #[.agg #[.string s, .int .i64 x, .int .i64 y], .agg #[.string s, .int .i64 x, .int .i64 y]] w fun e w' => e = .returned (.bool true) ∧ Below w.heap.size w w' := by
  go_enter Try.func28, Try.ntmps28
  go_wp2
  go_ret
  exact ⟨rfl, ((Below.refl _ _).alloc (Nat.le_refl _) _).alloc (by simp) _⟩
end Go.Proofs.Ytbohfmnobhodcaa.clo
