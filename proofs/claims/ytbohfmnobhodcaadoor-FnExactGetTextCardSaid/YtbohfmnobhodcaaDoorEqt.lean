/- Contract: eqTextOut, of one and the same answer. -/
import Derived.Test.YtbohfmnobhodcaaDoorLib
namespace Go.Proofs.YtbohfmnobhodcaaDoor.clo
open Go.RowKit Go.Proofs.YtbohfmnobhodcaaDoor.lib
set_option linter.unusedVariables false

theorem eqTextOut_calls (s : ByteArray) (x y : Int) (w : World) :
    Calls Tryd.prog 17 #[.agg #[.string s, .int .i64 x, .int .i64 y], .agg #[.string s, .int .i64 x, .int .i64 y]] w fun e w' => e = .returned (.bool true) ∧ Below w.heap.size w w' := by
  go_enter Tryd.func17, Tryd.ntmps17
  go_wp2
  go_ret
  exact ⟨rfl, ((Below.refl _ _).alloc (Nat.le_refl _) _).alloc (by simp) _⟩
end Go.Proofs.YtbohfmnobhodcaaDoor.clo
