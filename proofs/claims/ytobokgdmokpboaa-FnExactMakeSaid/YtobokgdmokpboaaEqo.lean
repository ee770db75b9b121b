/- Contract of eqTermOut of the laws, at two values alike. -/
import Derived.Test.YtobokgdmokpboaaSop
namespace Go.Proofs.Ytobokgdmokpboaa.eqo
open Go.RowKit Go.Proofs.Ytobokgdmokpboaa.tm Go.Proofs.Ytobokgdmokpboaa.bld Go.Proofs.Ytobokgdmokpboaa.sop
set_option linter.unusedVariables false

set_option maxRecDepth 100000 in
theorem eqTermOut_calls (r : Bs) (c : Int) (w : World) :
    Calls Try.prog 24 #[outVal r c, outVal r c] w fun e w' => e = .returned (.bool true) ∧ Below w.heap.size w w' := by
  unfold outVal
  go_enter Try.func24, Try.ntmps24
  go_wp2
  go_ret
  exact ⟨rfl, ((Below.refl _ _).alloc (Nat.le_refl _) _).alloc (by simp) _⟩
end Go.Proofs.Ytobokgdmokpboaa.eqo
