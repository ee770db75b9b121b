/- Contract of eqTermOut of the laws, at two values alike. -/
import Derived.Test.YtdikjmhnjlalbabSop
namespace Go.Proofs.Ytdikjmhnjlalbab.eqo
open Go.RowKit Go.Proofs.Ytdikjmhnjlalbab.tm Go.Proofs.Ytdikjmhnjlalbab.bld Go.Proofs.Ytdikjmhnjlalbab.sop
set_option linter.unusedVariables false

set_option maxRecDepth 100000 in
theorem eqTermOut_calls (r : Bs) (c : Int) (w : World) :
    Calls Try.prog 31 #[outVal r c, outVal r c] w fun e w' => e = .returned (.bool true) ∧ Below w.heap.size w w' := by
  unfold outVal
  go_enter Try.func31, Try.ntmps31
  go_wp2
  go_ret
  exact ⟨rfl, ((Below.refl _ _).alloc (Nat.le_refl _) _).alloc (by simp) _⟩
end Go.Proofs.Ytdikjmhnjlalbab.eqo
