/- Contract of l02Is of the model; a text that is empty, or is not. -/
import Derived.Test.YtdikjmhnjlalbaaDoorRd0
import Derived.Test.YtdikjmhnjlalbaaDoorSt0
import Derived.Laws.Concat
import Derived.IntWalk
import Derived.StillTailTactics
import Derived.Lib.QuietBelow
namespace Go.Proofs.YtdikjmhnjlalbaaDoor.lsm
open Go.RowKit Go.Sort Go.Proofs.YtdikjmhnjlalbaaDoor.tm Go.Proofs.YtdikjmhnjlalbaaDoor.lib Go.Proofs.YtdikjmhnjlalbaaDoor.rdr Go.Proofs.YtdikjmhnjlalbaaDoor.bld
set_option linter.unusedVariables false

theorem l02Is_calls (n lo hi : Int) (w : World) : Calls Tryd.prog 18 #[.int .i64 n, .int .i64 lo, .int .i64 hi] w fun e w' => e = .returned (.bool (decide (lo ≤ n) && decide (n ≤ hi))) ∧ w = w' := by
  go_enter Tryd.func18, Tryd.ntmps18
  go_wp2
  all_goals go_ret
  all_goals exact ⟨by congr 2; simp [*] <;> omega, rfl⟩

theorem e_yes {a : Bs} (h : a = []) : (a == []) = true ∧ a.isEmpty = true ∧ (a != []) = false := by subst h; exact ⟨rfl, rfl, rfl⟩
theorem e_no {a : Bs} (h : a ≠ []) : (a == []) = false ∧ a.isEmpty = false ∧ (a != []) = true := by cases a with | nil => exact absurd rfl h | cons x l => exact ⟨rfl, rfl, rfl⟩
end Go.Proofs.YtdikjmhnjlalbaaDoor.lsm
