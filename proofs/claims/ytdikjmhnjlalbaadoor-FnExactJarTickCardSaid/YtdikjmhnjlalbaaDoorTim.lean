/- Contract of isTime of the program. -/
import Derived.Test.YtdikjmhnjlalbaaDoorLtn
import Derived.Test.YtdikjmhnjlalbaaDoorRd0
import Derived.Test.YtdikjmhnjlalbaaDoorSt0
import Derived.Laws.Concat
import Derived.IntWalk
import Derived.StillTailTactics
import Derived.Lib.QuietBelow
namespace Go.Proofs.YtdikjmhnjlalbaaDoor.lri
open Go.RowKit Go.Proofs.YtdikjmhnjlalbaaDoor.tm Go.Proofs.YtdikjmhnjlalbaaDoor.lib Go.Proofs.YtdikjmhnjlalbaaDoor.rdr Go.Proofs.YtdikjmhnjlalbaaDoor.bld Go.Proofs.YtdikjmhnjlalbaaDoor.ltp
set_option linter.unusedVariables false

theorem isTime_calls (n : Int) (w : World) : Calls Tryd.prog 13 #[.int .i64 n] w fun e w' => e = .returned (.bool (timeR n)) ∧ w = w' := by
  unfold timeR
  go_enter Tryd.func13, Tryd.ntmps13
  go_wp2
  all_goals go_ret
  all_goals exact ⟨by congr 2; simp [*] <;> omega, rfl⟩
end Go.Proofs.YtdikjmhnjlalbaaDoor.lri
