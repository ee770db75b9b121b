/- Contract of isTime of the program. -/
import Derived.Test.YtdikjmhnjlalbaaLtn
import Derived.Test.YtdikjmhnjlalbaaRd0
import Derived.Test.YtdikjmhnjlalbaaSt0
import Derived.Laws.Concat
import Derived.IntWalk
import Derived.StillTailTactics
import Derived.Lib.QuietBelow
namespace Go.Proofs.Ytdikjmhnjlalbaa.lri
open Go.RowKit Go.Proofs.Ytdikjmhnjlalbaa.tm Go.Proofs.Ytdikjmhnjlalbaa.lib Go.Proofs.Ytdikjmhnjlalbaa.rdr Go.Proofs.Ytdikjmhnjlalbaa.bld Go.Proofs.Ytdikjmhnjlalbaa.ltp
set_option linter.unusedVariables false

theorem isTime_calls (n : Int) (w : World) : Calls Try.prog 47 #[.int .i64 n] w fun e w' => e = .returned (.bool (timeR n)) ∧ w = w' := by
  unfold timeR
  go_enter Try.func47, Try.ntmps47
  go_wp2
  all_goals go_ret
  all_goals exact ⟨by congr 2; simp [*] <;> omega, rfl⟩
end Go.Proofs.Ytdikjmhnjlalbaa.lri
