/- Digits of a number, of the program; the jar a turn later, of the program. -/
import Derived.Test.YtdikjmhnjlalbaaDoorShd
import Derived.Test.YtdikjmhnjlalbaaDoorTab
import Derived.Test.YtdikjmhnjlalbaaDoorGtp
import Derived.Test.YtdikjmhnjlalbaaDoorGjr
import Derived.Test.YtdikjmhnjlalbaaDoorClo
import Derived.Test.YtdikjmhnjlalbaaDoorGl0
import Derived.RegionTactic
import Derived.BigRegion
import Derived.Deep.RegionWith
namespace Go.Proofs.YtdikjmhnjlalbaaDoor.gjd
open Go.RowKit Go.Sort Go.Proofs.YtdikjmhnjlalbaaDoor.tm Go.Proofs.YtdikjmhnjlalbaaDoor.lib Go.Proofs.YtdikjmhnjlalbaaDoor.rdr Go.Proofs.YtdikjmhnjlalbaaDoor.bld Go.Proofs.YtdikjmhnjlalbaaDoor.ltp Go.Proofs.YtdikjmhnjlalbaaDoor.gdp Go.Proofs.YtdikjmhnjlalbaaDoor.gtp Go.Proofs.YtdikjmhnjlalbaaDoor.rbk Go.Proofs.YtdikjmhnjlalbaaDoor.dec Go.Proofs.YtdikjmhnjlalbaaDoor.tab
set_option linter.unusedVariables false

set_option maxRecDepth 100000 in
theorem digits_calls (n : Int) (h0 : 0 ≤ n) (h1 : n ≤ 1000000000) (w : World) (hh : Has w) :
    Calls Tryd.prog 22 #[.int .i64 n] w fun e w' => e = .returned (str (decR n.toNat)) ∧ Below w.heap.size w w' := by
  have F := shd.formatInt n (by omega) (by omega) w hh
  rw [itoa_dec n h0] at F
  have F' := Lib.hid F
  clear F hh
  go_enter Tryd.func22, Tryd.ntmps22
  go_wp2_with fail
  refine F'.out.mono ?_
  rintro e w1 ⟨rfl, k, os, rfl⟩
  go_wp2_with fail
  go_ret
  exact ⟨rfl, Lib.below_grow _ _ (Nat.le_refl _) _ _⟩
end Go.Proofs.YtdikjmhnjlalbaaDoor.gjd
