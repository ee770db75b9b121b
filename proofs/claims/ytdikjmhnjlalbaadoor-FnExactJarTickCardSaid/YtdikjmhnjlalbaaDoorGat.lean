/- AtomRight at texts. -/
import Derived.Test.YtdikjmhnjlalbaaDoorRbk
import Derived.Test.YtdikjmhnjlalbaaDoorAtm
namespace Go.Proofs.YtdikjmhnjlalbaaDoor.gri
open Go.RowKit Go.Sort Go.Proofs.YtdikjmhnjlalbaaDoor.tm Go.Proofs.YtdikjmhnjlalbaaDoor.lib Go.Proofs.YtdikjmhnjlalbaaDoor.rdr Go.Proofs.YtdikjmhnjlalbaaDoor.bld Go.Proofs.YtdikjmhnjlalbaaDoor.ltp Go.Proofs.YtdikjmhnjlalbaaDoor.gdp Go.Proofs.YtdikjmhnjlalbaaDoor.rbk
set_option linter.unusedVariables false

theorem new1 (w : World) (o : Obj) : Below w.heap.size w (w.alloc o) := (Below.refl _ _).alloc (Nat.le_refl _) _

theorem iatom (x : Bs) (hx : x.length ≤ 4000000) (b : Bool) (hb : atomR x = b) (w : World) : Calls Tryd.prog 20 #[str x] w fun e w' => e = .returned (.bool b) ∧ w = w' := by
  have := atm.implAtom_calls ⟨x.toArray⟩ (by unfold maxLen; show x.toArray.size ≤ _; simp; omega) w
  subst hb
  exact this
theorem satom (x : Bs) (hx : x.length ≤ 4000000) (b : Bool) (hb : atomR x = b) (w : World) : Calls Tryd.prog 17 #[str x] w fun e w' => e = .returned (.bool b) ∧ w = w' := by
  have := atm.specAtom_calls ⟨x.toArray⟩ (by unfold maxLen; show x.toArray.size ≤ _; simp; omega) w
  subst hb
  exact this
end Go.Proofs.YtdikjmhnjlalbaaDoor.gri
