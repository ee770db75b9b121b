/- AtomRight at texts. -/
import Derived.Test.YtdikjmhnjlalbaaRbk
import Derived.Test.YtdikjmhnjlalbaaAtm
namespace Go.Proofs.Ytdikjmhnjlalbaa.gri
open Go.RowKit Go.Sort Go.Proofs.Ytdikjmhnjlalbaa.tm Go.Proofs.Ytdikjmhnjlalbaa.lib Go.Proofs.Ytdikjmhnjlalbaa.rdr Go.Proofs.Ytdikjmhnjlalbaa.bld Go.Proofs.Ytdikjmhnjlalbaa.ltp Go.Proofs.Ytdikjmhnjlalbaa.gdp Go.Proofs.Ytdikjmhnjlalbaa.rbk
set_option linter.unusedVariables false

theorem new1 (w : World) (o : Obj) : Below w.heap.size w (w.alloc o) := (Below.refl _ _).alloc (Nat.le_refl _) _

theorem iatom (x : Bs) (hx : x.length ≤ 4000000) (b : Bool) (hb : atomR x = b) (w : World) : Calls Try.prog 38 #[str x] w fun e w' => e = .returned (.bool b) ∧ w = w' := by
  have := atm.implAtom_calls ⟨x.toArray⟩ (by unfold maxLen; show x.toArray.size ≤ _; simp; omega) w
  subst hb
  exact this
theorem satom (x : Bs) (hx : x.length ≤ 4000000) (b : Bool) (hb : atomR x = b) (w : World) : Calls Try.prog 37 #[str x] w fun e w' => e = .returned (.bool b) ∧ w = w' := by
  have := atm.specAtom_calls ⟨x.toArray⟩ (by unfold maxLen; show x.toArray.size ≤ _; simp; omega) w
  subst hb
  exact this
end Go.Proofs.Ytdikjmhnjlalbaa.gri
