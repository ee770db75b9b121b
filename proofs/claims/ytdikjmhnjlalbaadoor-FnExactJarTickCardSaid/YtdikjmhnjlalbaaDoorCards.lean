/-
  DERIVED. GIVEN WITH THE SEED: THE CARDS: each row of YtdikjmhnjlalbaaDoorRows.lean that lists a variable, with what it lists TIED to the program's text (the seventh form; the later family's looks); each row that meets fmt, with fmt's text TOLD by the authors' own Lean function (tested against real Go, not proved from fmt's source: count such statements apart). THE CARD IS WHAT COUNTS. Prove the row's statement (the work); the ties are given (YtdikjmhnjlalbaaDoorTie.lean); close each card by the builder's one call (the guide's Derived/Test/ToyasCard.lean, 'card_holds'). Laid BY PROGRAM, IN A SANDBOX (cutbox-door.mjs). By AI agents, Wed Nov 11 2026. No macro, syntax, notation, axiom, sorry.
-/
import Derived.Test.YtdikjmhnjlalbaaDoorRows
import GoSem.ClaimSeven
namespace Go.Proofs.YtdikjmhnjlalbaaDoor
namespace Rows

/-- THE TIED CARD OF 'laws.FnExactJarTick'. -/
def fnExactJarTickCard : Claim7 := { stood := { row := fnExactJarTickRow, standIns := [], harness := (true, "7db065d4a3ca0c1b009c6a216e3a926dfae02663f3185cc0ceb48008bd7522da"), looks := false }, kinds := [], alts := [], laidByText := true, laidKinds := [.data, .data, .data], laidTests := true, laidLooks := .later }
def FnExactJarTickCardSaid : Prop := Claim7.holds Tryd.pinned (.plain (OpenSpec.ofChange fnExactJarTickSpec)) fnExactJarTickCard

/-- THE SECOND FORM's CARD OF 'laws.FnExactJarTick'. -/
def fnExactJarTickUptoCard : Claim7 := { stood := { row := fnExactJarTickUptoRow, standIns := [], harness := (true, "7db065d4a3ca0c1b009c6a216e3a926dfae02663f3185cc0ceb48008bd7522da"), looks := false }, kinds := [], alts := [], laidByText := true, laidKinds := [.data, .data, .data], laidTests := true, laidLooks := .later }
def FnExactJarTickUptoCardSaid : Prop := Claim7.holds Tryd.pinned (.plain (OpenSpec.upto fnExactJarTickSpec)) fnExactJarTickUptoCard
end Rows
end Go.Proofs.YtdikjmhnjlalbaaDoor
