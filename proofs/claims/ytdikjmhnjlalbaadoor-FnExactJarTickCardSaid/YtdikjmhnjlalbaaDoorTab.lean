/- What a row that lists strconv's table of powers of ten gives a walk; a world that meets the row of JarTick. After the guide's worked text of a row over tables. -/
import Derived.Test.YtdikjmhnjlalbaaDoorRows
import Derived.Test.YtdikjmhnjlalbaaDoorTie
import Derived.Test.YtdikjmhnjlalbaaDoorFr0
import Derived.ProofKit
import Derived.LaidMore
import Derived.Lib.LaidTab
import Derived.Lib.AppendIntMem
import Derived.Lib.ItoaNum
import Derived.Stop.Joined
namespace Go.Proofs.YtdikjmhnjlalbaaDoor.tab
open Go.ChangeShapes Go.WideShapes Go.RowKit
set_option linter.unusedVariables false

def Has (w : World) : Prop := Lib.TabIs Tryd.prog w "internal/strconv.uint64pow10" .u64 Lib.pow10Tab

theorem gPow : Tryd.prog.globalNamed "internal/strconv.uint64pow10" = some 0 := by kernel_rfl
theorem tPow : (Tryd.prog.globals[0]?).map (·.type) = some 53 := by kernel_rfl
theorem datum : (Rows.laid_internal_strconv_uint64pow10 : DataW Unit) = Lib.tabData .u64 Lib.pow10Tab := rfl

set_option maxRecDepth 100000 in
theorem of_laid {W : World} (h : laidMetH Tryd.prog Rows.fnExactJarTickRow.laid W) : Has W := by
  rw [MakeChecks.laidMetH_plain _ _ _ (by kernel_rfl)] at h
  obtain ⟨ps, ⟨g0, t0, cs0, f0, p0, q0, hg0, ht0, hv0, hd0, ⟨g1, t1, cs1, f1, p1, q1, hg1, ht1, hv1, hd1, ⟨g2, t2, cs2, f2, p2, q2, hg2, ht2, hv2, hd2, _, _⟩, _⟩, _⟩, _, _⟩ := h
  obtain rfl := Option.some.inj (gPow.symm.trans hg2)
  obtain rfl := Option.some.inj (tPow.symm.trans ht2)
  rw [datum] at hd2
  unfold Has Lib.TabIs
  rw [hv2, ← Lib.cells_of_tab (n := 20) (e := 46) (by kernel_rfl) (by kernel_rfl) (by kernel_rfl) (by kernel_rfl) hd2]

theorem door_met (os : Os) (args : Array Value) : laidMetH Tryd.prog Rows.fnExactJarTickRow.laid ((World.doorLaid Tryd.prog 4000 os).forCall (fun _ _ => 0) ⟨#[], args, []⟩).memory := by
  rw [MakeChecks.laidMetH_plain _ _ _ (by kernel_rfl)]
  exact laidMet_of_run' 8 (by kernel_rfl) (by kernel_rfl)

/-- It stays. -/
theorem Has.below {w w' : World} (h : Has w) (k : Below w.heap.size w w') : Has w' := (Lib.tabBelow_of_tabIs h) w' k
end Go.Proofs.YtdikjmhnjlalbaaDoor.tab
