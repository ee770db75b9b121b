/- Numbers and texts that came in, read: for the frames of laws. -/
import Derived.Test.YtdikjmhnjlalbaaDoorFr0
import Derived.Test.YtdikjmhnjlalbaaDoorRbk
import Derived.Deep.Fields
import Derived.Deep.Slices
namespace Go.Proofs.YtdikjmhnjlalbaaDoor.fmg
open Go.ChangeShapes Go.WideShapes Go.ChangeAt Go.RowKit
open Go.Proofs.YtdikjmhnjlalbaaDoor.tm Go.Proofs.YtdikjmhnjlalbaaDoor.bld Go.Proofs.YtdikjmhnjlalbaaDoor.gdp Go.Proofs.YtdikjmhnjlalbaaDoor.rbk
set_option linter.unusedVariables false

theorem cellsI : Tryd.prog.cellsOf 2 = 1 := by kernel_rfl
theorem bs_of (s : ByteArray) : Value.string s = str s.data.toList := by simp [str]
theorem bounds {n : Int} (h : (Lit.int .i64 n).wf = true) : -9223372036854775808 ≤ n ∧ n ≤ 9223372036854775807 := by
  simpa [Lit.wf, IntKind.min, IntKind.max, IntKind.signed, IntKind.bits] using h
end Go.Proofs.YtdikjmhnjlalbaaDoor.fmg
