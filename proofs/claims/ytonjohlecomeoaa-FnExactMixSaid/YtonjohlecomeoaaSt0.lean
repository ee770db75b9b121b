/- A text as a value. -/
import Derived.Test.YtonjohlecomeoaaTm
import Derived.Test.YtonjohlecomeoaaChecked
namespace Go.Proofs.Ytonjohlecomeoaa.bld
open Go.Proofs.Ytonjohlecomeoaa.tm
abbrev str (l : Bs) : Value := .string ⟨l.toArray⟩
end Go.Proofs.Ytonjohlecomeoaa.bld
