/- A text as a value. -/
import Derived.Test.YtdikjmhnjlalbaaDoorTm
import Derived.Test.YtdikjmhnjlalbaaDoorChecked
namespace Go.Proofs.YtdikjmhnjlalbaaDoor.bld
open Go.Proofs.YtdikjmhnjlalbaaDoor.tm
abbrev str (l : Bs) : Value := .string ⟨l.toArray⟩
end Go.Proofs.YtdikjmhnjlalbaaDoor.bld
