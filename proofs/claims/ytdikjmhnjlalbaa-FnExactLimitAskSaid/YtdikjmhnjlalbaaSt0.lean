/- A text as a value. -/
import Derived.Test.YtdikjmhnjlalbaaTm
import Derived.Test.YtdikjmhnjlalbaaChecked
namespace Go.Proofs.Ytdikjmhnjlalbaa.bld
open Go.Proofs.Ytdikjmhnjlalbaa.tm
abbrev str (l : Bs) : Value := .string ⟨l.toArray⟩
end Go.Proofs.Ytdikjmhnjlalbaa.bld
