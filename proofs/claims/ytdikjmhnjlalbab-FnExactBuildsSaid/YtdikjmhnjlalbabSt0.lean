/- A text as a value. -/
import Derived.Test.YtdikjmhnjlalbabTm
import Derived.Test.YtdikjmhnjlalbabChecked
namespace Go.Proofs.Ytdikjmhnjlalbab.bld
open Go.Proofs.Ytdikjmhnjlalbab.tm
abbrev str (l : Bs) : Value := .string ⟨l.toArray⟩
end Go.Proofs.Ytdikjmhnjlalbab.bld
