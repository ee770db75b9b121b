/- A text as a value. -/
import Derived.Test.YtdikjmhnjlalbabGreatTm
import Derived.Test.YtdikjmhnjlalbabGreatChecked
namespace Go.Proofs.YtdikjmhnjlalbabGreat.bld
open Go.Proofs.YtdikjmhnjlalbabGreat.tm
abbrev str (l : Bs) : Value := .string ⟨l.toArray⟩
end Go.Proofs.YtdikjmhnjlalbabGreat.bld
