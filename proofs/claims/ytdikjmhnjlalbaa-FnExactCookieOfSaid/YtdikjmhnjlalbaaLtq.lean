/- okT: is it a right term? -/
import Derived.Test.YtdikjmhnjlalbaaTm
namespace Go.Proofs.Ytdikjmhnjlalbaa.ltq
open Go Go.Proofs.Ytdikjmhnjlalbaa.tm
def okT (l : Bs) : Bool := (term l).isSome
end Go.Proofs.Ytdikjmhnjlalbaa.ltq
