/- okT: is it a right term? -/
import Derived.Test.YtonjohlecomeoaaTm
namespace Go.Proofs.Ytonjohlecomeoaa.ltq
open Go Go.Proofs.Ytonjohlecomeoaa.tm
def okT (l : Bs) : Bool := (term l).isSome
end Go.Proofs.Ytonjohlecomeoaa.ltq
