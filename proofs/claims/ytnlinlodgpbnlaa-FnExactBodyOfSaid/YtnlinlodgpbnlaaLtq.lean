/- okT: is it a right term? -/
import Derived.Test.YtnlinlodgpbnlaaTm
namespace Go.Proofs.Ytnlinlodgpbnlaa.ltq
open Go Go.Proofs.Ytnlinlodgpbnlaa.tm
def okT (l : Bs) : Bool := (term l).isSome
end Go.Proofs.Ytnlinlodgpbnlaa.ltq
