/- What BodyOf answers. -/
import Derived.Test.YtnlinlodgpbnlaaLtp
namespace Go.Proofs.Ytnlinlodgpbnlaa.bdr
open Go Go.Proofs.Ytnlinlodgpbnlaa.tm Go.Proofs.Ytnlinlodgpbnlaa.ltv Go.Proofs.Ytnlinlodgpbnlaa.ltp
def bodyR (m : Lt) : Bs := if right m then body m.ps else []
end Go.Proofs.Ytnlinlodgpbnlaa.bdr
