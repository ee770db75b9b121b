/- The numbers of letters: ends and times. -/
import Derived.Test.YtonjohlecomeoaaTm
namespace Go.Proofs.Ytonjohlecomeoaa.ltp
def endR (n : Int) : Bool := decide (1 ≤ n) && decide (n ≤ 999)
def timeR (n : Int) : Bool := decide (0 ≤ n) && decide (n ≤ 1000000)
end Go.Proofs.Ytonjohlecomeoaa.ltp
