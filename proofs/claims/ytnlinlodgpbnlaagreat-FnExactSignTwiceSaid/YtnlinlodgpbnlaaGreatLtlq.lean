/- What is signed has no more parts than what was handed in. -/
import Derived.Test.YtnlinlodgpbnlaaGreatQe
namespace Go.Proofs.YtnlinlodgpbnlaaGreat.ltl
open Go Go.Proofs.YtnlinlodgpbnlaaGreat.tm Go.Proofs.YtnlinlodgpbnlaaGreat.ltv Go.Proofs.YtnlinlodgpbnlaaGreat.ltp
theorem signR_le (m : Lt) (lock : Bs) : (signR m lock).1.ps.length ≤ m.ps.length := by
  unfold signR
  repeat' split
  all_goals simp [none0]
theorem twiceR_le (m : Lt) (lock : Bs) : (twiceR m lock).1.ps.length ≤ m.ps.length := by
  unfold twiceR
  repeat' split
  all_goals simp [none0]
end Go.Proofs.YtnlinlodgpbnlaaGreat.ltl
