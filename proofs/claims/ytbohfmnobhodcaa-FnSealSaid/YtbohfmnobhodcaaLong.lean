/- Contract: tooLong. -/
import Derived.Test.YtbohfmnobhodcaaLib
namespace Go.Proofs.Ytbohfmnobhodcaa.crc
open Go.RowKit Go.Proofs.Ytbohfmnobhodcaa.lib
set_option linter.unusedVariables false

theorem tooLong_calls (s : ByteArray) (hs : s.size ≤ 9223372036854775807) (w : World) :
    Calls Try.prog 37 #[.string s] w fun e w' => e = .returned (.bool (decide ((8000 : Int) < s.size))) ∧ w = w' := by
  go_enter Try.func37, Try.ntmps37
  go_wp2
  go_ret
  exact ⟨rfl, rfl⟩
end Go.Proofs.Ytbohfmnobhodcaa.crc
