/- Contract: tooLong. -/
import Derived.Test.YtbohfmnobhodcaaDoorLib
namespace Go.Proofs.YtbohfmnobhodcaaDoor.crc
open Go.RowKit Go.Proofs.YtbohfmnobhodcaaDoor.lib
set_option linter.unusedVariables false

theorem tooLong_calls (s : ByteArray) (hs : s.size ≤ 9223372036854775807) (w : World) :
    Calls Tryd.prog 27 #[.string s] w fun e w' => e = .returned (.bool (decide ((8000 : Int) < s.size))) ∧ w = w' := by
  go_enter Tryd.func27, Tryd.ntmps27
  go_wp2
  go_ret
  exact ⟨rfl, rfl⟩
end Go.Proofs.YtbohfmnobhodcaaDoor.crc
