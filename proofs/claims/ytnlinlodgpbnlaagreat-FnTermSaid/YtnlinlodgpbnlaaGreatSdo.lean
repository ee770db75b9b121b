/- Contract of the model's DeepOf. -/
import Derived.Test.YtnlinlodgpbnlaaGreatSrt
namespace Go.Proofs.YtnlinlodgpbnlaaGreat.srt
open Go.RowKit Go.Proofs.YtnlinlodgpbnlaaGreat.tm Go.Proofs.YtnlinlodgpbnlaaGreat.lib Go.Proofs.YtnlinlodgpbnlaaGreat.rdr Go.Proofs.YtnlinlodgpbnlaaGreat.bld Go.Proofs.YtnlinlodgpbnlaaGreat.app Go.Proofs.YtnlinlodgpbnlaaGreat.spm Go.Proofs.YtnlinlodgpbnlaaGreat.sar Go.Proofs.YtnlinlodgpbnlaaGreat.sdp
set_option linter.unusedVariables false

set_option maxRecDepth 100000 in
theorem specDeepOf_calls (s : ByteArray) (hs : s.size ≤ maxLen) (w : World) :
    Calls Tryz.prog 28 #[.string s] w fun e w' => e = .returned (.int .i64 (deepT s.data.toList : Nat)) ∧ Below w.heap.size w w' := by
  unfold maxLen at hs
  by_cases hbig : 3000 < s.size
  · have d0 : decide (3000 < (s.size : Int)) = true := by simp; omega
    rw [(deepT_big (l := s.data.toList) (by show ¬ s.size ≤ 3000; omega)).1]
    go_enter Tryz.func28, Tryz.ntmps28
    go_wp2_with fail
    go_ret
    exact ⟨rfl, Below.refl _ _⟩
  · have d0 : decide (3000 < (s.size : Int)) = false := by simp; omega
    rw [deepT_small (show s.data.toList.length ≤ 3000 by show s.size ≤ 3000; omega)]
    have c1 := sd_all 24 (by omega) (by omega) s (by omega)
    obtain ⟨d, hd⟩ : ∃ d, dz 24 s.data.toList = d := ⟨_, rfl⟩
    rw [hd] at c1 ⊢
    clear hd
    go_enter Tryz.func28, Tryz.ntmps28
    go_wp2_with (go_at_call 86; refine (c1 _).mono ?_; rintro e w1 ⟨rfl, hb⟩)
    go_ret
    exact ⟨rfl, hb⟩
end Go.Proofs.YtnlinlodgpbnlaaGreat.srt
