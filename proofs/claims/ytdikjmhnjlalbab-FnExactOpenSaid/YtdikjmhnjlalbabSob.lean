/- TermRight of the model at texts. -/
import Derived.Test.YtdikjmhnjlalbabSrt
import Derived.Test.YtdikjmhnjlalbabSof
namespace Go.Proofs.Ytdikjmhnjlalbab.sop
open Go.RowKit Go.Proofs.Ytdikjmhnjlalbab.tm Go.Proofs.Ytdikjmhnjlalbab.lib Go.Proofs.Ytdikjmhnjlalbab.rdr Go.Proofs.Ytdikjmhnjlalbab.bld Go.Proofs.Ytdikjmhnjlalbab.app
set_option linter.unusedVariables false

theorem right_at (l : Bs) (b : Bool) (h : (term l).isSome = b) (hl : l.length ≤ 8000) (w : World) :
    Calls Try.prog 36 #[str l] w fun e w' => e = .returned (.bool b) ∧ Below w.heap.size w w' := by
  have := srt.specTermRight_calls ⟨l.toArray⟩ (by unfold maxLen; show l.toArray.size ≤ _; simp; omega) w
  rw [show (term (⟨l.toArray⟩ : ByteArray).data.toList).isSome = b from h] at this
  exact this

end Go.Proofs.Ytdikjmhnjlalbab.sop
