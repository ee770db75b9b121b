/- TermRight of the model at texts; small frames; a text and a code as a value. -/
import Derived.Test.YtnlinlodgpbnlaaGreatSrt
import Derived.Test.YtnlinlodgpbnlaaGreatClo
namespace Go.Proofs.YtnlinlodgpbnlaaGreat.sop
open Go.RowKit Go.Proofs.YtnlinlodgpbnlaaGreat.tm Go.Proofs.YtnlinlodgpbnlaaGreat.lib Go.Proofs.YtnlinlodgpbnlaaGreat.rdr Go.Proofs.YtnlinlodgpbnlaaGreat.bld Go.Proofs.YtnlinlodgpbnlaaGreat.app
set_option linter.unusedVariables false

theorem right_at (l : Bs) (b : Bool) (h : (term l).isSome = b) (hl : l.length ≤ 8000) (w : World) :
    Calls Tryz.prog 26 #[str l] w fun e w' => e = .returned (.bool b) ∧ Below w.heap.size w w' := by
  have := srt.specTermRight_calls ⟨l.toArray⟩ (by unfold maxLen; show l.toArray.size ≤ _; simp; omega) w
  rw [show (term (⟨l.toArray⟩ : ByteArray).data.toList).isSome = b from h] at this
  exact this

theorem fin2 {w w3 : World} {o0 : Obj} (h : Below (w.alloc o0).heap.size (w.alloc o0) w3) (a b : Value) (o : Obj) : Below w.heap.size w (((w3.setCell ⟨w.heap.size, 0, none⟩ a).setCell ⟨w.heap.size, 1, none⟩ b).alloc o) := by
  have hz := h.size
  simp at hz
  exact (((((Below.refl _ _).alloc (Nat.le_refl _) _).trans (h.mono (by simp))).setCell (by simp) _).setCell (by simp) _).alloc (by simp [World.setCell]; omega) _
theorem fin3 {w w3 : World} {o0 : Obj} (h : Below (w.alloc o0).heap.size (w.alloc o0) w3) (a b : Value) : Below w.heap.size w ((w3.setCell ⟨w.heap.size, 0, none⟩ a).setCell ⟨w.heap.size, 1, none⟩ b) :=
  ((((Below.refl _ _).alloc (Nat.le_refl _) _).trans (h.mono (by simp))).setCell (by simp) _).setCell (by simp) _

def outVal (r : Bs) (c : Int) : Value := .agg #[str r, .int .i64 c]

end Go.Proofs.YtnlinlodgpbnlaaGreat.sop
