/- Small frames; a text and a code as a value. -/
import Derived.Test.YtonjohlecomeoaaClo
import Derived.Test.YtonjohlecomeoaaBld
import Derived.Test.YtonjohlecomeoaaApp
namespace Go.Proofs.Ytonjohlecomeoaa.sop
open Go.RowKit Go.Proofs.Ytonjohlecomeoaa.tm Go.Proofs.Ytonjohlecomeoaa.lib Go.Proofs.Ytonjohlecomeoaa.rdr Go.Proofs.Ytonjohlecomeoaa.bld Go.Proofs.Ytonjohlecomeoaa.app
set_option linter.unusedVariables false

theorem fin2 {w w3 : World} {o0 : Obj} (h : Below (w.alloc o0).heap.size (w.alloc o0) w3) (a b : Value) (o : Obj) : Below w.heap.size w (((w3.setCell ⟨w.heap.size, 0, none⟩ a).setCell ⟨w.heap.size, 1, none⟩ b).alloc o) := by
  have hz := h.size
  simp at hz
  exact (((((Below.refl _ _).alloc (Nat.le_refl _) _).trans (h.mono (by simp))).setCell (by simp) _).setCell (by simp) _).alloc (by simp [World.setCell]; omega) _
theorem fin3 {w w3 : World} {o0 : Obj} (h : Below (w.alloc o0).heap.size (w.alloc o0) w3) (a b : Value) : Below w.heap.size w ((w3.setCell ⟨w.heap.size, 0, none⟩ a).setCell ⟨w.heap.size, 1, none⟩ b) :=
  ((((Below.refl _ _).alloc (Nat.le_refl _) _).trans (h.mono (by simp))).setCell (by simp) _).setCell (by simp) _

def outVal (r : Bs) (c : Int) : Value := .agg #[str r, .int .i64 c]

end Go.Proofs.Ytonjohlecomeoaa.sop
