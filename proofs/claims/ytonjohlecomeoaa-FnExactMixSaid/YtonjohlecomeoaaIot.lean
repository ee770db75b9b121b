/- Contracts of tooLong, termOut, readTerm at texts. -/
import Derived.Test.YtonjohlecomeoaaTxo
import Derived.Test.YtonjohlecomeoaaGrq
import Derived.Test.YtonjohlecomeoaaSof
namespace Go.Proofs.Ytonjohlecomeoaa.iop
open Go.RowKit Go.Proofs.Ytonjohlecomeoaa.tm Go.Proofs.Ytonjohlecomeoaa.lib Go.Proofs.Ytonjohlecomeoaa.rdr Go.Proofs.Ytonjohlecomeoaa.bld Go.Proofs.Ytonjohlecomeoaa.app Go.Proofs.Ytonjohlecomeoaa.grd Go.Proofs.Ytonjohlecomeoaa.txo Go.Proofs.Ytonjohlecomeoaa.sop
set_option linter.unusedVariables false

set_option maxRecDepth 100000 in
theorem tooLong_calls (l : Bs) (hl : l.length ≤ 4000000) (b : Bool) (h : decide (8000 < l.length) = b) (w : World) :
    Calls Try.prog 27 #[str l] w fun e w' => e = .returned (.bool b) ∧ w = w' := by
  have d : decide (8000 < (l.length : Int)) = b := by rw [← h]; simp; omega
  clear h
  go_enter Try.func27, Try.ntmps27
  go_wp2_with fail
  go_ret
  exact ⟨rfl, rfl⟩

/-- termOut of a closure that returns. -/
theorem termOut_ret (F : FuncId) (cap : Array Value) (r : Bs) (hcf : ∀ (w : World), (callFunc F cap).run Try.prog w = .ok (.enter F cap) w) (w : World)
    (h : ∀ w1, Below w.heap.size w w1 → Calls Try.prog F cap w1 fun e w' => e = .returned (str r) ∧ Below w1.heap.size w1 w') :
    Calls Try.prog 58 #[.func (.func F) #[] cap] w fun e w' => e = .returned (outVal r 0) ∧ Below w.heap.size w w' := by
  unfold outVal
  have hg := guardedS_ret F cap (str r) hcf
  have HH := Lib.hid h
  clear h
  go_enter Try.func58, Try.ntmps58
  go_wp2_with fail
  refine (hg _ fun w1 hb => HH.out w1 (((Below.refl _ _).alloc (Nat.le_refl _) _).trans (hb.mono (by simp)))).mono ?_
  rintro e w1 ⟨rfl, hb⟩
  have HB := Lib.hid hb
  obtain ⟨c0, c1, f0, f1, hz⟩ := two (clo.new_kept hb)
  clear hb
  go_wp2_with fail
  exact bodyPost_ret (v := .agg #[str r, .int .i64 0]) (by simp [results, Try.results58, go_sem, c0, c1]) rfl ⟨rfl, fin3 HB.out _ _⟩

theorem termOut_fault (F : FuncId) (cap : Array Value) (c : Int) (hcf : ∀ (w : World), (callFunc F cap).run Try.prog w = .ok (.enter F cap) w) (w : World)
    (h : ∀ w1, Below w.heap.size w w1 → Calls Try.prog F cap w1 fun e w' => e = fault c ∧ Below w1.heap.size w1 w') :
    Calls Try.prog 58 #[.func (.func F) #[] cap] w fun e w' => e = .returned (outVal [] c) ∧ Below w.heap.size w w' := by
  unfold outVal
  have hg := guardedS_fault F cap c hcf
  have HH := Lib.hid h
  clear h
  go_enter Try.func58, Try.ntmps58
  go_wp2_with fail
  refine (hg _ fun w1 hb => HH.out w1 (((Below.refl _ _).alloc (Nat.le_refl _) _).trans (hb.mono (by simp)))).mono ?_
  rintro e w1 ⟨rfl, hb⟩
  have HB := Lib.hid hb
  obtain ⟨c0, c1, f0, f1, hz⟩ := two (clo.new_kept hb)
  clear hb
  go_wp2_with fail
  exact bodyPost_ret (v := .agg #[.string ⟨#[]⟩, .int .i64 c]) (by simp [results, Try.results58, go_sem, c0, c1]) rfl ⟨rfl, fin3 HB.out _ _⟩

theorem read_yes (l : Bs) (T : Tm) (h : term l = some T) (w : World) : Calls Try.prog 77 #[str l] w fun e w' => e = .returned (val T) ∧ Below w.heap.size w w' := by
  refine (readTerm_calls ⟨l.toArray⟩ (by have := (term_some.1 h).1; unfold maxLen; show l.toArray.size ≤ _; simp; omega) w).mono ?_
  rintro e w' ⟨hk, hb⟩
  rw [show term (⟨l.toArray⟩ : ByteArray).data.toList = some T from h] at hk
  rcases hk with ⟨T', h1, rfl⟩ | ⟨h1, _⟩
  · cases h1; exact ⟨rfl, hb⟩
  · cases h1
theorem read_no (l : Bs) (hl : l.length ≤ 4000000) (h : term l = none) (w : World) : Calls Try.prog 77 #[str l] w fun e w' => e = fault 1 ∧ Below w.heap.size w w' := by
  refine (readTerm_calls ⟨l.toArray⟩ (by unfold maxLen; show l.toArray.size ≤ _; simp; omega) w).mono ?_
  rintro e w' ⟨hk, hb⟩
  rw [show term (⟨l.toArray⟩ : ByteArray).data.toList = none from h] at hk
  rcases hk with ⟨T', h1, _⟩ | ⟨_, rfl⟩
  · cases h1
  · exact ⟨rfl, hb⟩

theorem kept_cell {w w1 : World} (h : Below w.heap.size w w1) {a : Nat} {v : Value} (c : w.cell? ⟨a, 0, none⟩ = some v) (ha : a < w.heap.size) : w1.cell? ⟨a, 0, none⟩ = some v := by
  rw [h.cell (p := ⟨a, 0, none⟩) ha]; exact c

def OEnd (r : Bs) (c : Int) (w : World) (e : Ending) (w' : World) : Prop := ((c = 0 ∧ e = .returned (str r)) ∨ (c ≠ 0 ∧ e = fault c)) ∧ Below w.heap.size w w'

end Go.Proofs.Ytonjohlecomeoaa.iop
