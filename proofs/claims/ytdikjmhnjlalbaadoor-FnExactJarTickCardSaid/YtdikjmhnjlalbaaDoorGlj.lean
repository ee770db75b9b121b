/- The laws' helpers on jars: sizes, and made the program's. -/
import Derived.Test.YtdikjmhnjlalbaaDoorGl0
import Derived.Test.YtdikjmhnjlalbaaDoorFmj
namespace Go.Proofs.YtdikjmhnjlalbaaDoor.glh
open Go.RowKit Go.Proofs.YtdikjmhnjlalbaaDoor.tm Go.Proofs.YtdikjmhnjlalbaaDoor.lib Go.Proofs.YtdikjmhnjlalbaaDoor.rdr Go.Proofs.YtdikjmhnjlalbaaDoor.bld Go.Proofs.YtdikjmhnjlalbaaDoor.gdp Go.Proofs.YtdikjmhnjlalbaaDoor.rbk Go.Proofs.YtdikjmhnjlalbaaDoor.fmg
set_option linter.unusedVariables false
set_option maxHeartbeats 1000000 in
set_option maxRecDepth 100000 in
theorem szJar_calls (j : Jr) (hj : JrIn j) (L : Nat) (hL : L ≤ 1048576) (w : World) : Calls Tryd.prog 4 #[.agg (jrA j), .int .i64 L] w fun e w' => Below w.heap.size w w' ∧
    (e = .returned (.int .i64 (-1)) ∨ ∃ L' : Nat, e = .returned (.int .i64 L') ∧ L' ≤ L ∧ j.now.length ≤ 1048576 ∧ j.was.length ≤ 1048576) := by
  obtain ⟨s, t, x, y⟩ := j
  have h1 := hj.now
  have h2 := hj.was
  unfold maxLen at h1 h2
  unfold jrA
  simp only at h1 h2 ⊢
  clear hj
  by_cases e1 : L < s.length
  · have d1 : decide ((L : Int) - (s.length : Int) < 0) = true := by simp; omega
    go_enter Tryd.func4, Tryd.ntmps4
    go_wp2_with fail
    go_ret
    exact ⟨new1 _ _, .inl rfl⟩
  have d1 : decide ((L : Int) - (s.length : Int) < 0) = false := by simp; omega
  by_cases e2 : L - s.length < t.length
  · have d2 : decide ((L : Int) - (s.length : Int) - (t.length : Int) < 0) = true := by simp; omega
    go_enter Tryd.func4, Tryd.ntmps4
    go_wp2_with fail
    go_ret
    exact ⟨new1 _ _, .inl rfl⟩
  have d2 : decide ((L : Int) - (s.length : Int) - (t.length : Int) < 0) = false := by simp; omega
  go_enter Tryd.func4, Tryd.ntmps4
  go_wp2_with fail
  go_ret
  refine ⟨new1 _ _, .inr ⟨L - s.length - t.length, ?_, by omega, by omega, by omega⟩⟩
  have q1 : ((L - s.length - t.length : Nat) : Int) = (L : Int) - (s.length : Int) - (t.length : Int) := by omega
  rw [q1]
  rfl

set_option maxHeartbeats 1000000 in
set_option maxRecDepth 100000 in
theorem toJar_calls (j : Jr) (w : World) : Calls Tryd.prog 6 #[.agg (jrA j)] w fun e w' => e = .returned (.agg (jrA j)) ∧ Below w.heap.size w w' := by
  obtain ⟨s, t, x, y⟩ := j
  unfold jrA
  go_enter Tryd.func6, Tryd.ntmps6
  go_wp2_with fail
  refine bodyPost_ret (v := .agg #[str s, str t, .int .i64 x, .int .i64 y]) (by simp [results, Tryd.results6, go_sem]) rfl ⟨rfl, ?_⟩
  exact new3 _ _ _ _
end Go.Proofs.YtdikjmhnjlalbaaDoor.glh
