/- Contract of the model's l02Say. -/
import Derived.Test.YtonjohlecomeoaaTxo
import Derived.Test.YtonjohlecomeoaaSof
namespace Go.Proofs.Ytonjohlecomeoaa.ssy
open Go.RowKit Go.Proofs.Ytonjohlecomeoaa.tm Go.Proofs.Ytonjohlecomeoaa.lib Go.Proofs.Ytonjohlecomeoaa.rdr Go.Proofs.Ytonjohlecomeoaa.bld Go.Proofs.Ytonjohlecomeoaa.app Go.Proofs.Ytonjohlecomeoaa.txo Go.Proofs.Ytonjohlecomeoaa.sop
set_option linter.unusedVariables false

set_option maxHeartbeats 1000000 in
set_option maxRecDepth 100000 in
theorem say_one (op x : Bs) (g : Nat) (off : Nat) (cap : Nat) (w : World) (c0 : w.cell? ⟨g, off, none⟩ = some (str x)) (hop : op.length ≤ 10000) (hx : x.length ≤ 4000000) :
    Calls Try.prog 44 #[str op, .slice (some ⟨g, off, none⟩) 1 cap] w fun e w' => e = .returned (str (say op [x])) ∧ Below w.heap.size w w' := by
  obtain ⟨X, hX⟩ : ∃ X, X = say op [x] := ⟨_, rfl⟩
  obtain ⟨S1, hS1⟩ : ∃ S, 91 :: op = S := ⟨_, rfl⟩
  obtain ⟨S2, hS2⟩ : ∃ S, S1 ++ [32] = S := ⟨_, rfl⟩
  obtain ⟨S3, hS3⟩ : ∃ S, S2 ++ x = S := ⟨_, rfl⟩
  have l1 : S1.length ≤ 10001 := by rw [← hS1]; simp; omega
  have l2 : S2.length ≤ 10002 := by rw [← hS2]; simp; omega
  have l3 : S3.length ≤ 5000000 := by rw [← hS3]; simp; omega
  have f1 := add_at [91] op S1 hS1 (by omega)
  have f2 := add_at S1 [32] S2 hS2 (by omega)
  have f3 := add_at S2 x S3 hS3 (by omega)
  have f4 := add_at S3 [93] X (by rw [← hS3, ← hS2, ← hS1, hX]; simp [say]) (by rw [hX]; simp [say]; omega)
  rw [← hX]
  clear hX hS1 hS2 hS3 l1 l2 l3
  go_enter Try.func44, Try.ntmps44
  go_wp2_with fail
  refine wp_loop_rounds 2 ?_
  rw [rounds_succ]
  go_wp2_with fail
  rw [rounds_succ]
  go_wp2_with fail
  go_ret
  exact ⟨rfl, Below.refl _ _⟩

set_option maxHeartbeats 1000000 in
set_option maxRecDepth 100000 in
theorem say_two (op x y : Bs) (g : Nat) (off : Nat) (cap : Nat) (w : World) (c0 : w.cell? ⟨g, off, none⟩ = some (str x)) (c1 : w.cell? ⟨g, off + 1, none⟩ = some (str y)) (hop : op.length ≤ 10000) (hx : x.length ≤ 4000000) (hy : y.length ≤ 4000000) :
    Calls Try.prog 44 #[str op, .slice (some ⟨g, off, none⟩) 2 cap] w fun e w' => e = .returned (str (say op [x, y])) ∧ Below w.heap.size w w' := by
  obtain ⟨X, hX⟩ : ∃ X, X = say op [x, y] := ⟨_, rfl⟩
  obtain ⟨S1, hS1⟩ : ∃ S, 91 :: op = S := ⟨_, rfl⟩
  obtain ⟨S2, hS2⟩ : ∃ S, S1 ++ [32] = S := ⟨_, rfl⟩
  obtain ⟨S3, hS3⟩ : ∃ S, S2 ++ x = S := ⟨_, rfl⟩
  obtain ⟨S4, hS4⟩ : ∃ S, S3 ++ [32] = S := ⟨_, rfl⟩
  obtain ⟨S5, hS5⟩ : ∃ S, S4 ++ y = S := ⟨_, rfl⟩
  have l1 : S1.length ≤ 10001 := by rw [← hS1]; simp; omega
  have l2 : S2.length ≤ 10002 := by rw [← hS2]; simp; omega
  have l3 : S3.length ≤ 5000000 := by rw [← hS3]; simp; omega
  have l4 : S4.length ≤ 5000001 := by rw [← hS4]; simp; omega
  have l5 : S5.length ≤ 10000000 := by rw [← hS5]; simp; omega
  have f1 := add_at [91] op S1 hS1 (by omega)
  have f2 := add_at S1 [32] S2 hS2 (by omega)
  have f3 := add_at S2 x S3 hS3 (by omega)
  have f4 := add_at S3 [32] S4 hS4 (by omega)
  have f5 := add_at S4 y S5 hS5 (by omega)
  have f6 := add_at S5 [93] X (by rw [← hS5, ← hS4, ← hS3, ← hS2, ← hS1, hX]; simp [say]) (by rw [hX]; simp [say]; omega)
  rw [← hX]
  clear hX hS1 hS2 hS3 hS4 hS5 l1 l2 l3 l4 l5
  go_enter Try.func44, Try.ntmps44
  go_wp2_with fail
  refine wp_loop_rounds 3 ?_
  rw [rounds_succ]
  go_wp2_with fail
  rw [rounds_succ]
  go_wp2_with fail
  rw [rounds_succ]
  go_wp2_with fail
  go_ret
  exact ⟨rfl, Below.refl _ _⟩

end Go.Proofs.Ytonjohlecomeoaa.ssy
