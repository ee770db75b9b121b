/- Contracts of JarRight, of the program and of the model. -/
import Derived.Test.YtdikjmhnjlalbaaDoorGat
import Derived.Test.YtdikjmhnjlalbaaDoorTim
import Derived.Test.YtdikjmhnjlalbaaDoorLis
namespace Go.Proofs.YtdikjmhnjlalbaaDoor.gjr
open Go.RowKit Go.Sort Go.Proofs.YtdikjmhnjlalbaaDoor.tm Go.Proofs.YtdikjmhnjlalbaaDoor.lib Go.Proofs.YtdikjmhnjlalbaaDoor.rdr Go.Proofs.YtdikjmhnjlalbaaDoor.bld Go.Proofs.YtdikjmhnjlalbaaDoor.ltp Go.Proofs.YtdikjmhnjlalbaaDoor.gdp Go.Proofs.YtdikjmhnjlalbaaDoor.rbk Go.Proofs.YtdikjmhnjlalbaaDoor.gri
set_option linter.unusedVariables false

theorem e_yes {a b : Bs} (h : a = b) : (a == b) = true ∧ (a != b) = false := by subst h; simp
theorem e_no {a b : Bs} (h : a ≠ b) : (a == b) = false ∧ (a != b) = true := by simp [h]

set_option maxHeartbeats 4000000 in
set_option maxRecDepth 100000 in
theorem implJar_calls (j : Jr) (h1 : j.now.length ≤ 4000000) (h2 : j.was.length ≤ 4000000) (w : World) :
    Calls Tryd.prog 12 #[.agg (jrA j)] w fun e w' => e = .returned (.bool (jarR j)) ∧ Below w.heap.size w w' := by
  rw [← jar_impl]
  obtain ⟨n, p, a, x⟩ := j
  unfold jrA
  simp only at h1 h2 ⊢
  obtain ⟨b1, hb1⟩ : ∃ b, b = atomR n := ⟨_, rfl⟩
  obtain ⟨b2, hb2⟩ : ∃ b, b = atomR p := ⟨_, rfl⟩
  rw [← hb1, ← hb2]
  have I1 := Lib.hid (iatom n h1 b1 hb1.symm)
  have I2 := Lib.hid (iatom p h2 b2 hb2.symm)
  clear hb1 hb2 h1 h2
  have hx : timeR x = (decide (0 ≤ x) && decide (x ≤ 1000000)) := rfl
  rw [hx]
  obtain ⟨b3, hb3⟩ : ∃ b, b = timeR a := ⟨_, rfl⟩
  have I3 := Lib.hid (lri.isTime_calls a)
  rw [← hb3] at I3 ⊢
  clear hb3 hx
  by_cases e0 : p = []
  · obtain ⟨d1, d2, d3⟩ := lsm.e_yes e0
    simp only [decide_eq_true e0, Bool.true_or, Bool.and_true]
    subst e0
    cases b1
    · go_enter Tryd.func12, Tryd.ntmps12
      go_wp2_with fail
      refine (I1.out _).mono ?_
      rintro e w1 ⟨rfl, rfl⟩
      go_wp2_with fail
      go_ret
      exact ⟨rfl, new1 _ _⟩
    · go_enter Tryd.func12, Tryd.ntmps12
      go_wp2_with fail
      refine (I1.out _).mono ?_
      rintro e w1 ⟨rfl, rfl⟩
      go_wp2_with fail
      refine (I3.out _).mono ?_
      rintro e w1 ⟨rfl, rfl⟩
      cases b3
      · go_wp2_with fail
        go_ret
        exact ⟨rfl, new1 _ _⟩
      · go_wp2_with fail
        all_goals go_ret
        all_goals exact ⟨by congr 2; simp [*] <;> omega, new1 _ _⟩
  · obtain ⟨d1, d2, d3⟩ := lsm.e_no e0
    simp only [decide_eq_false e0, Bool.false_or]
    clear e0
    cases b2
    · simp only [Bool.false_and, Bool.and_false]
      cases b1
      all_goals
        go_enter Tryd.func12, Tryd.ntmps12
        go_wp2_with fail
        refine (I2.out _).mono ?_
        rintro e w1 ⟨rfl, rfl⟩
        go_wp2_with fail
        refine (I1.out _).mono ?_
        rintro e w1 ⟨rfl, rfl⟩
        go_wp2_with fail
        go_ret
        exact ⟨rfl, new1 _ _⟩
    · simp only [Bool.true_and]
      by_cases e1 : p = n
      · obtain ⟨d4, d5⟩ := e_yes e1
        rw [show decide (p ≠ n) = false by simp [e1]]
        clear e1
        simp only [Bool.and_false, Bool.false_and]
        cases b1
        all_goals
          go_enter Tryd.func12, Tryd.ntmps12
          go_wp2_with fail
          refine (I2.out _).mono ?_
          rintro e w1 ⟨rfl, rfl⟩
          go_wp2_with fail
          refine (I1.out _).mono ?_
          rintro e w1 ⟨rfl, rfl⟩
          go_wp2_with fail
          go_ret
          exact ⟨rfl, new1 _ _⟩
      · obtain ⟨d4, d5⟩ := e_no e1
        rw [show decide (p ≠ n) = true by simp [e1]]
        clear e1
        simp only [Bool.and_true]
        cases b1
        · go_enter Tryd.func12, Tryd.ntmps12
          go_wp2_with fail
          refine (I2.out _).mono ?_
          rintro e w1 ⟨rfl, rfl⟩
          go_wp2_with fail
          refine (I1.out _).mono ?_
          rintro e w1 ⟨rfl, rfl⟩
          go_wp2_with fail
          go_ret
          exact ⟨rfl, new1 _ _⟩
        · go_enter Tryd.func12, Tryd.ntmps12
          go_wp2_with fail
          refine (I2.out _).mono ?_
          rintro e w1 ⟨rfl, rfl⟩
          go_wp2_with fail
          refine (I1.out _).mono ?_
          rintro e w1 ⟨rfl, rfl⟩
          go_wp2_with fail
          refine (I3.out _).mono ?_
          rintro e w1 ⟨rfl, rfl⟩
          cases b3
          · go_wp2_with fail
            go_ret
            exact ⟨rfl, new1 _ _⟩
          · go_wp2_with fail
            all_goals go_ret
            all_goals exact ⟨by congr 2; simp [*] <;> omega, new1 _ _⟩

theorem l05Time_calls (n : Int) (w : World) : Calls Tryd.prog 10 #[.int .i64 n] w fun e w' => e = .returned (.bool (timeR n)) ∧ w = w' := by
  unfold timeR
  go_enter Tryd.func10, Tryd.ntmps10
  go_wp2_with fail
  refine (lsm.l02Is_calls _ _ _ _).mono ?_
  rintro e w1 ⟨rfl, rfl⟩
  go_wp2_with fail
  go_ret
  exact ⟨rfl, rfl⟩

set_option maxHeartbeats 4000000 in
set_option maxRecDepth 100000 in
theorem specJar_calls (j : Jr) (h1 : j.now.length ≤ 4000000) (h2 : j.was.length ≤ 4000000) (w : World) :
    Calls Tryd.prog 9 #[.agg (jrA j)] w fun e w' => e = .returned (.bool (jarR j)) ∧ Below w.heap.size w w' := by
  unfold jarR
  obtain ⟨n, p, a, x⟩ := j
  unfold jrA
  simp only at h1 h2 ⊢
  obtain ⟨b1, hb1⟩ : ∃ b, b = atomR n := ⟨_, rfl⟩
  obtain ⟨b2, hb2⟩ : ∃ b, b = atomR p := ⟨_, rfl⟩
  obtain ⟨b3, hb3⟩ : ∃ b, b = timeR a := ⟨_, rfl⟩
  obtain ⟨b4, hb4⟩ : ∃ b, b = timeR x := ⟨_, rfl⟩
  have I1 := Lib.hid (satom n h1 b1 hb1.symm)
  have I2 := Lib.hid (satom p h2 b2 hb2.symm)
  have I3 := Lib.hid (l05Time_calls a)
  have I4 := Lib.hid (l05Time_calls x)
  rw [← hb1, ← hb2]
  rw [← hb3] at I3 ⊢
  rw [← hb4] at I4 ⊢
  clear hb1 hb2 hb3 hb4 h1 h2
  cases b1
  · simp only [Bool.false_and]
    go_enter Tryd.func9, Tryd.ntmps9
    go_wp2_with fail
    refine (I1.out _).mono ?_
    rintro e w1 ⟨rfl, rfl⟩
    go_wp2_with fail
    go_ret
    exact ⟨rfl, new1 _ _⟩
  simp only [Bool.true_and]
  obtain ⟨b5, hb5⟩ : ∃ b, b = (decide (p = []) || b2) := ⟨_, rfl⟩
  rw [← hb5]
  by_cases e1 : p = n
  · obtain ⟨d4, d5⟩ := e_yes e1
    rw [show decide (p ≠ n) = false by simp [e1]]
    clear e1
    simp only [Bool.and_false, Bool.false_and]
    clear hb5
    by_cases e0 : p = []
    · obtain ⟨d1, d2, d3⟩ := lsm.e_yes e0
      subst e0
      go_enter Tryd.func9, Tryd.ntmps9
      go_wp2_with fail
      refine (I1.out _).mono ?_
      rintro e w1 ⟨rfl, rfl⟩
      go_wp2_with fail
      go_ret
      exact ⟨rfl, new1 _ _⟩
    · obtain ⟨d1, d2, d3⟩ := lsm.e_no e0
      clear e0
      cases b2
      all_goals
        go_enter Tryd.func9, Tryd.ntmps9
        go_wp2_with fail
        refine (I1.out _).mono ?_
        rintro e w1 ⟨rfl, rfl⟩
        go_wp2_with fail
        refine (I2.out _).mono ?_
        rintro e w1 ⟨rfl, rfl⟩
        go_wp2_with fail
        go_ret
        exact ⟨rfl, new1 _ _⟩
  · obtain ⟨d4, d5⟩ := e_no e1
    rw [show decide (p ≠ n) = true by simp [e1]]
    clear e1
    simp only [Bool.and_true]
    by_cases e0 : p = []
    · obtain ⟨d1, d2, d3⟩ := lsm.e_yes e0
      simp only [decide_eq_true e0, Bool.true_or] at hb5
      subst hb5
      subst e0
      simp only [Bool.true_and]
      cases b3
      · go_enter Tryd.func9, Tryd.ntmps9
        go_wp2_with fail
        refine (I1.out _).mono ?_
        rintro e w1 ⟨rfl, rfl⟩
        go_wp2_with fail
        refine (I3.out _).mono ?_
        rintro e w1 ⟨rfl, rfl⟩
        go_wp2_with fail
        go_ret
        exact ⟨rfl, new1 _ _⟩
      · go_enter Tryd.func9, Tryd.ntmps9
        go_wp2_with fail
        refine (I1.out _).mono ?_
        rintro e w1 ⟨rfl, rfl⟩
        go_wp2_with fail
        refine (I3.out _).mono ?_
        rintro e w1 ⟨rfl, rfl⟩
        go_wp2_with fail
        refine (I4.out _).mono ?_
        rintro e w1 ⟨rfl, rfl⟩
        go_wp2_with fail
        go_ret
        exact ⟨rfl, new1 _ _⟩
    · obtain ⟨d1, d2, d3⟩ := lsm.e_no e0
      simp only [decide_eq_false e0, Bool.false_or] at hb5
      subst hb5
      clear e0
      cases b5
      · go_enter Tryd.func9, Tryd.ntmps9
        go_wp2_with fail
        refine (I1.out _).mono ?_
        rintro e w1 ⟨rfl, rfl⟩
        go_wp2_with fail
        refine (I2.out _).mono ?_
        rintro e w1 ⟨rfl, rfl⟩
        go_wp2_with fail
        go_ret
        exact ⟨rfl, new1 _ _⟩
      · simp only [Bool.true_and]
        cases b3
        · go_enter Tryd.func9, Tryd.ntmps9
          go_wp2_with fail
          refine (I1.out _).mono ?_
          rintro e w1 ⟨rfl, rfl⟩
          go_wp2_with fail
          refine (I2.out _).mono ?_
          rintro e w1 ⟨rfl, rfl⟩
          go_wp2_with fail
          refine (I3.out _).mono ?_
          rintro e w1 ⟨rfl, rfl⟩
          go_wp2_with fail
          go_ret
          exact ⟨rfl, new1 _ _⟩
        · go_enter Tryd.func9, Tryd.ntmps9
          go_wp2_with fail
          refine (I1.out _).mono ?_
          rintro e w1 ⟨rfl, rfl⟩
          go_wp2_with fail
          refine (I2.out _).mono ?_
          rintro e w1 ⟨rfl, rfl⟩
          go_wp2_with fail
          refine (I3.out _).mono ?_
          rintro e w1 ⟨rfl, rfl⟩
          go_wp2_with fail
          refine (I4.out _).mono ?_
          rintro e w1 ⟨rfl, rfl⟩
          go_wp2_with fail
          go_ret
          exact ⟨rfl, new1 _ _⟩
end Go.Proofs.YtdikjmhnjlalbaaDoor.gjr
