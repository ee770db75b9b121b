/- AtomRight, of the program and of the model: each returns what the plain function atomR says. -/
import Derived.Test.YtonjohlecomeoaaRd0
namespace Go.Proofs.Ytonjohlecomeoaa.atm
open Go.RowKit Go.Proofs.Ytonjohlecomeoaa.tm Go.Proofs.Ytonjohlecomeoaa.lib Go.Proofs.Ytonjohlecomeoaa.rdr
set_option linter.unusedVariables false

/-! ### AtomRight, of the program and of the model; a term's atom -/

theorem atom_no {s : ByteArray} {k : Nat} (h : k < s.size) (hk : isAt s[k] = false) : atomR s.data.toList = false := by
  have hm : s[k] ∈ s.data.toList := by
    have h' : k < s.data.toList.length := by simpa using h
    have : s[k] = s.data.toList[k] := rfl
    rw [this]
    exact List.getElem_mem h'
  cases e : atomR s.data.toList with
  | false => rfl
  | true => have := List.all_eq_true.1 (atomR_all e) _ hm; rw [hk] at this; cases this

theorem atom_yes {s : ByteArray} (h1 : 1 ≤ s.size) (h2 : s.size ≤ 8) (h : ∀ j (hj : j < s.size), isAt s[j] = true) : atomR s.data.toList = true := by
  unfold atomR
  simp only [Bool.and_eq_true, decide_eq_true_eq, List.all_eq_true]
  have e : s.data.toList.length = s.size := rfl
  refine ⟨⟨by omega, by omega⟩, ?_⟩
  intro c hc
  obtain ⟨i, hi, rfl⟩ := List.mem_iff_getElem.1 hc
  exact h i hi

theorem atom_size {s : ByteArray} (h : s.size < 1 ∨ 8 < s.size) : atomR s.data.toList = false := by
  cases e : atomR s.data.toList with
  | false => rfl
  | true => have := atomR_len e; have e' : s.data.toList.length = s.size := rfl; omega

set_option maxRecDepth 100000 in
theorem implAtom_calls (s : ByteArray) (hs : s.size ≤ maxLen) (w : World) :
    Calls Try.prog 28 #[.string s] w fun e w' => e = .returned (.bool (atomR s.data.toList)) ∧ w = w' := by
  unfold maxLen at hs
  by_cases h0 : s.size < 1
  · have HE := Lib.hid (atom_size (s := s) (.inl h0))
    have ne : s.toList.isEmpty = true := by rw [isEmpty_eq]; simpa using h0
    go_enter Try.func28, Try.ntmps28
    go_wp2
    all_goals go_ret
    all_goals exact ⟨ret_bool HE.out.symm, rfl⟩
  have ne : s.toList.isEmpty = false := by rw [isEmpty_eq]; simpa using h0
  by_cases h1 : 8 < s.size
  · have HE := Lib.hid (atom_size (s := s) (.inr h1))
    have d1 : decide (8 < (s.size : Int)) = true := by simp; omega
    go_enter Try.func28, Try.ntmps28
    go_wp2
    all_goals go_ret
    all_goals exact ⟨ret_bool HE.out.symm, rfl⟩
  have d1 : decide (8 < (s.size : Int)) = false := by simp; omega
  go_enter Try.func28, Try.ntmps28
  go_wp2
  go_loop [3, 13, 14, 15, 16, 17, 18, 19, 20, 21] (fun _ i _ _ _ _ _ _ _ _ => ∃ k : Nat, k ≤ s.size ∧ i = .int .i64 k ∧ ∀ j (hj : j < s.size), j < k → isAt s[j] = true) (fun _ i _ _ _ _ _ _ _ _ => s.size - (intOf i).toNat)
  case atStart => exact ⟨0, Nat.zero_le _, rfl, fun j _ hj => by omega⟩
  case round =>
    obtain ⟨k, hk, rfl, hall⟩ := hrel
    have HA := Lib.hid hall
    clear hall
    by_cases hlt : k < s.size
    · cases hx : isAt s[k]
      all_goals
        have HX := Lib.hid hx
        have a1 := isAtomByte_calls s[k]
        rw [hx] at a1
        clear hx
        go_wp2_with (go_at_call 46; refine (a1 _).mono ?_; rintro e w2 ⟨rfl, rfl⟩)
      · go_ret
        exact ⟨ret_bool (atom_no hlt HX.out).symm, rfl⟩
      · go_round
        case rel =>
          refine ⟨k + 1, by omega, by go_num, fun j hj hj' => ?_⟩
          by_cases e : j = k
          · subst e; exact HX.out
          · exact HA.out j hj (by omega)
        case measure => simp [intOf]; omega
    · go_wp2
      go_ret
      exact ⟨ret_bool (atom_yes (by omega) (by omega) fun j hj => HA.out j hj (by omega)).symm, rfl⟩

theorem isAt_no {c : UInt8} (h1 : (c.toNat : Int) < 97 ∨ 122 < (c.toNat : Int)) (h2 : (c.toNat : Int) < 48 ∨ 57 < (c.toNat : Int)) : isAt c = false := by
  unfold isAt
  rw [let_eq, dig_eq]
  simp only [Bool.or_eq_false_iff, Bool.and_eq_false_iff, decide_eq_false_iff_not]
  omega
theorem isAt_yes {c : UInt8} (h : (97 ≤ (c.toNat : Int) ∧ (c.toNat : Int) ≤ 122) ∨ (48 ≤ (c.toNat : Int) ∧ (c.toNat : Int) ≤ 57)) : isAt c = true := by
  unfold isAt
  rw [let_eq, dig_eq]
  simp only [Bool.or_eq_true, Bool.and_eq_true, decide_eq_true_eq]
  omega

set_option maxRecDepth 100000 in
theorem specAtom_calls (s : ByteArray) (hs : s.size ≤ maxLen) (w : World) :
    Calls Try.prog 35 #[.string s] w fun e w' => e = .returned (.bool (atomR s.data.toList)) ∧ w = w' := by
  unfold maxLen at hs
  go_enter Try.func35, Try.ntmps35
  go_wp2
  go_loop [3] (fun i => ∃ k : Nat, k ≤ s.size ∧ i = .int .i64 k ∧ ∀ j (hj : j < s.size), j < k → isAt s[j] = true) (fun i => s.size - (intOf i).toNat)
  case atStart => exact ⟨0, Nat.zero_le _, rfl, fun j _ hj => by omega⟩
  case round =>
    obtain ⟨k, hk, rfl, hall⟩ := hrel
    have HA := Lib.hid hall
    clear hall
    by_cases hlt : k < s.size
    · go_wp2
      all_goals first
        | (go_ret
           refine ⟨ret_bool (atom_no hlt (isAt_no ?_ ?_)).symm, rfl⟩
           all_goals omega)
        | (go_round
           case rel =>
             refine ⟨k + 1, by omega, by go_num, fun j hj hj' => ?_⟩
             by_cases e : j = k
             · subst e; exact isAt_yes (by omega)
             · exact HA.out j hj (by omega)
           case measure => simp [intOf]; omega)
    · have e : k = s.size := by omega
      subst e
      by_cases h1 : s.size < 1
      · have HE := Lib.hid (atom_size (s := s) (.inl h1))
        go_wp2
        all_goals go_ret
        all_goals exact ⟨ret_bool (by first | exact HE.out.symm | (rw [HE.out]; simp; done) | (rw [HE.out]; simp; omega)), rfl⟩
      · by_cases h8 : 8 < s.size
        · have HE := Lib.hid (atom_size (s := s) (.inr h8))
          go_wp2
          all_goals go_ret
          all_goals exact ⟨ret_bool (by first | exact HE.out.symm | (rw [HE.out]; simp; done) | (rw [HE.out]; simp; omega)), rfl⟩
        · have HE := Lib.hid (atom_yes (s := s) (by omega) (by omega) fun j hj => HA.out j hj hj)
          go_wp2
          all_goals go_ret
          all_goals exact ⟨ret_bool (by first | exact HE.out.symm | (rw [HE.out]; simp; done) | (rw [HE.out]; simp; omega)), rfl⟩
end Go.Proofs.Ytonjohlecomeoaa.atm
