/- Contracts of the functions behind NameRight: each returns what the plain function nameB says; nothing of memory is written. -/
import Derived.Test.YtbohfmnobhodcaaChecked
import Derived.WalkKit
import Derived.BigGuardPart
import Derived.Lib.Hide
namespace Go.Proofs.Ytbohfmnobhodcaa.nam
open Go.RowKit
set_option linter.unusedVariables false

def isLet (c : Int) : Bool := decide (97 ≤ c) && decide (c ≤ 122)
def isDig (c : Int) : Bool := decide (48 ≤ c) && decide (c ≤ 57)
def okB (c : Int) : Bool := isLet c || isDig c || c == 95
def nameB (s : ByteArray) : Bool :=
  decide (1 ≤ s.size) && decide (s.size ≤ 20) && isLet ((s.data.toList.getD 0 0).toNat) && s.data.toList.all fun c => okB c.toNat

def okP (c : Int) : Prop := (97 ≤ c ∧ c ≤ 122) ∨ (48 ≤ c ∧ c ≤ 57) ∨ c = 95
def okAt (s : ByteArray) (k : Nat) : Prop := okB ((s.data.toList.getD k 0).toNat) = true ∧ (k = 0 → isLet ((s.data.toList.getD k 0).toNat) = true)

theorem okB_iff (c : Int) : okB c = true ↔ okP c := by
  unfold okB okP isLet isDig
  simp [or_assoc]

theorem getD_at (s : ByteArray) (k : Nat) (h : k < s.size) : s.data.toList.getD k 0 = s[k] := by
  have h' : k < s.data.toList.length := by simpa using h
  rw [List.getD_eq_getElem?_getD, List.getElem?_eq_getElem h']; rfl

theorem ret_bool {a b : Bool} (h : a = b) : Ending.returned (.bool a) = .returned (.bool b) := by rw [h]

theorem okAt_mk (s : ByteArray) (k : Nat) (h : k < s.size) (h1 : okP (s[k].toNat)) (h2 : (k : Int) = 0 → 97 ≤ (s[k].toNat : Int) ∧ (s[k].toNat : Int) ≤ 122) : okAt s k := by
  unfold okAt
  rw [getD_at s k h]
  exact ⟨(okB_iff _).2 h1, fun e => by have := h2 (by omega); simp [isLet]; omega⟩

theorem name_no (s : ByteArray) (k : Nat) (h : k < s.size) (h1 : ¬ okP (s[k].toNat) ∨ ((k : Int) = 0 ∧ ¬ (97 ≤ (s[k].toNat : Int) ∧ (s[k].toNat : Int) ≤ 122))) : nameB s = false := by
  by_cases e : nameB s = true
  · exfalso
    unfold nameB at e
    simp only [Bool.and_eq_true, decide_eq_true_eq, List.all_eq_true] at e
    obtain ⟨⟨⟨a, b⟩, c⟩, d⟩ := e
    rcases h1 with h1 | ⟨h2, h1⟩
    · exact h1 ((okB_iff _).1 (d _ (by rw [← getD_at s k h, List.getD_eq_getElem?_getD, List.getElem?_eq_getElem (by simpa using h)]; exact List.getElem_mem _)))
    · have h0 : k = 0 := by omega
      subst h0
      rw [getD_at s 0 h] at c
      simp [isLet] at c
      omega
  · simpa using e

theorem name_yes (s : ByteArray) (h0 : 1 ≤ s.size) (h1 : s.size ≤ 20) (h : ∀ k, k < s.size → okAt s k) : nameB s = true := by
  unfold nameB
  simp only [Bool.and_eq_true, decide_eq_true_eq, List.all_eq_true]
  refine ⟨⟨⟨h0, h1⟩, (h 0 (by omega)).2 rfl⟩, ?_⟩
  intro c hc
  obtain ⟨i, hi, rfl⟩ := List.mem_iff_getElem.1 hc
  have := (h i (by simpa using hi)).1
  rw [List.getD_eq_getElem?_getD, List.getElem?_eq_getElem hi] at this
  exact this

theorem isLetter_calls (c : Int) (w : World) :
    Calls Try.prog 43 #[.int .u8 c] w fun e w' => e = .returned (.bool (isLet c)) ∧ w = w' := by
  go_enter Try.func43, Try.ntmps43
  go_wp2
  all_goals go_ret
  all_goals exact ⟨by congr 2; simp [isLet, *] <;> omega, rfl⟩

theorem isDigit_calls (c : Int) (w : World) :
    Calls Try.prog 44 #[.int .u8 c] w fun e w' => e = .returned (.bool (isDig c)) ∧ w = w' := by
  go_enter Try.func44, Try.ntmps44
  go_wp2
  all_goals go_ret
  all_goals exact ⟨by congr 2; simp [isDig, *] <;> omega, rfl⟩

theorem specName_calls (s : ByteArray) (hs : s.size ≤ maxLen) (w : World) :
    Calls Try.prog 24 #[.string s] w fun e w' => e = .returned (.bool (nameB s)) ∧ w = w' := by
  unfold maxLen at hs
  by_cases h0 : s.size < 1
  · go_enter Try.func24, Try.ntmps24
    go_wp2
    all_goals go_ret
    all_goals exact ⟨by congr 2; simp [nameB]; omega, rfl⟩
  by_cases h1 : 20 < s.size
  · go_enter Try.func24, Try.ntmps24
    go_wp2
    all_goals go_ret
    all_goals exact ⟨by congr 2; simp [nameB]; omega, rfl⟩
  have d0 : decide ((s.size : Int) < 1) = false := by simp; omega
  have d1 : decide (20 < (s.size : Int)) = false := by simp; omega
  go_enter Try.func24, Try.ntmps24
  go_wp2
  go_loop [3] (fun i => ∃ k : Nat, k ≤ s.size ∧ i = .int .i64 k ∧ ∀ j, j < k → okAt s j) (fun i => s.size - (intOf i).toNat)
  case atStart => exact ⟨0, Nat.zero_le _, rfl, fun j hj => by omega⟩
  case round =>
    obtain ⟨k, hk, rfl, hall⟩ := hrel
    have HA := Lib.hid hall
    clear hall
    by_cases hlt : k < s.size
    · go_wp2
      all_goals first
        | (go_ret
           refine ⟨ret_bool (name_no s k hlt ?_).symm, rfl⟩
           unfold okP
           first | omega | (simp only [bne_iff_ne, ne_eq] at *; omega))
        | (go_round
           case rel =>
             refine ⟨k + 1, by omega, by go_num, fun j hj => ?_⟩
             by_cases e : j = k
             · subst e
               refine okAt_mk s j hlt ?_ ?_
               · unfold okP; first | omega | (simp only [bne_eq_false_iff_eq] at *; omega)
               · omega
             · exact HA.out j (by omega)
           case measure => simp [intOf]; omega)
    · go_wp2
      go_ret
      exact ⟨ret_bool (name_yes s (by omega) (by omega) fun j hj => HA.out j (by omega)).symm, rfl⟩

theorem isEmpty_eq (s : ByteArray) : s.toList.isEmpty = decide (s.size < 1) := by
  rw [ByteArray.toList_eq]
  rcases s with ⟨⟨l⟩⟩
  cases l with
  | nil => rfl
  | cons a l => simp [ByteArray.size]

theorem implName_calls (s : ByteArray) (hs : s.size ≤ maxLen) (w : World) :
    Calls Try.prog 25 #[.string s] w fun e w' => e = .returned (.bool (nameB s)) ∧ w = w' := by
  unfold maxLen at hs
  by_cases h0 : s.size < 1
  · have e0 : nameB s = false := by simp [nameB]; omega
    have ne : s.toList.isEmpty = true := by rw [isEmpty_eq]; simpa using h0
    have HE := Lib.hid e0; clear e0
    go_enter Try.func25, Try.ntmps25
    go_wp2
    all_goals go_ret
    all_goals exact ⟨ret_bool HE.out.symm, rfl⟩
  have ne : s.toList.isEmpty = false := by rw [isEmpty_eq]; simpa using h0
  by_cases h1 : 20 < s.size
  · have e0 : nameB s = false := by simp [nameB]; omega
    have d1 : decide (20 < (s.size : Int)) = true := by simp; omega
    have HE := Lib.hid e0; clear e0
    go_enter Try.func25, Try.ntmps25
    go_wp2
    all_goals go_ret
    all_goals exact ⟨ret_bool HE.out.symm, rfl⟩
  have d1 : decide (20 < (s.size : Int)) = false := by simp; omega
  have hp : 0 < s.size := by omega
  cases h2 : isLet (s[0].toNat)
  · have e0 : nameB s = false := name_no s 0 hp (.inr ⟨rfl, by simp [isLet] at h2; omega⟩)
    have HE := Lib.hid e0; clear e0
    go_enter Try.func25, Try.ntmps25
    go_wp2_with (go_at_call 43; refine (isLetter_calls _ _).mono ?_; rintro e w' ⟨rfl, rfl⟩)
    go_ret
    exact ⟨ret_bool HE.out.symm, rfl⟩
  have H2 := Lib.hid h2
  go_enter Try.func25, Try.ntmps25
  go_wp2_with (go_at_call 43; refine (isLetter_calls _ _).mono ?_; rintro e w' ⟨rfl, rfl⟩)
  clear h2
  go_loop [19] (fun i => ∃ k : Nat, k ≤ s.size ∧ i = .int .i64 k ∧ ∀ j, j < k → okAt s j) (fun i => s.size - (intOf i).toNat)
  case atStart => exact ⟨0, Nat.zero_le _, rfl, fun j hj => by omega⟩
  case round =>
    obtain ⟨k, hk, rfl, hall⟩ := hrel
    have HA := Lib.hid hall
    clear hall
    by_cases hlt : k < s.size
    · cases h3 : isLet (s[k].toNat) <;> cases h4 : isDig (s[k].toNat)
      all_goals
        have H3 := Lib.hid h3
        have H4 := Lib.hid h4
        go_wp2_with (first
          | (go_at_call 43; refine (isLetter_calls _ _).mono ?_; rintro e w' ⟨rfl, rfl⟩)
          | (go_at_call 44; refine (isDigit_calls _ _).mono ?_; rintro e w' ⟨rfl, rfl⟩))
        all_goals first
          | (go_ret
             refine ⟨ret_bool (name_no s k hlt (.inl ?_)).symm, rfl⟩
             have a3 := H3.out; have a4 := H4.out
             simp only [isLet, isDig, Bool.and_eq_false_iff, decide_eq_false_iff_not] at a3 a4
             unfold okP
             simp only [bne_iff_ne, ne_eq] at *; omega)
          | (go_round
             case rel =>
               refine ⟨k + 1, by omega, by go_num, fun j hj => ?_⟩
               by_cases e : j = k
               · subst e
                 have a2 := H2.out; have a3 := H3.out; have a4 := H4.out
                 refine okAt_mk s j hlt ?_ ?_
                 · unfold okP
                   simp [isLet, isDig] at a3 a4
                   first | omega | (simp only [bne_eq_false_iff_eq] at *; omega)
                 · intro e
                   have e' : j = 0 := by omega
                   subst e'
                   simp [isLet] at a2
                   omega
               · exact HA.out j (by omega)
             case measure => simp [intOf]; omega)
    · go_wp2
      go_ret
      exact ⟨ret_bool (name_yes s (by omega) (by omega) fun j hj => HA.out j (by omega)).symm, rfl⟩
end Go.Proofs.Ytbohfmnobhodcaa.nam
