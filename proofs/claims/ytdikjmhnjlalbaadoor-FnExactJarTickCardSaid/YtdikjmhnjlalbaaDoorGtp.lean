/- A jar, turned: plain mathematics; the model's digits are those of the library. -/
import Derived.Test.YtdikjmhnjlalbaaDoorGdp
import Derived.Test.YtdikjmhnjlalbaaDoorDec
import Derived.Lib.ItoaNum
namespace Go.Proofs.YtdikjmhnjlalbaaDoor.gtp
open Go Go.RowKit Go.Proofs.YtdikjmhnjlalbaaDoor.tm Go.Proofs.YtdikjmhnjlalbaaDoor.ltp Go.Proofs.YtdikjmhnjlalbaaDoor.gdp Go.Proofs.YtdikjmhnjlalbaaDoor.dec
set_option linter.unusedVariables false

theorem dec_lib : ∀ n : Nat, n ≠ 0 → dd n = Lib.decDigits n := by
  intro n
  induction n using Nat.strongRecOn with
  | _ n ih =>
    intro h
    rw [dd_step h, Lib.decDigits]
    by_cases h10 : n < 10
    · rw [dif_pos h10]
      have e1 : n / 10 = 0 := by omega
      have e2 : n % 10 = n := by omega
      rw [e1, e2, dd_zero]
      rfl
    · rw [dif_neg h10, ih (n / 10) (by omega) (by omega)]
theorem decR_lib (n : Nat) : decR n = Lib.decDigits n := by
  unfold decR
  split
  · rename_i h
    subst h
    rw [Lib.decDigits]
    rfl
  · rename_i h
    exact dec_lib n h
theorem itoa_dec (n : Int) (h : 0 ≤ n) : Lib.itoa n = decR n.toNat := by
  unfold Lib.itoa
  rw [if_neg (by omega), decR_lib]

theorem dd_len : ∀ n k : Nat, n < 10 ^ k → (dd n).length ≤ k := by
  intro n
  induction n using Nat.strongRecOn with
  | _ n ih =>
    intro k h
    by_cases h0 : n = 0
    · subst h0; rw [dd_zero]; simp
    · cases k with
      | zero => simp at h; omega
      | succ k =>
        rw [dd_step h0, List.length_append]
        have := ih (n / 10) (by omega) k (by rw [Nat.pow_succ] at h; omega)
        simp
        omega
theorem decR_len (n : Nat) (h : n ≤ 1000001) : (decR n).length ≤ 7 := by
  unfold decR
  split
  · simp
  · exact dd_len n 7 (by omega)

def jr0 : Jr := ⟨[], [], 0, 0⟩
/-- The jar a turn later. -/
def nextR (j : Jr) (now : Int) : Jr := ⟨115 :: decR j.next.toNat, if 240 ≤ now - j.at_ then [] else j.now, now, j.next + 1⟩
def tickR (j : Jr) (now : Int) : Jr × Int :=
  if !(jarR j) || !(timeR now) then (jr0, 1)
  else if now < j.at_ then (jr0, 8)
  else if now - j.at_ < 120 then (j, 0)
  else if jarR (nextR j now) then (nextR j now, 0) else (jr0, 9)

structure JarOk (j : Jr) : Prop where
  now : atomR j.now = true
  was : j.was = [] ∨ atomR j.was = true
  a1 : 0 ≤ j.at_
  a2 : j.at_ ≤ 1000000
  n1 : 0 ≤ j.next
  n2 : j.next ≤ 1000000
theorem jarOk {j : Jr} (h : jarR j = true) : JarOk j := by
  unfold jarR timeR at h
  simp only [Bool.and_eq_true, Bool.or_eq_true, decide_eq_true_eq] at h
  obtain ⟨⟨⟨⟨h1, h2⟩, h3⟩, h4, h5⟩, h6, h7⟩ := h
  exact ⟨h1, h2, h4, h5, h6, h7⟩
theorem next_len {j : Jr} (h : jarR j = true) (now : Int) : (nextR j now).now.length ≤ 4000000 ∧ (nextR j now).was.length ≤ 4000000 := by
  have k := jarOk h
  have h1 := decR_len j.next.toNat (by have := k.n2; omega)
  have h2 := (atomR_len k.now).2
  unfold nextR
  refine ⟨by simp; omega, ?_⟩
  show (if 240 ≤ now - j.at_ then ([] : Bs) else j.now).length ≤ 4000000
  split
  · simp
  · omega
end Go.Proofs.YtdikjmhnjlalbaaDoor.gtp
