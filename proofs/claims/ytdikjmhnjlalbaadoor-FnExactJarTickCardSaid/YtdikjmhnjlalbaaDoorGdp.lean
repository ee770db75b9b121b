/- Who may knock, as plain data: addresses, jars, buckets, limits; what is right of them. Nothing here speaks of the program. -/
import Derived.Test.YtdikjmhnjlalbaaDoorLtn
import Derived.Test.YtdikjmhnjlalbaaDoorAto
namespace Go.Proofs.YtdikjmhnjlalbaaDoor.gdp
open Go Go.RowKit Go.Proofs.YtdikjmhnjlalbaaDoor.tm Go.Proofs.YtdikjmhnjlalbaaDoor.ltp Go.Proofs.YtdikjmhnjlalbaaDoor.ato
set_option linter.unusedVariables false

structure Ad where
  st : Bs
  hs : Bs
structure Jr where
  now : Bs
  was : Bs
  at_ : Int
  next : Int
structure Bk where
  st : Bs
  left : Int
  at_ : Int

def adR (a : Ad) : Bool := atomR a.st && atomR a.hs
def jarR (j : Jr) : Bool := atomR j.now && (decide (j.was = []) || atomR j.was) && decide (j.was ≠ j.now) && timeR j.at_ && timeR j.next
/-- One bucket is right. -/
def bkR (burst : Int) (b : Bk) : Bool := atomR b.st && (decide (0 ≤ b.left) && decide (b.left ≤ burst)) && timeR b.at_
def riseR : List Bk → Bool
  | [] => true
  | [_] => true
  | a :: b :: l => decide (a.st < b.st) && riseR (b :: l)
/-- The numbers of a limit. -/
def hdR (rate burst : Int) : Bool := (decide (1 ≤ rate) && decide (rate ≤ 10)) && (decide (1 ≤ burst) && decide (burst ≤ 100))
def limR (rate burst : Int) (l : List Bk) : Bool := hdR rate burst && decide (l.length ≤ 6) && l.all (bkR burst) && riseR l

theorem jar_impl (j : Jr) : (atomR j.now && (decide (j.was = []) || (atomR j.was && decide (j.was ≠ j.now))) && timeR j.at_ && timeR j.next) = jarR j := by
  unfold jarR
  congr 1
  congr 1
  by_cases h : j.was = []
  · by_cases h2 : j.was = j.now
    · have : atomR j.now = false := by rw [← h2, h]; rfl
      rw [this]
      simp
    · simp [h]
      intro _ h3
      exact h2 (by rw [h]; exact h3.symm)
  · cases atomR j.now <;> cases atomR j.was <;> simp [h]

/-! ### rising -/
theorem rise_iff : ∀ (l : List Bk), riseR l = true ↔ Rise (l.map (·.st))
  | [] => by simp [riseR, Rise]
  | [a] => by simp [riseR, Rise]
  | a :: b :: l => by
    have ih := rise_iff (b :: l)
    unfold riseR
    rw [Bool.and_eq_true, decide_eq_true_eq, ih]
    unfold Rise
    simp only [List.map_cons]
    rw [List.pairwise_cons (a := a.st)]
    constructor
    · rintro ⟨h1, h2⟩
      refine ⟨fun x hx => ?_, h2⟩
      rcases List.mem_cons.1 hx with rfl | hx
      · exact h1
      · exact List.lt_trans h1 ((List.pairwise_cons.1 h2).1 x hx)
    · rintro ⟨h1, h2⟩
      exact ⟨h1 _ (by simp), h2⟩

/-- What holds of the buckets ahead of place i. -/
def okTo (burst : Int) (l : List Bk) (i : Nat) : Prop := ∀ j b, j < i → l[j]? = some b → bkR burst b = true ∧ ∀ a, 0 < j → l[j - 1]? = some a → a.st < b.st

theorem okTo_zero (burst : Int) (l : List Bk) : okTo burst l 0 := fun j b hj _ => by omega
theorem okTo_step {burst : Int} {l : List Bk} {i : Nat} {b : Bk} (h : okTo burst l i) (hb : l[i]? = some b) (h1 : bkR burst b = true) (h2 : ∀ a, 0 < i → l[i - 1]? = some a → a.st < b.st) : okTo burst l (i + 1) := by
  intro j c hj hc
  by_cases e : j = i
  · subst e
    rw [hb] at hc; cases hc
    exact ⟨h1, h2⟩
  · exact h j c (by omega) hc

theorem riseR_of : ∀ (l : List Bk), (∀ j a b, l[j]? = some a → l[j + 1]? = some b → a.st < b.st) → riseR l = true
  | [], _ => rfl
  | [_], _ => rfl
  | a :: b :: l, h => by
    unfold riseR
    rw [Bool.and_eq_true, decide_eq_true_eq]
    exact ⟨h 0 a b rfl rfl, riseR_of (b :: l) fun j x y h1 h2 => h (j + 1) x y (by simpa using h1) (by simpa using h2)⟩
theorem riseR_at : ∀ (l : List Bk), riseR l = true → ∀ j a b, l[j]? = some a → l[j + 1]? = some b → a.st < b.st
  | [], _, j, a, b, h, _ => by simp at h
  | [_], _, j, a, b, _, h => by simp at h
  | x :: y :: l, hr, j, a, b, h1, h2 => by
    unfold riseR at hr
    rw [Bool.and_eq_true, decide_eq_true_eq] at hr
    cases j with
    | zero => simp at h1 h2; rw [← h1, ← h2]; exact hr.1
    | succ j => exact riseR_at (y :: l) hr.2 j a b (by simpa using h1) (by simpa using h2)

theorem limR_all {rate burst : Int} {l : List Bk} (h0 : hdR rate burst = true) (h1 : l.length ≤ 6) (h : okTo burst l l.length) : limR rate burst l = true := by
  unfold limR
  rw [h0, decide_eq_true h1]
  simp only [Bool.true_and, Bool.and_eq_true, List.all_eq_true]
  refine ⟨fun b hb => ?_, riseR_of l fun j a b ha hb => ?_⟩
  · obtain ⟨i, hi, e⟩ := List.getElem_of_mem hb
    exact (h i b hi (by rw [← e]; exact List.getElem?_eq_getElem hi)).1
  · have hj : j + 1 < l.length := (List.getElem?_eq_some_iff.1 hb).1
    exact (h (j + 1) b hj hb).2 a (by omega) (by simpa using ha)
theorem limR_no_b {rate burst : Int} {l : List Bk} {i : Nat} {b : Bk} (hb : l[i]? = some b) (h : bkR burst b = false) : limR rate burst l = false := by
  cases e : limR rate burst l with
  | false => rfl
  | true =>
    unfold limR at e
    simp only [Bool.and_eq_true, List.all_eq_true] at e
    rw [e.1.2 b (List.mem_of_getElem? hb)] at h; cases h
theorem limR_no_r {rate burst : Int} {l : List Bk} {i : Nat} {a b : Bk} (ha : l[i]? = some a) (hb : l[i + 1]? = some b) (h : ¬ a.st < b.st) : limR rate burst l = false := by
  cases e : limR rate burst l with
  | false => rfl
  | true =>
    unfold limR at e
    simp only [Bool.and_eq_true] at e
    exact absurd (riseR_at l e.2 i a b ha hb) h
theorem limR_no_len {rate burst : Int} {l : List Bk} (h : 6 < l.length) : limR rate burst l = false := by
  unfold limR
  rw [show decide (l.length ≤ 6) = false by simp; omega]
  simp
theorem limR_no_hd {rate burst : Int} {l : List Bk} (h : hdR rate burst = false) : limR rate burst l = false := by
  unfold limR
  rw [h]
  simp

/-! ### a jar, turned -/
structure LimOk (rate burst : Int) (l : List Bk) : Prop where
  r1 : 1 ≤ rate
  r2 : rate ≤ 10
  b1 : 1 ≤ burst
  b2 : burst ≤ 100
  few : l.length ≤ 6
  each : ∀ b ∈ l, atomR b.st = true ∧ 0 ≤ b.left ∧ b.left ≤ burst ∧ 0 ≤ b.at_ ∧ b.at_ ≤ 1000000
  rise : Rise (l.map (·.st))
theorem limOk {rate burst : Int} {l : List Bk} (h : limR rate burst l = true) : LimOk rate burst l := by
  unfold limR hdR at h
  simp only [Bool.and_eq_true, decide_eq_true_eq, List.all_eq_true] at h
  obtain ⟨⟨⟨⟨⟨h1, h2⟩, h3, h4⟩, h5⟩, h6⟩, h7⟩ := h
  refine ⟨h1, h2, h3, h4, h5, fun b hb => ?_, (rise_iff l).1 h7⟩
  have := h6 b hb
  unfold bkR timeR at this
  simp only [Bool.and_eq_true, decide_eq_true_eq] at this
  obtain ⟨⟨q1, q2, q3⟩, q4, q5⟩ := this
  exact ⟨q1, q2, q3, q4, q5⟩
end Go.Proofs.YtdikjmhnjlalbaaDoor.gdp
