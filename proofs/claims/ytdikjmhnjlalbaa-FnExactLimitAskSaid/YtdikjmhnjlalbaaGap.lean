/- LimitAsk as plain mathematics. -/
import Derived.Test.YtdikjmhnjlalbaaGdm
namespace Go.Proofs.Ytdikjmhnjlalbaa.gap
open Go Go.RowKit Go.Proofs.Ytdikjmhnjlalbaa.tm Go.Proofs.Ytdikjmhnjlalbaa.ltp Go.Proofs.Ytdikjmhnjlalbaa.ato Go.Proofs.Ytdikjmhnjlalbaa.gdp Go.Proofs.Ytdikjmhnjlalbaa.gdm
set_option linter.unusedVariables false

/-- The place of a street. -/
def placeOf (l : List Bk) (st : Bs) : Nat := (l.takeWhile (fun b => decide (b.st < st))).length
/-- What is told of one that is asked for at a right limit: the row, Yes, Code. -/
def askO (rate burst : Int) (l : List Bk) (st : Bs) (now : Int) : List Bk × Bool × Int :=
  match gdm.look l st with
  | some b => if now < b.at_ then ([], false, 8) else (laid l (placeOf l st) true ⟨st, less (nowR rate burst b now), now⟩, decide (1 ≤ nowR rate burst b now), 0)
  | none => if l.length = 6 then ([], false, 9) else (laid l (placeOf l st) false ⟨st, less burst, now⟩, decide (1 ≤ burst), 0)

theorem tw_place : ∀ (l : List Bk) (st : Bs), gdm.Place l st (placeOf l st)
  | [], st => ⟨Nat.zero_le _, fun j b hj h => by simp at h, fun b h => by simp at h⟩
  | c :: l, st => by
    have ih := tw_place l st
    unfold placeOf at ih ⊢
    by_cases hc : c.st < st
    · simp only [List.takeWhile_cons, hc, decide_true, if_true, List.length_cons]
      refine ⟨by have := ih.le; simp; omega, fun j b hj hb => ?_, fun b hb => ?_⟩
      · cases j with
        | zero => simp at hb; rw [← hb]; exact hc
        | succ j => exact ih.lo j b (by omega) (by simpa using hb)
      · exact ih.hi b (by simpa using hb)
    · simp only [List.takeWhile_cons, hc, decide_false, Bool.false_eq_true, if_false, List.length_nil]
      exact ⟨Nat.zero_le _, fun j b hj _ => by omega, fun b hb => by simp at hb; rw [← hb]; exact hc⟩

/-- Any place of a street is its place. -/
theorem place_one {l : List Bk} {st : Bs} {k k' : Nat} (h : gdm.Place l st k) (h' : gdm.Place l st k') : k = k' := by
  rcases Nat.lt_trichotomy k k' with e | e | e
  · have hk : k < l.length := by have := h'.le; omega
    exact absurd (h'.lo k l[k] e (List.getElem?_eq_getElem hk)) (h.hi l[k] (List.getElem?_eq_getElem hk))
  · exact e
  · have hk : k' < l.length := by have := h.le; omega
    exact absurd (h.lo k' l[k'] e (List.getElem?_eq_getElem hk)) (h'.hi l[k'] (List.getElem?_eq_getElem hk))

theorem has_iff {l : List Bk} {st : Bs} {k : Nat} (h : gdm.Place l st k) (hr : Rise (sts l)) : (gdm.look l st).isSome = true ↔ ∃ b, l[k]? = some b ∧ b.st = st := by
  constructor
  · intro hs
    cases e : gdm.look l st with
    | none => rw [e] at hs; cases hs
    | some c =>
      cases hk : l[k]? with
      | none =>
        have := place_none h hr (fun b hb => by rw [hk] at hb; cases hb)
        rw [this] at e; cases e
      | some d =>
        by_cases hd : d.st = st
        · exact ⟨d, rfl, hd⟩
        · have := place_none h hr (fun b hb => by rw [hk] at hb; cases hb; exact hd)
          rw [this] at e; cases e
  · rintro ⟨b, hb, e⟩
    rw [place_there h hr hb e]
    rfl

/-- What is told satisfies what is asked. -/
theorem askO_ok (rate burst : Int) (l : List Bk) (st : Bs) (now : Int) (hr : Rise (sts l)) : AskR rate burst l st now (askO rate burst l st now).1 (askO rate burst l st now).2.1 (askO rate burst l st now).2.2 := by
  have hp := tw_place l st
  have hh := has_iff hp hr
  unfold askO
  cases e : gdm.look l st with
  | some b =>
    rw [e] at hh
    by_cases ht : now < b.at_
    · simp only [ht, if_true]
      exact .late b e ht
    · simp only [ht, if_false]
      obtain ⟨h1, h2⟩ := laid_ok hp hr true hh ⟨st, less (nowR rate burst b now), now⟩ rfl
      exact .there b _ e (by omega) h1 h2
  | none =>
    rw [e] at hh
    by_cases ht : l.length = 6
    · simp only [ht, if_true]
      exact .full e ht
    · simp only [ht, if_false]
      obtain ⟨h1, h2⟩ := laid_ok hp hr false (by simpa using hh) ⟨st, less burst, now⟩ rfl
      exact .new _ e ht h1 h2

/-- LimitAsk: Rate, Burst, Buckets, Yes, Code. -/
def asR (rate burst : Int) (l : List Bk) (st : Bs) (now : Int) : Int × Int × List Bk × Bool × Int :=
  if 8000 < st.length then (0, 0, [], false, 2)
  else if limR rate burst l && atomR st && timeR now then
    (if (askO rate burst l st now).2.2 = 0 then (rate, burst, (askO rate burst l st now).1, (askO rate burst l st now).2.1, 0) else (0, 0, [], false, (askO rate burst l st now).2.2))
  else (0, 0, [], false, 1)

theorem laid_len (l : List Bk) (k : Nat) (has : Bool) (b : Bk) : (laid l k has b).length ≤ l.length + 1 := by
  unfold laid
  rw [List.length_append, List.length_cons, List.length_take, List.length_drop]
  split <;> omega
theorem asR_le (rate burst : Int) (l : List Bk) (st : Bs) (now : Int) : (asR rate burst l st now).2.2.1.length ≤ l.length + 1 := by
  have h : (askO rate burst l st now).1.length ≤ l.length + 1 := by
    unfold askO
    split
    · split
      · simp
      · exact laid_len _ _ _ _
    · split
      · simp
      · exact laid_len _ _ _ _
  unfold asR
  split
  · simp
  · split
    · split
      · exact h
      · simp
    · simp
end Go.Proofs.Ytdikjmhnjlalbaa.gap
