/- Mix as a plain function. -/
import Derived.Test.YtonjohlecomeoaaLtp
namespace Go.Proofs.Ytonjohlecomeoaa.hdp
open Go Go.RowKit Go.Proofs.Ytonjohlecomeoaa.tm Go.Proofs.Ytonjohlecomeoaa.spm Go.Proofs.Ytonjohlecomeoaa.mkp Go.Proofs.Ytonjohlecomeoaa.ltq Go.Proofs.Ytonjohlecomeoaa.ltv Go.Proofs.Ytonjohlecomeoaa.ltp
set_option linter.unusedVariables false

def mixT (c t : Bs) : Bs := say oHash [say oPair [c, t]]
def mixR (c t : Bs) : Bs := if okT c && okT t && okT (mixT c t) then mixT c t else []

/-- It is the text of something that a term could be, were it not for its size. -/
def Txt (c : Bs) : Prop := ∃ C : Tm, C.ok ∧ C.tx = c

theorem Txt.of {c : Bs} (h : okT c = true) : Txt c := by
  obtain ⟨C, h1, h2, _, _⟩ := okT_some h
  exact ⟨C, h1, h2⟩
theorem Txt.mix {c t : Bs} (hc : Txt c) (ht : Txt t) : Txt (mixT c t) := by
  obtain ⟨C, h1, rfl⟩ := hc
  obtain ⟨T, h3, rfl⟩ := ht
  exact ⟨.hash (.pair C T), ⟨h1, h3⟩, rfl⟩
theorem Txt.hash {c : Bs} (hc : Txt c) : Txt (say oHash [c]) := by
  obtain ⟨C, h1, rfl⟩ := hc
  exact ⟨.hash C, h1, rfl⟩
theorem Txt.shut {c t : Bs} (hc : Txt c) (ht : Txt t) : Txt (say oShut [c, t]) := by
  obtain ⟨C, h1, rfl⟩ := hc
  obtain ⟨T, h3, rfl⟩ := ht
  exact ⟨.shut C T, ⟨h1, h3⟩, rfl⟩

theorem mix_parts {c t : Bs} (hc : Txt c) (ht : Txt t) (h : okT (mixT c t) = true) : okT c = true ∧ okT t = true := by
  obtain ⟨C, h1, rfl⟩ := hc
  obtain ⟨T, h3, rfl⟩ := ht
  have := hash_right (X := .pair C T) ⟨h1, h3⟩ h
  exact pair_right h1 h3 (.inl rfl) this

theorem mixR_eq {c t : Bs} (hc : Txt c) (ht : Txt t) : mixR c t = if okT (mixT c t) then mixT c t else [] := by
  unfold mixR
  cases h : okT (mixT c t) with
  | false => simp
  | true =>
    obtain ⟨h1, h2⟩ := mix_parts hc ht h
    simp [h1, h2]
theorem mixR_nil (t : Bs) : mixR [] t = [] := by simp [mixR, okT_nil]
theorem mixR_nil2 (c : Bs) : mixR c [] = [] := by simp [mixR, okT_nil]
theorem mixR_len (c t : Bs) : (mixR c t).length ≤ 3000 := by
  unfold mixR
  split
  · rename_i h
    simp only [Bool.and_eq_true] at h
    exact okT_len h.2
  · simp

/-- .. as it is mixed on. -/
theorem mixR_on {c t : Bs} (hc : Txt c) (ht : Txt t) : mixR (if okT c then c else []) t = if okT (mixT c t) then mixT c t else [] := by
  cases h : okT c with
  | true => simp only [if_true]; exact mixR_eq hc ht
  | false =>
    simp only [Bool.false_eq_true, if_false]
    rw [mixR_nil]
    cases h2 : okT (mixT c t) with
    | false => simp
    | true => rw [(mix_parts hc ht h2).1] at h; cases h

/-- Mix of the program. -/
theorem mix_made (c t : Bs) : (makeR oHash [(makeR oPair [c, t]).1]).1 = mixR c t := by
  rw [made_one, made_two _ _ _ (.inl rfl)]
  unfold mixR mixT
  cases hc : okT c with
  | false => simp [okT_nil]
  | true =>
    cases ht : okT t with
    | false => simp [okT_nil]
    | true =>
      simp only [Bool.true_and]
      cases hP : okT (say oPair [c, t]) with
      | true => simp [hP]
      | false =>
        have : okT (say oHash [say oPair [c, t]]) = false := by
          cases h : okT (say oHash [say oPair [c, t]]) with
          | false => rfl
          | true =>
            obtain ⟨C, c1, c2⟩ := Txt.of hc
            obtain ⟨T, t1, t2⟩ := Txt.of ht
            rw [← c2, ← t2] at h hP
            have := hash_right (X := .pair C T) ⟨c1, t1⟩ h
            rw [show (Tm.pair C T).tx = say oPair [C.tx, T.tx] from rfl, hP] at this
            cases this
        simp [this, okT_nil]

theorem hash_made (c : Bs) (hc : Txt c) : (makeR oHash [c]).1 = if okT (say oHash [c]) then say oHash [c] else [] := by
  rw [made_one]
  cases h : okT (say oHash [c]) with
  | false => simp
  | true =>
    obtain ⟨C, c1, rfl⟩ := hc
    simp [hash_right c1 h]
end Go.Proofs.Ytonjohlecomeoaa.hdp
