/- Cookies: plain mathematics. -/
import Derived.Test.YtdikjmhnjlalbaaGdp
import Derived.Test.YtdikjmhnjlalbaaLtp
import Derived.Test.YtdikjmhnjlalbaaRbk
namespace Go.Proofs.Ytdikjmhnjlalbaa.gck
open Go.RowKit Go.Proofs.Ytdikjmhnjlalbaa.tm Go.Proofs.Ytdikjmhnjlalbaa.mkp Go.Proofs.Ytdikjmhnjlalbaa.ltq Go.Proofs.Ytdikjmhnjlalbaa.ltp Go.Proofs.Ytdikjmhnjlalbaa.gdp Go.Proofs.Ytdikjmhnjlalbaa.rbk
set_option linter.unusedVariables false

def pairS (a : Ad) : Bs := say oPair [a.st, a.hs]
def cookS (s : Bs) (a : Ad) : Bs := say oMac [s, pairS a]
/-- CookieOf. -/
def cookieR (s : Bs) (a : Ad) : Bs := if atomR s && adR a then cookS s a else []

theorem ad_atoms {a : Ad} (h : adR a = true) : atomR a.st = true ∧ atomR a.hs = true := by unfold adR at h; simpa using h
theorem pair_term {a : Ad} (h : adR a = true) : term (pairS a) = some (.pair (.atom a.st) (.atom a.hs)) := by
  obtain ⟨h1, h2⟩ := ad_atoms h
  have l1 := atomR_len h1
  have l2 := atomR_len h2
  refine term_some.2 ⟨by simp [pairS, say, oPair]; omega, ⟨h1, h2⟩, by simp [Tm.deep], ?_⟩
  rfl
theorem cook_term {s : Bs} {a : Ad} (hs : atomR s = true) (h : adR a = true) : term (cookS s a) = some (.mac (.atom s) (.pair (.atom a.st) (.atom a.hs))) := by
  obtain ⟨h1, h2⟩ := ad_atoms h
  have l1 := atomR_len h1
  have l2 := atomR_len h2
  have l3 := atomR_len hs
  refine term_some.2 ⟨by simp [cookS, pairS, say, oPair, oMac]; omega, ⟨hs, h1, h2⟩, by simp [Tm.deep], ?_⟩
  rfl
theorem atom_term {s : Bs} (hs : atomR s = true) : okT s = true := by
  have l3 := atomR_len hs
  unfold okT
  rw [show term s = some (.atom s) from term_some.2 ⟨by omega, hs, by simp [Tm.deep], rfl⟩]
  rfl
theorem pair_made {a : Ad} (h : adR a = true) : (makeR oPair [a.st, a.hs]).1 = pairS a := by
  obtain ⟨h1, h2⟩ := ad_atoms h
  rw [made_two _ _ _ (.inl rfl), atom_term h1, atom_term h2]
  have := pair_term h
  unfold pairS at this ⊢
  rw [show okT (say oPair [a.st, a.hs]) = true by unfold okT; rw [this]; rfl]
  rfl
theorem cook_made {s : Bs} {a : Ad} (hs : atomR s = true) (h : adR a = true) : (makeR oMac [s, pairS a]).1 = cookS s a := by
  rw [made_two _ _ _ (.inr (.inl rfl)), atom_term hs]
  have h2 := pair_term h
  have := cook_term hs h
  rw [show okT (pairS a) = true by unfold okT; rw [h2]; rfl]
  unfold cookS at this ⊢
  rw [show okT (say oMac [s, pairS a]) = true by unfold okT; rw [this]; rfl]
  rfl
theorem cook_ok {s : Bs} {a : Ad} (hs : atomR s = true) (h : adR a = true) : okT (cookS s a) = true := by unfold okT; rw [cook_term hs h]; rfl
theorem pair_len {a : Ad} (h : adR a = true) : (pairS a).length ≤ 30 := by
  obtain ⟨h1, h2⟩ := ad_atoms h
  have l1 := atomR_len h1
  have l2 := atomR_len h2
  simp [pairS, say, oPair]; omega
theorem cookie_len (s : Bs) (a : Ad) : (cookieR s a).length ≤ 60 := by
  unfold cookieR
  split
  · rename_i h
    simp only [Bool.and_eq_true] at h
    have l1 := atomR_len h.1
    have l2 := pair_len h.2
    simp [cookS, say, oMac]; omega
  · simp

theorem atom8 {s : Bs} (h : atomR s = true) : s.length ≤ 100000 := by have := (atomR_len h).2; omega
end Go.Proofs.Ytdikjmhnjlalbaa.gck
