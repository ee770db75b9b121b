/- Lists of texts that lie apart: what stays when one of them is written. -/
import Derived.Test.YtdikjmhnjlalbaaFrm
namespace Go.Proofs.Ytdikjmhnjlalbaa.mrd
open Go.RowKit Go.Proofs.Ytdikjmhnjlalbaa.tm Go.Proofs.Ytdikjmhnjlalbaa.lib Go.Proofs.Ytdikjmhnjlalbaa.rdr Go.Proofs.Ytdikjmhnjlalbaa.bld Go.Proofs.Ytdikjmhnjlalbaa.app Go.Proofs.Ytdikjmhnjlalbaa.mrk Go.Proofs.Ytdikjmhnjlalbaa.mrs
set_option linter.unusedVariables false

/-- A list that is read: its block lies between lo and hi. -/
structure Rb (w : World) (lo hi : Nat) (v : Value) (ls : List Bs) : Prop where
  rds : Rds w v ls
  blk : ls ≠ [] → ∀ g, v.ownBlock = some g → lo ≤ g ∧ g < hi

/-- .. and may be written. -/
structure Wb (w : World) (lo hi : Nat) (v : Value) (ls : List Bs) : Prop where
  wrs : Wrs w lo v ls
  blk : ls ≠ [] → ∀ g, v.ownBlock = some g → lo ≤ g ∧ g < hi

theorem Wrs.own {w : World} {B : Nat} {v : Value} {ls : List Bs} (h : Wrs w B v ls) (hne : ls ≠ []) : ∀ g, v.ownBlock = some g → B ≤ g ∧ g < w.heap.size := by
  rcases h with ⟨h, _⟩ | ⟨g, off, cap, e, hB, hg, _⟩
  · exact absurd h hne
  · intro g' hg'
    rw [e] at hg'
    cases hg'
    exact ⟨hB, hg⟩

theorem Wrs.below {w w' : World} {B : Nat} {v : Value} {ls : List Bs} (h : Wrs w B v ls) (k : Below w.heap.size w w') : Wrs w' B v ls := by
  rcases h with h | ⟨g, off, cap, e, hB, hg, hc, hf⟩
  · exact .inl h
  · refine .inr ⟨g, off, cap, e, hB, Nat.lt_of_lt_of_le hg k.size, fun j l hj => ?_, fun j hj => ?_⟩
    · rw [← hc j l hj]; exact k.cell (p := ⟨g, off + j, none⟩) hg
    · rw [← hf j hj]; exact k.frozen (p := ⟨g, off + j, none⟩) hg

theorem Wb.of {w : World} {lo : Nat} {v : Value} {ls : List Bs} (h : Wrs w lo v ls) : Wb w lo w.heap.size v ls := ⟨h, fun hne g hg => Wrs.own h hne g hg⟩
theorem Wb.rb {w : World} {lo hi : Nat} {v : Value} {ls : List Bs} (h : Wb w lo hi v ls) : Rb w lo hi v ls := ⟨h.wrs.rds, h.blk⟩
theorem Rb.of {w : World} {B : Nat} {v : Value} {ls : List Bs} (h : Strs w B v ls) : Rb w B w.heap.size v ls := (Wb.of (Strs.wrs h)).rb

theorem Rb.below {w w' : World} {lo hi : Nat} {v : Value} {ls : List Bs} (h : Rb w lo hi v ls) (k : Below w.heap.size w w') : Rb w' lo hi v ls := ⟨Rds.below h.rds k, h.blk⟩
theorem Wb.below {w w' : World} {lo hi : Nat} {v : Value} {ls : List Bs} (h : Wb w lo hi v ls) (k : Below w.heap.size w w') : Wb w' lo hi v ls := ⟨Wrs.below h.wrs k, h.blk⟩

/-- Another list is written: this one, apart from it, is left as it was. -/
theorem Rb.apart {w w' : World} {lo hi lo' hi' : Nat} {v u : Value} {ls ms : List Bs} (h : Rb w lo hi v ls) (k : Marked u ms w w') (hu : ms ≠ [] → ∀ g, u.ownBlock = some g → lo' ≤ g ∧ g < hi') (ha : hi ≤ lo' ∨ hi' ≤ lo) : Rb w' lo hi v ls := by
  rcases k with ⟨_, k⟩ | ⟨e, k⟩
  · exact h.below k
  · refine ⟨?_, h.blk⟩
    rcases h.rds with ⟨h1, h2⟩ | ⟨g, off, cap, e2, hg, hc⟩
    · exact .inl ⟨h1, h2⟩
    · refine .inr ⟨g, off, cap, e2, Nat.lt_of_lt_of_le hg k.size, fun j l hj => ?_⟩
      have h3 := h.blk (fun e3 => by rw [e3] at hj; simp at hj) g (by rw [e2]; rfl)
      rw [← hc j l hj]
      exact World.cell?_of_block (w := w) (k.block g hg fun e' => by have := hu e g e'; omega)

theorem Wb.apart {w w' : World} {lo hi lo' hi' : Nat} {v u : Value} {ls ms : List Bs} (h : Wb w lo hi v ls) (k : Marked u ms w w') (hu : ms ≠ [] → ∀ g, u.ownBlock = some g → lo' ≤ g ∧ g < hi') (ha : hi ≤ lo' ∨ hi' ≤ lo) : Wb w' lo hi v ls := by
  rcases k with ⟨_, k⟩ | ⟨e, k⟩
  · exact h.below k
  · refine ⟨?_, h.blk⟩
    rcases h.wrs with ⟨h1, h2⟩ | ⟨g, off, cap, e2, hB, hg, hc, hf⟩
    · exact .inl ⟨h1, h2⟩
    · have hne : 0 < ls.length → ls ≠ [] := fun h3 e3 => by rw [e3] at h3; simp at h3
      have hb : 0 < ls.length → w'.heap[g]? = w.heap[g]? := fun h3 => k.block g hg fun e' => by
        have h4 := h.blk (hne h3) g (by rw [e2]; rfl)
        have := hu e g e'
        omega
      refine .inr ⟨g, off, cap, e2, hB, Nat.lt_of_lt_of_le hg k.size, fun j l hj => ?_, fun j hj => ?_⟩
      · rw [← hc j l hj]
        exact World.cell?_of_block (w := w) (hb (by have := (List.getElem?_eq_some_iff.1 hj).1; omega))
      · rw [← hf j hj]
        exact World.frozen?_of_block (w := w) (hb (by omega))

theorem Marked.low {w W W' : World} {v : Value} {ls : List Bs} {B lo hi : Nat} (h : Below B w W) (k : Marked v ls W W') (hB : B ≤ W.heap.size) (hv : ls ≠ [] → ∀ g, v.ownBlock = some g → lo ≤ g ∧ g < hi) (hl : B ≤ lo) : Below B w W' := by
  rcases k with ⟨_, k⟩ | ⟨e, k⟩
  · exact h.trans (k.mono hB)
  · exact h.trans (k.below hB fun g hg => Nat.le_trans hl (hv e g hg).1)
end Go.Proofs.Ytdikjmhnjlalbaa.mrd
