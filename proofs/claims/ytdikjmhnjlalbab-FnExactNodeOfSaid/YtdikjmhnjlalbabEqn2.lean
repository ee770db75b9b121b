/- What stands while the law of NodeOf goes on. -/
import Derived.Test.YtdikjmhnjlalbabNdo
import Derived.Test.YtdikjmhnjlalbabEqd
namespace Go.Proofs.Ytdikjmhnjlalbab.eqn2
open Go.RowKit Go.Sort Go.Proofs.Ytdikjmhnjlalbab.tm Go.Proofs.Ytdikjmhnjlalbab.lib Go.Proofs.Ytdikjmhnjlalbab.rdr Go.Proofs.Ytdikjmhnjlalbab.bld Go.Proofs.Ytdikjmhnjlalbab.app Go.Proofs.Ytdikjmhnjlalbab.mrk Go.Proofs.Ytdikjmhnjlalbab.mrs Go.Proofs.Ytdikjmhnjlalbab.eqd Go.Proofs.Ytdikjmhnjlalbab.ndo
set_option linter.unusedVariables false

theorem argsR_le (l : Bs) : (argsR l).length ≤ 2 := by
  cases h : term l with
  | none => rw [argsR_none h]; simp
  | some T =>
    rw [argsR_some h]
    unfold snd.nodeArgs
    split
    · simp
    · cases T <;> simp [Tm.kids]

structure St (w W : World) (p3 p4 : Nat) (O : Bs) (vs vi : Value) (ls : List Bs) : Prop where
  bel : Below w.heap.size w W
  h3 : W.heap[p3]? = some (.cells #[str O, vs] 30 (0, 0))
  h4 : W.heap[p4]? = some (.cells #[str O, vi] 30 (0, 0))
  rs : Rds W vs ls

theorem St.below {w W W' : World} {p3 p4 : Nat} {O : Bs} {vs vi : Value} {ls : List Bs} (h : St w W p3 p4 O vs vi ls) (k : Below W.heap.size W W') : St w W' p3 p4 O vs vi ls :=
  ⟨h.bel.trans (k.mono h.bel.size), by rw [k.block _ (two h.h3).2.2.2.2]; exact h.h3, by rw [k.block _ (two h.h4).2.2.2.2]; exact h.h4, Rds.below h.rs k⟩

/-- Behind the marking. -/
theorem St.aside {w W W' : World} {p3 p4 : Nat} {O : Bs} {vs vi : Value} {ls : List Bs} (h : St w W p3 p4 O vs vi ls) (k : Aside vi W W') (hp : p3 < p4)
    (hv : ∀ g, vi.ownBlock = some g → p3 < g ∧ g < p4) (hs : ∀ g, vs.ownBlock = some g → ls ≠ [] → g < p3) (hw : w.heap.size ≤ p3) : St w W' p3 p4 O vs vi ls := by
  refine ⟨h.bel.trans (k.below h.bel.size fun g hg => by have := hv g hg; omega), ?_, ?_, ?_⟩
  · rw [k.block _ (two h.h3).2.2.2.2 (fun e => by have := hv _ e; omega)]; exact h.h3
  · rw [k.block _ (two h.h4).2.2.2.2 (fun e => by have := hv _ e; omega)]; exact h.h4
  · rcases h.rs with ⟨h1, h2⟩ | ⟨g, off, cap, e, hg, hc⟩
    · exact .inl ⟨h1, h2⟩
    · refine .inr ⟨g, off, cap, e, Nat.lt_of_lt_of_le hg k.size, fun j l hj => ?_⟩
      have hne : ls ≠ [] := by rintro rfl; simp at hj
      have := hs g (by rw [e]; rfl) hne
      rw [← hc j l hj]
      exact World.cell?_of_block (w := W) (k.block g hg (fun e' => by have := hv g e'; omega))

theorem Wrs.below {w w' : World} {B : Nat} {v : Value} {ls : List Bs} (h : Wrs w B v ls) (k : Below w.heap.size w w') : Wrs w' B v ls := by
  rcases h with h | ⟨g, off, cap, e, hB, hg, hc, hf⟩
  · exact .inl h
  · refine .inr ⟨g, off, cap, e, hB, Nat.lt_of_lt_of_le hg k.size, fun j l hj => ?_, fun j hj => ?_⟩
    · rw [← hc j l hj]; exact k.cell (p := ⟨g, off + j, none⟩) hg
    · rw [← hf j hj]; exact k.frozen (p := ⟨g, off + j, none⟩) hg

theorem St.marked {w W W' : World} {p3 p4 : Nat} {O : Bs} {vs vi : Value} {ls : List Bs} (h : St w W p3 p4 O vs vi ls) (k : Marked vi ls W W') (hp : p3 < p4)
    (hv : ls ≠ [] → ∀ g, vi.ownBlock = some g → p3 < g ∧ g < p4) (hs : ∀ g, vs.ownBlock = some g → ls ≠ [] → g < p3) (hw : w.heap.size ≤ p3) : St w W' p3 p4 O vs vi ls := by
  rcases k with ⟨_, k⟩ | ⟨e, k⟩
  · exact h.below k
  · exact h.aside k hp (hv e) hs hw

theorem Wrs.own {w : World} {B : Nat} {v : Value} {ls : List Bs} (h : Wrs w B v ls) (hne : ls ≠ []) : ∀ g, v.ownBlock = some g → B ≤ g ∧ g < w.heap.size := by
  rcases h with ⟨h, _⟩ | ⟨g, off, cap, e, hB, hg, _⟩
  · exact absurd h hne
  · intro g' hg'
    rw [e] at hg'
    cases hg'
    exact ⟨hB, hg⟩

/-- The first state: behind the two calls and their boxes. -/
theorem St.start {w w1 w2 : World} {O : Bs} {vs vi : Value} {ls : List Bs} (h1 : Below w.heap.size w w1) (r1 : Rds w1 vs ls)
    (h2 : Below (w1.alloc (.cells #[str O, vs] 30)).heap.size (w1.alloc (.cells #[str O, vs] 30)) w2) :
    St w (w2.alloc (.cells #[str O, vi] 30)) w1.heap.size w2.heap.size O vs vi ls := by
  have hz := h2.size
  simp at hz
  refine ⟨?_, ?_, heap_alloc_new _ _, ?_⟩
  · exact ((h1.trans ((Below.refl _ _).alloc h1.size _)).trans (h2.mono (by have := h1.size; simp; omega))).alloc (by have := h1.size; omega) _
  · rw [Below.heap_alloc _ _ _ (by omega), clo.new_kept h2]
  · exact Rds.below (Rds.below (Rds.below r1 ((Below.refl _ _).alloc (Nat.le_refl _) _)) h2) ((Below.refl _ _).alloc (Nat.le_refl _) _)

theorem Rds.own {w : World} {v : Value} {ls : List Bs} (h : Rds w v ls) (hne : ls ≠ []) : ∀ g, v.ownBlock = some g → g < w.heap.size := by
  rcases h with ⟨h, _⟩ | ⟨g, off, cap, e, hg, _⟩
  · exact absurd h hne
  · intro g' hg'
    rw [e] at hg'
    cases hg'
    exact hg
end Go.Proofs.Ytdikjmhnjlalbab.eqn2
