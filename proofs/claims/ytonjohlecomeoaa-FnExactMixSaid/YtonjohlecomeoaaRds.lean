/- Slices of texts, as they lie in memory: read (Rds), written (Wrs); what stands beside one that is written (Aside, Marked). -/
import Derived.Test.YtonjohlecomeoaaApp
namespace Go.Proofs.Ytonjohlecomeoaa.mrk
open Go.RowKit Go.Proofs.Ytonjohlecomeoaa.tm Go.Proofs.Ytonjohlecomeoaa.lib Go.Proofs.Ytonjohlecomeoaa.rdr Go.Proofs.Ytonjohlecomeoaa.bld Go.Proofs.Ytonjohlecomeoaa.app
set_option linter.unusedVariables false

/-- A slice of texts, as it lies in memory: nothing said of whose it is. -/
def Rds (w : World) (v : Value) (ls : List Bs) : Prop :=
  (ls = [] ∧ ∃ ad cap, v = .slice ad 0 cap) ∨ ∃ g off cap, v = .slice (some ⟨g, off, none⟩) ls.length cap ∧ g < w.heap.size ∧ ∀ j l, ls[j]? = some l → w.cell? ⟨g, off + j, none⟩ = some (str l)

theorem Rds.still {w w' : World} {v : Value} {ls : List Bs} (h : Rds w v ls) (k : Still w w') : Rds w' v ls := by
  rcases h with h | ⟨g, off, cap, e, hg, hc⟩
  · exact .inl h
  · refine .inr ⟨g, off, cap, e, by rw [k.heap]; exact hg, fun j l hj => ?_⟩
    rw [← hc j l hj]
    exact World.cell?_of_block (by rw [k.heap])
theorem Rds.below {w w' : World} {v : Value} {ls : List Bs} (h : Rds w v ls) (k : Below w.heap.size w w') : Rds w' v ls := by
  rcases h with h | ⟨g, off, cap, e, hg, hc⟩
  · exact .inl h
  · refine .inr ⟨g, off, cap, e, Nat.lt_of_lt_of_le hg k.size, fun j l hj => ?_⟩
    rw [← hc j l hj]
    exact k.cell (p := ⟨g, off + j, none⟩) hg

end Go.Proofs.Ytonjohlecomeoaa.mrk
namespace Go.Proofs.Ytonjohlecomeoaa.mrs
open Go.RowKit Go.Proofs.Ytonjohlecomeoaa.tm Go.Proofs.Ytonjohlecomeoaa.lib Go.Proofs.Ytonjohlecomeoaa.rdr Go.Proofs.Ytonjohlecomeoaa.bld Go.Proofs.Ytonjohlecomeoaa.app Go.Proofs.Ytonjohlecomeoaa.mrk
set_option linter.unusedVariables false

/-- A slice of texts that may be written, from block B on. -/
def Wrs (w : World) (B : Nat) (v : Value) (ls : List Bs) : Prop :=
  (ls = [] ∧ ∃ ad cap, v = .slice ad 0 cap) ∨ ∃ g off cap, v = .slice (some ⟨g, off, none⟩) ls.length cap ∧ B ≤ g ∧ g < w.heap.size ∧ (∀ j l, ls[j]? = some l → w.cell? ⟨g, off + j, none⟩ = some (str l)) ∧ ∀ j, j < ls.length → w.frozen? ⟨g, off + j, none⟩ = false

theorem Wrs.rds {w : World} {B : Nat} {v : Value} {ls : List Bs} (h : Wrs w B v ls) : Rds w v ls := by
  rcases h with h | ⟨g, off, cap, e, _, hg, hc, _⟩
  · exact .inl h
  · exact .inr ⟨g, off, cap, e, hg, hc⟩

theorem Strs.wrs {w : World} {B : Nat} {v : Value} {ls : List Bs} (h : Strs w B v ls) : Wrs w B v ls := by
  have h' := h
  obtain ⟨hl, h⟩ := h
  rcases h with ⟨rfl, h⟩ | ⟨g, cap, cur, rfl, hg, hh, hc1, hc2, hc3, hc4⟩
  · exact .inl ⟨List.eq_nil_of_length_eq_zero h, _, _, rfl⟩
  · refine .inr ⟨g, 0, cap, rfl, hg, (World.ownsRow.lt h' g rfl).2, fun j T hj => ?_, fun j hj => ?_⟩
    · have := World.ownsRow.cells h' (g := g) rfl j (str T) (by rw [List.getElem?_map, hj]; rfl)
      rw [Addr.add_lit] at this
      exact this
    · simp [World.frozen?, hh]

/-- All blocks that were there are as they were, but for that of the slice v. -/
structure Aside (v : Value) (w w' : World) : Prop where
  os : w'.os = w.os
  tape : w'.tape = w.tape
  output : w'.output = w.output
  size : w.heap.size ≤ w'.heap.size
  block : ∀ k, k < w.heap.size → v.ownBlock ≠ some k → w'.heap[k]? = w.heap[k]?

theorem Aside.below {v : Value} {w w' : World} {B : Nat} (h : Aside v w w') (hB : B ≤ w.heap.size) (hv : ∀ k, v.ownBlock = some k → B ≤ k) : Below B w w' :=
  ⟨h.os, h.tape, h.output, h.size, fun k hk => h.block k (by omega) (fun e => by have := hv k e; omega)⟩
theorem Aside.refl (v : Value) (w : World) : Aside v w w := ⟨rfl, rfl, rfl, Nat.le_refl _, fun _ _ _ => rfl⟩
theorem Aside.of_only {g : Nat} {v : Value} {w w' : World} (h : Only g w w') (hv : v.ownBlock = some g) : Aside v w w' :=
  ⟨h.os, h.tape, h.output, h.size, fun k hk hne => h.block k hk (fun e => hne (by rw [hv, e]))⟩
theorem Aside.after {v : Value} {w w1 w2 : World} (h : Below w.heap.size w w1) (k : Aside v w1 w2) : Aside v w w2 :=
  ⟨k.os.trans h.os, k.tape.trans h.tape, k.output.trans h.output, Nat.le_trans h.size k.size, fun i hi hne => (k.block i (Nat.lt_of_lt_of_le hi h.size) hne).trans (h.block i hi)⟩

/-- What the marking leaves: of no texts nothing turned. -/
def Marked (v : Value) (ls : List Bs) (w w' : World) : Prop := (ls = [] ∧ Below w.heap.size w w') ∨ (ls ≠ [] ∧ Aside v w w')
theorem Marked.after {v : Value} {ls : List Bs} {w w1 w2 : World} (h : Below w.heap.size w w1) (k : Marked v ls w1 w2) : Marked v ls w w2 := by
  rcases k with ⟨e, k⟩ | ⟨e, k⟩
  · exact .inl ⟨e, h.trans (k.mono h.size)⟩
  · exact .inr ⟨e, Aside.after h k⟩
end Go.Proofs.Ytonjohlecomeoaa.mrs
