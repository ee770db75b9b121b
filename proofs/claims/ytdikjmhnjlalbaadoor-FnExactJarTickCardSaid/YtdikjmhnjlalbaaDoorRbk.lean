/- Buckets, as they lie in memory. -/
import Derived.Test.YtdikjmhnjlalbaaDoorGdp
import Derived.Test.YtdikjmhnjlalbaaDoorRd0
import Derived.Test.YtdikjmhnjlalbaaDoorSt0
namespace Go.Proofs.YtdikjmhnjlalbaaDoor.rbk
open Go.RowKit Go.Proofs.YtdikjmhnjlalbaaDoor.tm Go.Proofs.YtdikjmhnjlalbaaDoor.bld Go.Proofs.YtdikjmhnjlalbaaDoor.gdp Go.Proofs.YtdikjmhnjlalbaaDoor.rdr
set_option linter.unusedVariables false

def adA (a : Ad) : Array Value := #[str a.st, str a.hs]
def jrA (j : Jr) : Array Value := #[str j.now, str j.was, .int .i64 j.at_, .int .i64 j.next]
def bkA (b : Bk) : Array Value := #[str b.st, .int .i64 b.left, .int .i64 b.at_]
def bkV (b : Bk) : Value := .agg (bkA b)
def lmA (rate burst : Int) (v : Value) : Array Value := #[.int .i64 rate, .int .i64 burst, v]

/-- A bucket lies in block g from place off on. -/
def LiesB (w : World) (g off : Nat) (b : Bk) : Prop :=
  w.cell? ⟨g, off, none⟩ = some (str b.st) ∧ w.cell? ⟨g, off + 1, none⟩ = some (.int .i64 b.left) ∧ w.cell? ⟨g, off + 2, none⟩ = some (.int .i64 b.at_)
theorem LiesB.same {w w' : World} {g off : Nat} {b : Bk} (h : LiesB w g off b) (hb : w'.heap[g]? = w.heap[g]?) : LiesB w' g off b :=
  ⟨(World.cell?_of_block hb).trans h.1, (World.cell?_of_block hb).trans h.2.1, (World.cell?_of_block hb).trans h.2.2⟩

/-- A slice of buckets. -/
def Rbk (w : World) (v : Value) (l : List Bk) : Prop :=
  (l = [] ∧ ∃ ad cap, v = .slice ad 0 cap) ∨ ∃ g off cap, v = .slice (some ⟨g, off, none⟩) l.length cap ∧ g < w.heap.size ∧ ∀ j b, l[j]? = some b → LiesB w g (off + j * 3) b

theorem Rbk.below {w w' : World} {v : Value} {l : List Bk} (h : Rbk w v l) (k : Below w.heap.size w w') : Rbk w' v l := by
  rcases h with h | ⟨g, off, cap, e, hg, hc⟩
  · exact .inl h
  · exact .inr ⟨g, off, cap, e, Nat.lt_of_lt_of_le hg k.size, fun j b hj => (hc j b hj).same (k.block g hg)⟩
theorem Rbk.still {w w' : World} {v : Value} {l : List Bk} (h : Rbk w v l) (k : Still w w') : Rbk w' v l := by
  rcases h with h | ⟨g, off, cap, e, hg, hc⟩
  · exact .inl h
  · exact .inr ⟨g, off, cap, e, by rw [k.heap]; exact hg, fun j b hj => (hc j b hj).same (by rw [k.heap])⟩
theorem Rbk.form {w : World} {v : Value} {l : List Bk} (h : Rbk w v l) : ∃ a c, v = .slice a l.length c := by
  rcases h with ⟨rfl, a, c, e⟩ | ⟨g, off, cap, e, _⟩
  · exact ⟨a, c, e⟩
  · exact ⟨_, _, e⟩
/-- The same, parted ahead of a walk: nothing, or a block. -/
theorem Rbk.part {w : World} {v : Value} {l : List Bk} (h : Rbk w v l) : (l = [] ∧ ∃ ad cap, v = .slice ad 0 cap) ∨ (∃ g off cap, v = .slice (some ⟨g, off, none⟩) l.length cap ∧ g < w.heap.size ∧ ∀ j b, l[j]? = some b → LiesB w g (off + j * 3) b) := h

/-- A slice of buckets that lies from block B on, below block C. -/
structure Rkb (w : World) (B C : Nat) (v : Value) (l : List Bk) : Prop where
  rbk : Rbk w v l
  blk : l ≠ [] → ∀ g, v.ownBlock = some g → B ≤ g ∧ g < C

/-- A slice of buckets that may be written, from block B on. -/
def Wbk (w : World) (B : Nat) (v : Value) (l : List Bk) : Prop :=
  (l = [] ∧ ∃ ad cap, v = .slice ad 0 cap) ∨ ∃ g off cap, v = .slice (some ⟨g, off, none⟩) l.length cap ∧ B ≤ g ∧ g < w.heap.size ∧ (∀ j b, l[j]? = some b → LiesB w g (off + j * 3) b) ∧ ∀ j, j < l.length * 3 → w.frozen? ⟨g, off + j, none⟩ = false
theorem Wbk.rbk {w : World} {B : Nat} {v : Value} {l : List Bk} (h : Wbk w B v l) : Rbk w v l := by
  rcases h with h | ⟨g, off, cap, e, _, hg, hc, _⟩
  · exact .inl h
  · exact .inr ⟨g, off, cap, e, hg, hc⟩
end Go.Proofs.YtdikjmhnjlalbaaDoor.rbk
