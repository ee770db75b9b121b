/- A row of buckets of the call's own: append of one, append of many. -/
import Derived.Test.YtdikjmhnjlalbaaRbk
namespace Go.Proofs.Ytdikjmhnjlalbaa.bkr
open Go.RowKit Go.Proofs.Ytdikjmhnjlalbaa.tm Go.Proofs.Ytdikjmhnjlalbaa.lib Go.Proofs.Ytdikjmhnjlalbaa.rdr Go.Proofs.Ytdikjmhnjlalbaa.bld Go.Proofs.Ytdikjmhnjlalbaa.gdp Go.Proofs.Ytdikjmhnjlalbaa.rbk
set_option linter.unusedVariables false

def cs (b : Bk) : List Value := [str b.st, .int .i64 b.left, .int .i64 b.at_]
theorem cs_one (b : Bk) : ∀ u ∈ cs b, u.oneCell' = true := by
  intro u hu
  simp only [cs, List.mem_cons, List.not_mem_nil, or_false] at hu
  rcases hu with rfl | rfl | rfl <;> rfl
theorem flat_one (l : List Bk) : ∀ u ∈ l.flatMap cs, u.oneCell' = true := by
  intro u hu
  obtain ⟨b, _, hb⟩ := List.mem_flatMap.1 hu
  exact cs_one b u hb
theorem flat_len (l : List Bk) : (l.flatMap cs).length = l.length * 3 := by
  induction l with
  | nil => rfl
  | cons k l ih => simp [List.flatMap_cons, cs, ih]; omega
theorem flat_at : ∀ (l : List Bk) (j : Nat) (k : Bk), l[j]? = some k → (l.flatMap cs)[j * 3]? = some (str k.st) ∧ (l.flatMap cs)[j * 3 + 1]? = some (.int .i64 k.left) ∧ (l.flatMap cs)[j * 3 + 2]? = some (.int .i64 k.at_)
  | [], j, k, h => by simp at h
  | x :: l, 0, k, h => by simp at h; subst h; exact ⟨rfl, rfl, rfl⟩
  | x :: l, j + 1, k, h => by
    have := flat_at l j k (by simpa using h)
    have e : ∀ i, (List.flatMap cs (x :: l))[i + 3]? = (List.flatMap cs l)[i]? := by
      intro i
      rw [List.flatMap_cons, List.getElem?_append_right (by simp [cs])]
      simp [cs]
    refine ⟨?_, ?_, ?_⟩
    · rw [show (j + 1) * 3 = j * 3 + 3 by omega, e]; exact this.1
    · rw [show (j + 1) * 3 + 1 = j * 3 + 1 + 3 by omega, e]; exact this.2.1
    · rw [show (j + 1) * 3 + 2 = j * 3 + 2 + 3 by omega, e]; exact this.2.2
/-- All cells of a row, out of its buckets. -/
theorem flat_cells {w : World} {g off : Nat} {l : List Bk} (h : ∀ j b, l[j]? = some b → LiesB w g (off + j * 3) b) (i : Nat) (u : Value) (hu : (l.flatMap cs)[i]? = some u) : w.cell? ⟨g, off + i, none⟩ = some u := by
  have hi : i < l.length * 3 := by rw [← flat_len]; exact (List.getElem?_eq_some_iff.1 hu).1
  obtain ⟨b, hb⟩ : ∃ b, l[i / 3]? = some b := ⟨_, List.getElem?_eq_getElem (by omega)⟩
  obtain ⟨a0, a1, a2⟩ := flat_at l (i / 3) b hb
  obtain ⟨c0, c1, c2⟩ := h _ b hb
  have e : i = i / 3 * 3 + i % 3 := by omega
  have h3 : i % 3 = 0 ∨ i % 3 = 1 ∨ i % 3 = 2 := by omega
  rcases h3 with h3 | h3 | h3
  · rw [h3, Nat.add_zero] at e
    rw [← e] at a0 c0
    rw [a0] at hu; cases hu; exact c0
  · rw [h3] at e
    rw [← e] at a1
    rw [Nat.add_assoc, ← e] at c1
    rw [a1] at hu; cases hu; exact c1
  · rw [h3] at e
    rw [← e] at a2
    rw [Nat.add_assoc, ← e] at c2
    rw [a2] at hu; cases hu; exact c2

/-- A row of buckets of the call's own. -/
def Bks (w : World) (B : Nat) (v : Value) (l : List Bk) : Prop := w.ownsRow B 71 3 v l.length (l.flatMap cs)
theorem infoB : (Try.prog.info? 71).map (fun i => (i.zero, i.size, i.bytes)) = some (some (.agg #[str [], .int .i64 0, .int .i64 0]), 3, 32) := by kernel_rfl

theorem Bks.nil (w : World) (B : Nat) : Bks w B (.slice none 0 0) [] := World.ownsRow_nil _ _ _ _
theorem Bks.at_ {w : World} {B : Nat} {v : Value} {l : List Bk} (h : Bks w B v l) {g : Nat} (hg : v.ownBlock = some g) {j : Nat} {k : Bk} (hk : l[j]? = some k) : LiesB w g (j * 3) k := by
  obtain ⟨h0, h1, h2⟩ := flat_at l j k hk
  have hc := World.ownsRow.cells h hg
  have a0 := hc _ _ h0
  have a1 := hc _ _ h1
  have a2 := hc _ _ h2
  rw [Addr.add_lit] at a0 a1 a2
  simp only [Nat.zero_add] at a0 a1 a2
  exact ⟨a0, a1, a2⟩
theorem Bks.form {w : World} {B : Nat} {v : Value} {l : List Bk} (h : Bks w B v l) :
    (v = .slice none 0 0 ∧ l = []) ∨ ∃ g cap, v = .slice (some ⟨g, 0, none⟩) l.length cap ∧ B ≤ g ∧ g < w.heap.size := by
  have h' := h
  obtain ⟨hl, h⟩ := h
  rcases h with ⟨rfl, h⟩ | ⟨g, cap, cur, rfl, hg, hh, _⟩
  · exact .inl ⟨rfl, List.eq_nil_of_length_eq_zero h⟩
  · exact .inr ⟨g, cap, rfl, hg, (World.ownsRow.lt h' g rfl).2⟩
theorem Bks.below {w w' : World} {B : Nat} {v : Value} {l : List Bk} (h : Bks w B v l) (k : Below w.heap.size w w') : Bks w' B v l := by
  refine ⟨h.1, ?_⟩
  rcases h.2 with h2 | ⟨g, cap, cur, rfl, hg, hh, hr⟩
  · exact .inl h2
  · exact .inr ⟨g, cap, cur, rfl, hg, (k.block g (World.ownsRow.lt h g rfl).2).trans hh, hr⟩
theorem Bks.base {w : World} {B B' : Nat} {v : Value} {l : List Bk} (h : Bks w B v l) (hB : B' ≤ B) : Bks w B' v l := by
  refine ⟨h.1, ?_⟩
  rcases h.2 with h2 | ⟨g, cap, cur, hv, hg, r⟩
  · exact .inl h2
  · exact .inr ⟨g, cap, cur, hv, Nat.le_trans hB hg, r⟩
theorem Bks.wbk {w : World} {B : Nat} {v : Value} {l : List Bk} (h : Bks w B v l) : Wbk w B v l := by
  have h' := h
  obtain ⟨hl, h⟩ := h
  rcases h with ⟨rfl, h⟩ | ⟨g, cap, cur, rfl, hg, hh, hc1, hc2, hc3, hc4⟩
  · exact .inl ⟨List.eq_nil_of_length_eq_zero h, _, _, rfl⟩
  · refine .inr ⟨g, 0, cap, rfl, hg, (World.ownsRow.lt h' g rfl).2, fun j b hj => ?_, fun j hj => ?_⟩
    · rw [Nat.zero_add]; exact Bks.at_ h' rfl hj
    · simp [World.frozen?, hh]
/-- An empty row of its own, new. -/
theorem Bks.empty (w : World) (B : Nat) (hB : B ≤ w.heap.size) : Bks (w.alloc (.cells #[] 71)) B (.slice (some ⟨w.heap.size, 0, none⟩) 0 0) [] :=
  World.ownsRow_made (size := 3) w #[] 0 hB (by decide) (by simp)

section
variable {w : World} {ops : Array Oper} {rest : List Oper} {o : Oper} {a : Act} {Q : Exit → Act → World → Prop}

set_option maxRecDepth 100000 in
/-- append of one bucket. -/
theorem wp_putB (s x : Operand) (b : Bk) (B : Nat) (v : Value) (l : List Bk) (hgd : o.guard = none)
    (ho : o.op = .call { callee := .builtin .append, args := #[s, x], argTypes := #[34, 34] })
    (hs : a.eval s = v) (hown : Bks w B v l)
    (hx : a.eval x = .slice (some ⟨w.heap.size, 0, none⟩) 1 1)
    (hl : l.length + 1 ≤ 1000000) (hB : B ≤ w.heap.size)
    (h : ∀ v' w', Bks w' B v' (l ++ [b]) → Below B w w' → wpList Try.prog ops Q rest (a.put o.dst v') w') :
    wpList Try.prog ops Q (o :: rest) a (w.alloc (.cells #[str b.st, .int .i64 b.left, .int .i64 b.at_] 71)) := by
  obtain ⟨i0, hi, hz0, hz1, hz2⟩ := info_parts infoB
  refine wpList_append_own (w.alloc (.cells #[str b.st, .int .i64 b.left, .int .i64 b.at_] 71)) hgd s x 34 ho B 71 i0 (.agg #[str [], .int .i64 0, .int .i64 0]) 3 32 Try.underlying34 hi hz0 hz1 hz2 rfl (by decide) v l.length _ hs (World.ownsRow.alloc hown _) ⟨w.heap.size, 0, none⟩ 1 1 (cs b) hx (by simp [cs]) ?_ (cs_one b) ?_ ?_ ?_ ?_
  · intro j u hj
    match j, hj with
    | 0, hj => simp [cs] at hj; subst hj; simp [Addr.add]
    | 1, hj => simp [cs] at hj; subst hj; simp [Addr.add]
    | 2, hj => simp [cs] at hj; subst hj; simp [Addr.add]
    | j + 3, hj => simp [cs] at hj
  · unfold maxLen; omega
  · omega
  · simp; omega
  · intro v' w' h1 h2 _
    refine h v' w' ?_ (((Below.refl B w).alloc hB _).trans ((Below.refl B _).grown h2 (by simp; omega) fun k hk => (World.ownsRow.lt hown k hk).1))
    unfold Bks
    rw [List.flatMap_append, List.length_append, List.flatMap_cons, List.flatMap_nil, List.append_nil]
    exact h1

set_option maxRecDepth 100000 in
/-- append of many buckets, wherever they lie. -/
theorem wp_putBn (s x : Operand) (ad : Addr) (m c : Nat) (l2 : List Bk) (B : Nat) (v : Value) (l : List Bk) (hgd : o.guard = none)
    (ho : o.op = .call { callee := .builtin .append, args := #[s, x], argTypes := #[34, 34] })
    (hs : a.eval s = v) (hown : Bks w B v l)
    (hx : a.eval x = .slice (some ad) m c) (hm : l2.length = m)
    (hc : ∀ j u, (l2.flatMap cs)[j]? = some u → w.cell? (ad.add j) = some u)
    (hl : l.length + m ≤ 1000000) (hB : B ≤ w.heap.size)
    (h : ∀ v' w', Bks w' B v' (l ++ l2) → Below B w w' → wpList Try.prog ops Q rest (a.put o.dst v') w') :
    wpList Try.prog ops Q (o :: rest) a w := by
  obtain ⟨i0, hi, hz0, hz1, hz2⟩ := info_parts infoB
  refine wpList_append_own w hgd s x 34 ho B 71 i0 (.agg #[str [], .int .i64 0, .int .i64 0]) 3 32 Try.underlying34 hi hz0 hz1 hz2 rfl (by decide) v l.length _ hs hown ad m c (l2.flatMap cs) hx (by rw [flat_len, hm]) hc (flat_one l2) ?_ ?_ hB ?_
  · unfold maxLen; omega
  · omega
  · intro v' w' h1 h2 _
    refine h v' w' ?_ ((Below.refl B _).grown h2 hB fun k hk => (World.ownsRow.lt hown k hk).1)
    unfold Bks
    rw [List.flatMap_append, List.length_append, hm]
    exact h1
end
end Go.Proofs.Ytdikjmhnjlalbaa.bkr
