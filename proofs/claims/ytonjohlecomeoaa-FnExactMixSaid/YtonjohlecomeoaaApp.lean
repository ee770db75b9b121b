/- append of one new element to a row of the call's own: of terms, of strings. -/
import Derived.Test.YtonjohlecomeoaaBld
namespace Go.Proofs.Ytonjohlecomeoaa.app
open Go.RowKit Go.Proofs.Ytonjohlecomeoaa.tm Go.Proofs.Ytonjohlecomeoaa.lib Go.Proofs.Ytonjohlecomeoaa.rdr Go.Proofs.Ytonjohlecomeoaa.bld
set_option linter.unusedVariables false

theorem infoT : (Try.prog.info? 89).map (fun i => (i.zero, i.size, i.bytes)) = some (some .nilIface, 1, 16) := by kernel_rfl
theorem infoS : (Try.prog.info? 9).map (fun i => (i.zero, i.size, i.bytes)) = some (some (.string ⟨#[]⟩), 1, 16) := by kernel_rfl

/-- A slice of texts that the call itself made. -/
def Strs (w : World) (B : Nat) (v : Value) (ls : List Bs) : Prop := w.ownsRow B 9 1 v ls.length (ls.map str)

theorem val_one (T : Tm) : (val T).oneCell' = true := by cases T <;> rfl

section
variable {w : World} {ops : Array Oper} {rest : List Oper} {o : Oper} {a : Act} {Q : Exit → Act → World → Prop}

set_option maxRecDepth 100000 in
theorem wp_putT (s x : Operand) (T : Tm) (u : Value) (hu : u = val T) (B : Nat) (v : Value) (ts : List Tm) (hgd : o.guard = none)
    (ho : o.op = .call { callee := .builtin .append, args := #[s, x], argTypes := #[92, 92] })
    (hs : a.eval s = v) (hown : Tms w B v ts)
    (hx : a.eval x = .slice (some ⟨w.heap.size, 0, none⟩) 1 1)
    (hl : ts.length + 1 ≤ 1000000) (hB : B ≤ w.heap.size)
    (h : ∀ v' w', Tms w' B v' (ts ++ [T]) → Below B w w' → wpList Try.prog ops Q rest (a.put o.dst v') w') :
    wpList Try.prog ops Q (o :: rest) a (w.alloc (.cells #[u] 89)) := by
  subst hu
  obtain ⟨i0, hi, hz0, hz1, hz2⟩ := info_parts infoT
  refine wpList_append_own (w.alloc (.cells #[val T] 89)) hgd s x 92 ho B 89 i0 .nilIface 1 16 Try.underlying92 hi hz0 hz1 hz2 rfl (by decide) v ts.length _ hs (World.ownsRow.alloc hown _) ⟨w.heap.size, 0, none⟩ 1 1 [val T] hx (by simp) ?_ ?_ ?_ ?_ ?_ ?_
  · intro j u hj
    match j, hj with
    | 0, hj => simp at hj; subst hj; simp [Addr.add]
    | j + 1, hj => simp at hj
  · intro u hu
    simp at hu
    subst hu
    exact val_one T
  · unfold maxLen; omega
  · omega
  · simp; omega
  · intro v' w' h1 h2 _
    refine h v' w' ?_ (((Below.refl B w).alloc hB _).trans ((Below.refl B _).grown h2 (by simp; omega) fun k hk => (World.ownsRow.lt hown k hk).1))
    unfold Tms
    rw [List.map_append, List.length_append]
    exact h1

set_option maxRecDepth 100000 in
theorem wp_putS (s x : Operand) (l : Bs) (B : Nat) (v : Value) (ls : List Bs) (hgd : o.guard = none)
    (ho : o.op = .call { callee := .builtin .append, args := #[s, x], argTypes := #[38, 38] })
    (hs : a.eval s = v) (hown : Strs w B v ls)
    (hx : a.eval x = .slice (some ⟨w.heap.size, 0, none⟩) 1 1)
    (hl : ls.length + 1 ≤ 1000000) (hB : B ≤ w.heap.size)
    (h : ∀ v' w', Strs w' B v' (ls ++ [l]) → Below B w w' → wpList Try.prog ops Q rest (a.put o.dst v') w') :
    wpList Try.prog ops Q (o :: rest) a (w.alloc (.cells #[str l] 9)) := by
  obtain ⟨i0, hi, hz0, hz1, hz2⟩ := info_parts infoS
  refine wpList_append_own (w.alloc (.cells #[str l] 9)) hgd s x 38 ho B 9 i0 (.string ⟨#[]⟩) 1 16 Try.underlying38 hi hz0 hz1 hz2 rfl (by decide) v ls.length _ hs (World.ownsRow.alloc hown _) ⟨w.heap.size, 0, none⟩ 1 1 [str l] hx (by simp) ?_ ?_ ?_ ?_ ?_ ?_
  · intro j u hj
    match j, hj with
    | 0, hj => simp at hj; subst hj; simp [Addr.add]
    | j + 1, hj => simp at hj
  · intro u hu
    simp at hu
    subst hu
    rfl
  · unfold maxLen; omega
  · omega
  · simp; omega
  · intro v' w' h1 h2 _
    refine h v' w' ?_ (((Below.refl B w).alloc hB _).trans ((Below.refl B _).grown h2 (by simp; omega) fun k hk => (World.ownsRow.lt hown k hk).1))
    unfold Strs
    rw [List.map_append, List.length_append]
    exact h1
end

/-- What the call owns is kept where its block is kept. -/
theorem own_kept {w w' : World} {B : Nat} {e : TypeId} {v : Value} {n : Nat} {xs : List Value} (h : w.ownsRow B e 1 v n xs) (hk : ∀ g, B ≤ g → g < w.heap.size → w'.heap[g]? = w.heap[g]?) : w'.ownsRow B e 1 v n xs := by
  obtain ⟨hl, h⟩ := h
  refine ⟨hl, ?_⟩
  rcases h with h | ⟨g, cap, cur, hv, hg, hh, r⟩
  · exact .inl h
  · refine .inr ⟨g, cap, cur, hv, hg, ?_, r⟩
    have : g < w.heap.size := by
      rcases Nat.lt_or_ge g w.heap.size with h' | h'
      · exact h'
      · rw [Array.getElem?_eq_none h'] at hh; cases hh
    rw [hk g hg this]
    exact hh

theorem Tms.only {w w' : World} {B b : Nat} {v : Value} {ts : List Tm} (h : Tms w B v ts) (k : Only b w w') (hb : b < B) : Tms w' B v ts :=
  own_kept h fun g h1 h2 => k.block g h2 (by omega)
theorem Tms.below {w w' : World} {B : Nat} {v : Value} {ts : List Tm} (h : Tms w B v ts) (k : Below w.heap.size w w') : Tms w' B v ts :=
  own_kept h fun g _ h2 => k.block g h2
theorem Strs.below {w w' : World} {B : Nat} {v : Value} {ls : List Bs} (h : Strs w B v ls) (k : Below w.heap.size w w') : Strs w' B v ls :=
  own_kept h fun g _ h2 => k.block g h2
theorem Tms.nil (w : World) (B : Nat) : Tms w B (.slice none 0 0) [] := World.ownsRow_nil _ _ _ _
theorem Strs.nil (w : World) (B : Nat) : Strs w B (.slice none 0 0) [] := World.ownsRow_nil _ _ _ _
theorem Rdr.below {w w' : World} {b : Nat} {s : ByteArray} {p : Nat} (k : Rdr w b s p) (h : Below w.heap.size w w') : Rdr w' b s p := by
  unfold Rdr
  rw [h.block b (two k).2.2.2.2]
  exact k
theorem own_base {w : World} {B B' : Nat} {v : Value} {ls : List Bs} (h : Strs w B v ls) (hB : B' ≤ B) : Strs w B' v ls := by
  obtain ⟨hl, h⟩ := h
  refine ⟨hl, ?_⟩
  rcases h with h | ⟨g, cap, cur, hv, hg, r⟩
  · exact .inl h
  · exact .inr ⟨g, cap, cur, hv, Nat.le_trans hB hg, r⟩
theorem only_below {b : Nat} {w x y : World} (h : Only b w x) (k : Below w.heap.size x y) : Only b w y :=
  ⟨k.os.trans h.os, k.tape.trans h.tape, k.output.trans h.output, Nat.le_trans h.size k.size, fun i hi hb => (k.block i hi).trans (h.block i hi hb)⟩
theorem rdr_below {B : Nat} {x y : World} {b : Nat} {s : ByteArray} {p : Nat} (h : Rdr x b s p) (k : Below B x y) (hb : b < B) : Rdr y b s p := by
  unfold Rdr
  rw [k.block b hb]
  exact h
end Go.Proofs.Ytonjohlecomeoaa.app
