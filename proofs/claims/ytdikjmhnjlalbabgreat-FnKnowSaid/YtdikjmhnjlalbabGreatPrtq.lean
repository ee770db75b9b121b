/- Parts, as they lie in memory; append of one part to a row of the call's own; what is left of a region that draws, in its order. -/
import Derived.Test.YtdikjmhnjlalbabGreatQg
import Derived.Test.YtdikjmhnjlalbabGreatQh
import Derived.StillTailTactics
namespace Go.Proofs.YtdikjmhnjlalbabGreat.prt
open Go.RowKit Go.Proofs.YtdikjmhnjlalbabGreat.tm Go.Proofs.YtdikjmhnjlalbabGreat.lib Go.Proofs.YtdikjmhnjlalbabGreat.rdr Go.Proofs.YtdikjmhnjlalbabGreat.bld Go.Proofs.YtdikjmhnjlalbabGreat.app Go.Proofs.YtdikjmhnjlalbabGreat.mrs Go.Proofs.YtdikjmhnjlalbabGreat.apb
set_option linter.unusedVariables false

/-- One part: text, op, and the slice of its args. -/
structure El where
  t : Bs
  o : Bs
  ad : Option Addr
  n : Nat
  c : Nat

def El.v (k : El) : Value := .agg #[str k.t, str k.o, .slice k.ad k.n k.c]
def El.cs (k : El) : List Value := [str k.t, str k.o, .slice k.ad k.n k.c]

theorem El.cells (k : El) : k.v.cells = k.cs.toArray := rfl
theorem El.one (k : El) : ∀ u ∈ k.cs, u.oneCell' = true := by
  intro u hu
  simp only [El.cs, List.mem_cons, List.not_mem_nil, or_false] at hu
  rcases hu with rfl | rfl | rfl <;> rfl

/-- A part lies in block g from place off on. -/
def Lies (w : World) (g off : Nat) (k : El) : Prop :=
  w.cell? ⟨g, off, none⟩ = some (str k.t) ∧ w.cell? ⟨g, off + 1, none⟩ = some (str k.o) ∧ w.cell? ⟨g, off + 2, none⟩ = some (.slice k.ad k.n k.c)

theorem Lies.same {w w' : World} {g off : Nat} {k : El} (h : Lies w g off k) (hb : w'.heap[g]? = w.heap[g]?) : Lies w' g off k :=
  ⟨(World.cell?_of_block hb).trans h.1, (World.cell?_of_block hb).trans h.2.1, (World.cell?_of_block hb).trans h.2.2⟩

/-- k is the part of T: its args lie in blocks of C. -/
def Prt (w : World) (C : Nat → Prop) : Tm → El → Prop
  | .atom a, k => k = ⟨a, [], none, 0, 0⟩
  | .pub a, k => k.t = Tm.tx (.pub a) ∧ k.o = oPub ∧ k.n = 1 ∧ ∃ g, k.ad = some ⟨g, 0, none⟩ ∧ C g ∧ Lies w g 0 ⟨a, [], none, 0, 0⟩
  | .hash x, k => k.t = Tm.tx (.hash x) ∧ k.o = oHash ∧ k.n = 1 ∧ ∃ g, k.ad = some ⟨g, 0, none⟩ ∧ C g ∧ ∃ k0, Lies w g 0 k0 ∧ Prt w C x k0
  | .pair x y, k => k.t = Tm.tx (.pair x y) ∧ k.o = oPair ∧ k.n = 2 ∧ ∃ g, k.ad = some ⟨g, 0, none⟩ ∧ C g ∧ ∃ k0 k1, Lies w g 0 k0 ∧ Lies w g 3 k1 ∧ Prt w C x k0 ∧ Prt w C y k1
  | .mac x y, k => k.t = Tm.tx (.mac x y) ∧ k.o = oMac ∧ k.n = 2 ∧ ∃ g, k.ad = some ⟨g, 0, none⟩ ∧ C g ∧ ∃ k0 k1, Lies w g 0 k0 ∧ Lies w g 3 k1 ∧ Prt w C x k0 ∧ Prt w C y k1
  | .shut x y, k => k.t = Tm.tx (.shut x y) ∧ k.o = oShut ∧ k.n = 2 ∧ ∃ g, k.ad = some ⟨g, 0, none⟩ ∧ C g ∧ ∃ k0 k1, Lies w g 0 k0 ∧ Lies w g 3 k1 ∧ Prt w C x k0 ∧ Prt w C y k1
  | .dh a b, k => k.t = Tm.tx (.dh a b) ∧ k.o = oDh ∧ k.n = 2 ∧ ∃ g, k.ad = some ⟨g, 0, none⟩ ∧ C g ∧ Lies w g 0 ⟨a, [], none, 0, 0⟩ ∧ Lies w g 3 ⟨b, [], none, 0, 0⟩

theorem Prt.same {w w' : World} {C C' : Nat → Prop} (hb : ∀ g, C g → w'.heap[g]? = w.heap[g]? ∧ C' g) : ∀ (T : Tm) (k : El), Prt w C T k → Prt w' C' T k := by
  intro T
  induction T with
  | atom a => intro k h; exact h
  | pub a =>
    rintro k ⟨h1, h2, h3, g, h4, h5, h6⟩
    exact ⟨h1, h2, h3, g, h4, (hb g h5).2, h6.same (hb g h5).1⟩
  | hash x ih =>
    rintro k ⟨h1, h2, h3, g, h4, h5, k0, h6, h7⟩
    exact ⟨h1, h2, h3, g, h4, (hb g h5).2, k0, h6.same (hb g h5).1, ih k0 h7⟩
  | pair x y ihx ihy =>
    rintro k ⟨h1, h2, h3, g, h4, h5, k0, k1, h6, h7, h8, h9⟩
    exact ⟨h1, h2, h3, g, h4, (hb g h5).2, k0, k1, h6.same (hb g h5).1, h7.same (hb g h5).1, ihx k0 h8, ihy k1 h9⟩
  | mac x y ihx ihy =>
    rintro k ⟨h1, h2, h3, g, h4, h5, k0, k1, h6, h7, h8, h9⟩
    exact ⟨h1, h2, h3, g, h4, (hb g h5).2, k0, k1, h6.same (hb g h5).1, h7.same (hb g h5).1, ihx k0 h8, ihy k1 h9⟩
  | shut x y ihx ihy =>
    rintro k ⟨h1, h2, h3, g, h4, h5, k0, k1, h6, h7, h8, h9⟩
    exact ⟨h1, h2, h3, g, h4, (hb g h5).2, k0, k1, h6.same (hb g h5).1, h7.same (hb g h5).1, ihx k0 h8, ihy k1 h9⟩
  | dh a b =>
    rintro k ⟨h1, h2, h3, g, h4, h5, h6, h7⟩
    exact ⟨h1, h2, h3, g, h4, (hb g h5).2, h6.same (hb g h5).1, h7.same (hb g h5).1⟩

theorem Prt.text {w : World} {C : Nat → Prop} {T : Tm} {k : El} (h : Prt w C T k) : k.t = T.tx ∧ k.o = T.op := by
  cases T <;> first | exact ⟨h.1, h.2.1⟩ | (cases h; exact ⟨rfl, rfl⟩)

/-- The part of a node, told by its kids. -/
theorem Prt.mk1 {w : World} {C : Nat → Prop} {T x : Tm} (hk : T.kids = [x]) {k k0 : El} {g : Nat} (ht : k.t = T.tx) (ho : k.o = T.op) (hn : k.n = 1) (ha : k.ad = some ⟨g, 0, none⟩) (hg : C g) (h0 : Lies w g 0 k0) (h1 : Prt w C x k0) : Prt w C T k := by
  cases T <;> simp [Tm.kids] at hk
  · subst hk; exact ⟨ht, ho, hn, g, ha, hg, k0, h0, h1⟩
  · subst hk; cases h1; exact ⟨ht, ho, hn, g, ha, hg, h0⟩

theorem Prt.mk2 {w : World} {C : Nat → Prop} {T x y : Tm} (hk : T.kids = [x, y]) {k k0 k1 : El} {g : Nat} (ht : k.t = T.tx) (ho : k.o = T.op) (hn : k.n = 2) (ha : k.ad = some ⟨g, 0, none⟩) (hg : C g)
    (h0 : Lies w g 0 k0) (h1 : Lies w g 3 k1) (h2 : Prt w C x k0) (h3 : Prt w C y k1) : Prt w C T k := by
  cases T <;> simp [Tm.kids] at hk
  · obtain ⟨rfl, rfl⟩ := hk; exact ⟨ht, ho, hn, g, ha, hg, k0, k1, h0, h1, h2, h3⟩
  · obtain ⟨rfl, rfl⟩ := hk; exact ⟨ht, ho, hn, g, ha, hg, k0, k1, h0, h1, h2, h3⟩
  · obtain ⟨rfl, rfl⟩ := hk; exact ⟨ht, ho, hn, g, ha, hg, k0, k1, h0, h1, h2, h3⟩
  · obtain ⟨rfl, rfl⟩ := hk; cases h2; cases h3; exact ⟨ht, ho, hn, g, ha, hg, h0, h1⟩

theorem Prt.kid1 {w : World} {C : Nat → Prop} {T x : Tm} (hk : T.kids = [x]) {k : El} (h : Prt w C T k) : k.n = 1 ∧ ∃ g, k.ad = some ⟨g, 0, none⟩ ∧ C g ∧ ∃ k0, Lies w g 0 k0 ∧ Prt w C x k0 := by
  cases T <;> simp [Tm.kids] at hk
  · subst hk; obtain ⟨_, _, h3, g, h4, h5, k0, h6, h7⟩ := h; exact ⟨h3, g, h4, h5, k0, h6, h7⟩
  · subst hk; obtain ⟨_, _, h3, g, h4, h5, h6⟩ := h; exact ⟨h3, g, h4, h5, _, h6, rfl⟩

theorem Prt.kid2 {w : World} {C : Nat → Prop} {T x y : Tm} (hk : T.kids = [x, y]) {k : El} (h : Prt w C T k) : k.n = 2 ∧ ∃ g, k.ad = some ⟨g, 0, none⟩ ∧ C g ∧ ∃ k0 k1, Lies w g 0 k0 ∧ Lies w g 3 k1 ∧ Prt w C x k0 ∧ Prt w C y k1 := by
  cases T <;> simp [Tm.kids] at hk
  · obtain ⟨rfl, rfl⟩ := hk; obtain ⟨_, _, h3, g, h4, h5, k0, k1, h6, h7, h8, h9⟩ := h; exact ⟨h3, g, h4, h5, k0, k1, h6, h7, h8, h9⟩
  · obtain ⟨rfl, rfl⟩ := hk; obtain ⟨_, _, h3, g, h4, h5, k0, k1, h6, h7, h8, h9⟩ := h; exact ⟨h3, g, h4, h5, k0, k1, h6, h7, h8, h9⟩
  · obtain ⟨rfl, rfl⟩ := hk; obtain ⟨_, _, h3, g, h4, h5, k0, k1, h6, h7, h8, h9⟩ := h; exact ⟨h3, g, h4, h5, k0, k1, h6, h7, h8, h9⟩
  · obtain ⟨rfl, rfl⟩ := hk; obtain ⟨_, _, h3, g, h4, h5, h6, h7⟩ := h; exact ⟨h3, g, h4, h5, _, _, h6, h7, rfl, rfl⟩

/-- A row of parts of the call's own. -/
def Els (w : World) (B : Nat) (v : Value) (ks : List El) : Prop := w.ownsRow B 53 3 v ks.length (ks.flatMap El.cs)

theorem infoE : (Tryz.prog.info? 53).map (fun i => (i.zero, i.size, i.bytes)) = some (some (.agg #[str [], str [], .slice none 0 0]), 3, 56) := by kernel_rfl

theorem flat_len (ks : List El) : (ks.flatMap El.cs).length = ks.length * 3 := by
  induction ks with
  | nil => rfl
  | cons k ks ih => simp [List.flatMap_cons, El.cs, ih]; omega

theorem flat_at : ∀ (ks : List El) (j : Nat) (k : El), ks[j]? = some k → (ks.flatMap El.cs)[j * 3]? = some (str k.t) ∧ (ks.flatMap El.cs)[j * 3 + 1]? = some (str k.o) ∧ (ks.flatMap El.cs)[j * 3 + 2]? = some (.slice k.ad k.n k.c)
  | [], j, k, h => by simp at h
  | x :: ks, 0, k, h => by simp at h; subst h; exact ⟨rfl, rfl, rfl⟩
  | x :: ks, j + 1, k, h => by
    have := flat_at ks j k (by simpa using h)
    have e : ∀ i, (List.flatMap El.cs (x :: ks))[i + 3]? = (List.flatMap El.cs ks)[i]? := by
      intro i
      rw [List.flatMap_cons, List.getElem?_append_right (by simp [El.cs])]
      simp [El.cs]
    refine ⟨?_, ?_, ?_⟩
    · rw [show (j + 1) * 3 = j * 3 + 3 by omega, e]; exact this.1
    · rw [show (j + 1) * 3 + 1 = j * 3 + 1 + 3 by omega, e]; exact this.2.1
    · rw [show (j + 1) * 3 + 2 = j * 3 + 2 + 3 by omega, e]; exact this.2.2

theorem Els.nil (w : World) (B : Nat) : Els w B (.slice none 0 0) [] := World.ownsRow_nil _ _ _ _

theorem Els.at_ {w : World} {B : Nat} {v : Value} {ks : List El} (h : Els w B v ks) {g : Nat} (hg : v.ownBlock = some g) {j : Nat} {k : El} (hk : ks[j]? = some k) : Lies w g (j * 3) k := by
  obtain ⟨h0, h1, h2⟩ := flat_at ks j k hk
  have hc := World.ownsRow.cells h hg
  have a0 := hc _ _ h0
  have a1 := hc _ _ h1
  have a2 := hc _ _ h2
  rw [Addr.add_lit] at a0 a1 a2
  simp only [Nat.zero_add] at a0 a1 a2
  exact ⟨a0, a1, a2⟩

theorem Els.form {w : World} {B : Nat} {v : Value} {ks : List El} (h : Els w B v ks) :
    (v = .slice none 0 0 ∧ ks = []) ∨ ∃ g cap, v = .slice (some ⟨g, 0, none⟩) ks.length cap ∧ B ≤ g ∧ g < w.heap.size := by
  have h' := h
  obtain ⟨hl, h⟩ := h
  rcases h with ⟨rfl, h⟩ | ⟨g, cap, cur, rfl, hg, hh, _⟩
  · exact .inl ⟨rfl, List.eq_nil_of_length_eq_zero h⟩
  · exact .inr ⟨g, cap, rfl, hg, (World.ownsRow.lt h' g rfl).2⟩

theorem Els.same {w w' : World} {B : Nat} {v : Value} {ks : List El} (h : Els w B v ks) (hk : ∀ g, v.ownBlock = some g → w'.heap[g]? = w.heap[g]?) : Els w' B v ks := by
  refine ⟨h.1, ?_⟩
  rcases h.2 with h | ⟨g, cap, cur, rfl, hg, hh, hr⟩
  · exact .inl h
  · exact .inr ⟨g, cap, cur, rfl, hg, (hk g rfl).trans hh, hr⟩

section
variable {w : World} {ops : Array Oper} {rest : List Oper} {o : Oper} {a : Act} {Q : Exit → Act → World → Prop}

set_option maxRecDepth 100000 in
/-- append of one part: nothing turns but the row; what comes back lies there, or in a new block. -/
theorem wp_putE (s x : Operand) (k : El) (B : Nat) (v : Value) (ks : List El) (hgd : o.guard = none)
    (ho : o.op = .call { callee := .builtin .append, args := #[s, x], argTypes := #[37, 37] })
    (hs : a.eval s = v) (hown : Els w B v ks)
    (hx : a.eval x = .slice (some ⟨w.heap.size, 0, none⟩) 1 1)
    (hl : ks.length + 1 ≤ 1000000) (hB : B ≤ w.heap.size)
    (h : ∀ v' w', Els w' B v' (ks ++ [k]) → Aside v w w' → (∀ j, v'.ownBlock = some j → v.ownBlock = some j ∨ w.heap.size < j) → wpList Tryz.prog ops Q rest (a.put o.dst v') w') :
    wpList Tryz.prog ops Q (o :: rest) a (w.alloc (.cells #[str k.t, str k.o, .slice k.ad k.n k.c] 53)) := by
  obtain ⟨i0, hi, hz0, hz1, hz2⟩ := info_parts infoE
  have hown' := World.ownsRow.alloc hown (.cells #[str k.t, str k.o, .slice k.ad k.n k.c] 53)
  have hn : ∀ j u, k.cs[j]? = some u → (w.alloc (.cells #[str k.t, str k.o, .slice k.ad k.n k.c] 53)).cell? ((⟨w.heap.size, 0, none⟩ : Addr).add j) = some u := by
    intro j u hj
    match j, hj with
    | 0, hj => simp [El.cs] at hj; subst hj; simp [Addr.add]
    | 1, hj => simp [El.cs] at hj; subst hj; simp [Addr.add]
    | 2, hj => simp [El.cs] at hj; subst hj; simp [Addr.add]
    | j + 3, hj => simp [El.cs] at hj
  refine wpList_plain hgd fun K hK => ?_
  obtain ⟨v', w', hr, h2, h3, h4⟩ := run_append_own (P := Tryz.prog) (w.alloc (.cells #[str k.t, str k.o, .slice k.ad k.n k.c] 53)) B 37 o.type 53 i0 (.agg #[str [], str [], .slice none 0 0]) 3 56 Tryz.underlying37 hi hz0 hz1 hz2 rfl (by decide) v ks.length _ hown' ⟨w.heap.size, 0, none⟩ 1 1 k.cs (by simp [El.cs]) hn k.one (by unfold maxLen; omega) (by omega) (by simp; omega)
  have h5 := append_block (P := Tryz.prog) (w.alloc (.cells #[str k.t, str k.o, .slice k.ad k.n k.c] 53)) B 37 o.type 53 i0 (.agg #[str [], str [], .slice none 0 0]) 3 56 Tryz.underlying37 hi hz0 hz1 hz2 v ks.length _ hown' ⟨w.heap.size, 0, none⟩ 1 1 k.cs (by simp [El.cs]) hn k.one (by unfold maxLen; omega) (by omega) (by omega) hr
  unfold Oper.wp execOp
  simp only [ho, resolve, invoke, builtin, Sem.run_bind, Sem.run_pure, Result.andThen_ok, List.map_toArray, List.map_cons, List.map_nil, hs, hx, hr]
  refine hK _ _ (h v' w' ?_ ?_ fun j hj => ?_)
  · unfold Els
    rw [List.flatMap_append, List.length_append, List.flatMap_cons, List.flatMap_nil, List.append_nil]
    exact h2
  · refine ⟨h3.os, h3.tape, h3.output, ?_, fun k hk hne => ?_⟩
    · have := h3.size; simp at this; omega
    · rw [h3.block k (by simp; omega) (fun e => hne e.symm)]
      exact Below.heap_alloc _ _ _ hk
  · rcases h5 j hj with h6 | h6
    · exact .inl h6
    · right; simp at h6; omega

/-- What is left of a region that draws is done in its order. -/
theorem wpAny_tail {P : Program} {md : Region.Mode} {fuel : Nat} {listed : Array Bool} (k : Nat) (l : List Oper) (hl : ops.toList.drop k = l) (hB : Region.seqB md ops l.length k listed = true) (hf : fuel = l.length)
    (h : wpList P ops Q l a w) : wpAny P md ops Q fuel listed a w := by
  subst hf
  refine wpAny_of_seq l k listed a w (fun j => ?_) hB h
  rw [← hl, List.getElem?_drop]
  simp
end

#print axioms wp_putE
end Go.Proofs.YtdikjmhnjlalbabGreat.prt
