/- The closure of taken: the map of what is there, the list of what is shut. Written by wip/gen_tkn.py. -/
import Derived.Test.YtdikjmhnjlalbabGreatQn
import Derived.StillTailTactics
namespace Go.Proofs.YtdikjmhnjlalbabGreat.tkn
open Go.RowKit Go.Proofs.YtdikjmhnjlalbabGreat.tm Go.Proofs.YtdikjmhnjlalbabGreat.lib Go.Proofs.YtdikjmhnjlalbabGreat.rdr Go.Proofs.YtdikjmhnjlalbabGreat.bld Go.Proofs.YtdikjmhnjlalbabGreat.app Go.Proofs.YtdikjmhnjlalbabGreat.mrs Go.Proofs.YtdikjmhnjlalbabGreat.kmp Go.Proofs.YtdikjmhnjlalbabGreat.kst Go.Proofs.YtdikjmhnjlalbabGreat.apb Go.Proofs.YtdikjmhnjlalbabGreat.prt
set_option linter.unusedVariables false

/-- the closure, as it lies in its own variable. -/
def fnV (bT bF bC : Nat) : Value := .func (.func 42) #[] #[.pointer (some ⟨bT, 0, none⟩), .pointer (some ⟨bF, 0, none⟩), .pointer (some ⟨bC, 0, none⟩)]

/-- What is shut lies in a row of its own: B0: where the parts end; B: where the row may begin. -/
structure Shut (w : World) (B0 B : Nat) (v : Value) (C : List Tm) (es : List El) : Prop where
  own : Els w B v es
  len : es.length = C.length
  prt : ∀ (j : Nat) (U : Tm) (e : El), C[j]? = some U → es[j]? = some e → Prt w (fun g => g < B0) U e

/-- The state of taken: the map, the closure, the list of what is shut. -/
structure Tst (B0 bm bT bC bF : Nat) (w : World) (s : St) : Prop where
  ord : B0 ≤ bm ∧ bm < bT ∧ bT < bC ∧ bC < bF ∧ bF < w.heap.size
  cT : w.heap[bT]? = some (.cells #[.map (some bm)] 43 (0, 0))
  cF : w.heap[bF]? = some (.cells #[fnV bT bF bC] 62 (0, 0))
  set : Kset w bm s.1
  row : ∃ v es, w.heap[bC]? = some (.cells #[v] 37 (0, 0)) ∧ Shut w B0 (bF + 1) v s.2 es

theorem Shut.same {w w' : World} {B0 B : Nat} {v : Value} {C : List Tm} {es : List El} (h : Shut w B0 B v C es) (h0 : ∀ g, g < B0 → w'.heap[g]? = w.heap[g]?) (h1 : ∀ g, v.ownBlock = some g → w'.heap[g]? = w.heap[g]?) : Shut w' B0 B v C es :=
  ⟨h.own.same h1, h.len, fun j U e a b => (h.prt j U e a b).same (fun g hg => ⟨h0 g hg, hg⟩) U e⟩

theorem Tst.below {B0 bm bT bC bF : Nat} {w w' : World} {s : St} (h : Tst B0 bm bT bC bF w s) (k : Below w.heap.size w w') : Tst B0 bm bT bC bF w' s := by
  obtain ⟨o1, o2, o3, o4, o5⟩ := h.ord
  obtain ⟨v, es, r1, r2⟩ := h.row
  refine ⟨⟨o1, o2, o3, o4, Nat.lt_of_lt_of_le o5 k.size⟩, (k.block bT (by omega)).trans h.cT, (k.block bF o5).trans h.cF, h.set.same (k.block bm (by omega)), v, es, (k.block bC (by omega)).trans r1, r2.same (fun g hg => k.block g (by omega)) fun g hg => k.block g (World.ownsRow.lt r2.own g hg).2⟩

/-- One more is there. -/
theorem Tst.put {B0 bm bT bC bF : Nat} {w w' : World} {s : St} (h : Tst B0 bm bT bC bF w s) {L : List Bs} (hs : Kset w' bm L) (hg : w.grownBy w' (some bm)) : Tst B0 bm bT bC bF w' (L, s.2) := by
  obtain ⟨o1, o2, o3, o4, o5⟩ := h.ord
  obtain ⟨v, es, r1, r2⟩ := h.row
  have hb : ∀ g, g < w.heap.size → g ≠ bm → w'.heap[g]? = w.heap[g]? := fun g h1 h2 => hg.block g h1 (by simpa using h2)
  refine ⟨⟨o1, o2, o3, o4, Nat.lt_of_lt_of_le o5 hg.size⟩, (hb bT (by omega) (by omega)).trans h.cT, (hb bF o5 (by omega)).trans h.cF, hs, v, es, (hb bC (by omega) (by omega)).trans r1, r2.same (fun g hg => hb g (by omega) (by omega)) fun g hg => ?_⟩
  have := World.ownsRow.lt r2.own g hg
  exact hb g this.2 (by omega)

theorem cell_one {w : World} {b : Nat} {v : Value} {t : TypeId} (h : w.heap[b]? = some (.cells #[v] t (0, 0))) : w.cell? ⟨b, 0, none⟩ = some v ∧ w.frozen? ⟨b, 0, none⟩ = false ∧ b < w.heap.size := by
  obtain ⟨h1, h2, h3⟩ := grd.one h
  exact ⟨h1, h2, h3⟩

/-! ### a part is put behind the row: a zero part is appended, and written over -/
def El0 : El := ⟨[], [], none, 0, 0⟩

theorem set_block {w : World} {g : Nat} {cur : Array Value} {t : TypeId} (h : w.heap[g]? = some (.cells cur t (0, 0))) (o : Nat) (v : Value) : (w.setCell ⟨g, o, none⟩ v).heap[g]? = some (.cells (cur.setIfInBounds o v) t (0, 0)) := by
  simp [World.setCell, Array.getElem?_modify, h]

theorem Els.over {w : World} {B g cap : Nat} {es : List El} (h : Els w B (.slice (some ⟨g, 0, none⟩) (es.length + 1) cap) (es ++ [El0])) (k : El) :
    Els (((w.setCell ⟨g, es.length * 3, none⟩ (str k.t)).setCell ⟨g, es.length * 3 + 1, none⟩ (str k.o)).setCell ⟨g, es.length * 3 + 2, none⟩ (.slice k.ad k.n k.c)) B (.slice (some ⟨g, 0, none⟩) (es.length + 1) cap) (es ++ [k]) := by
  obtain ⟨h1, h2⟩ := h
  rcases h2 with ⟨h2, _⟩ | ⟨g', cap', cur, e, hB, hg, hn, hc, hs, ht⟩
  · cases h2
  · simp only [Value.slice.injEq, Option.some.injEq, Addr.mk.injEq] at e
    obtain ⟨⟨rfl, _⟩, _, rfl⟩ := e
    refine ⟨flat_len _, .inr ⟨g, cap, _, by simp, hB, set_block (set_block (set_block hg _ _) _ _) _ _, by simpa using hn, hc, by simpa using hs, ?_⟩⟩
    simp only [Array.toList_setIfInBounds, List.take_set, List.length_append, List.length_cons, List.length_nil, Nat.zero_add] at ht ⊢
    rw [ht, List.flatMap_append, List.flatMap_append]
    have hl : (es.flatMap El.cs).length = es.length * 3 := flat_len es
    simp only [List.flatMap_cons, List.flatMap_nil, List.append_nil, El.cs, El0]
    rw [List.set_append_right _ _ (by omega), hl, Nat.sub_self]
    rw [List.set_append_right _ _ (by omega), hl, show es.length * 3 + 1 - es.length * 3 = 1 by omega]
    rw [List.set_append_right _ _ (by omega), hl, show es.length * 3 + 2 - es.length * 3 = 2 by omega]
    rfl

section
variable {w : World} {o : Oper} {a : Act} {Q : Exit → Act → World → Prop} {K : Act → World → Prop}

set_option maxRecDepth 100000 in
/-- append of a zero part, inside a region that draws. -/
theorem op_zero (s x : Operand) (B : Nat) (v : Value) (ks : List El)
    (ho : o.op = .call { callee := .builtin .append, args := #[s, x], argTypes := #[37, 37] })
    (hs : a.eval s = v) (hown : Els w B v ks)
    (hx : a.eval x = .slice (some ⟨w.heap.size, 0, none⟩) 1 1)
    (hl : ks.length + 1 ≤ 1000000) (hB : B ≤ w.heap.size)
    (h : ∀ v' w', Els w' B v' (ks ++ [El0]) → mrs.Aside v w w' → (∀ j, v'.ownBlock = some j → v.ownBlock = some j ∨ w.heap.size < j) → K (a.put o.dst v') w') :
    Oper.wp Tryz.prog o a (w.alloc (.cells #[str [], str [], .slice none 0 0] 53)) K Q := by
  obtain ⟨i0, hi, hz0, hz1, hz2⟩ := info_parts prt.infoE
  have hown' := World.ownsRow.alloc hown (.cells #[str [], str [], .slice none 0 0] 53)
  have hn : ∀ j u, El0.cs[j]? = some u → (w.alloc (.cells #[str [], str [], .slice none 0 0] 53)).cell? ((⟨w.heap.size, 0, none⟩ : Addr).add j) = some u := by
    intro j u hj
    match j, hj with
    | 0, hj => simp [El.cs, El0] at hj; subst hj; simp [Addr.add]
    | 1, hj => simp [El.cs, El0] at hj; subst hj; simp [Addr.add]
    | 2, hj => simp [El.cs, El0] at hj; subst hj; simp [Addr.add]
    | j + 3, hj => simp [El.cs] at hj
  obtain ⟨v', w', hr, h2, h3, h4⟩ := run_append_own (P := Tryz.prog) (w.alloc (.cells #[str [], str [], .slice none 0 0] 53)) B 37 o.type 53 i0 (.agg #[str [], str [], .slice none 0 0]) 3 56 Tryz.underlying37 hi hz0 hz1 hz2 rfl (by decide) v ks.length _ hown' ⟨w.heap.size, 0, none⟩ 1 1 El0.cs (by simp [El.cs]) hn El0.one (by unfold maxLen; omega) (by omega) (by simp; omega)
  have h5 := append_block (P := Tryz.prog) (w.alloc (.cells #[str [], str [], .slice none 0 0] 53)) B 37 o.type 53 i0 (.agg #[str [], str [], .slice none 0 0]) 3 56 Tryz.underlying37 hi hz0 hz1 hz2 v ks.length _ hown' ⟨w.heap.size, 0, none⟩ 1 1 El0.cs (by simp [El.cs]) hn El0.one (by unfold maxLen; omega) (by omega) (by omega) hr
  unfold Oper.wp execOp
  simp only [ho, resolve, invoke, builtin, Sem.run_bind, Sem.run_pure, Result.andThen_ok, List.map_toArray, List.map_cons, List.map_nil, hs, hx, hr]
  refine h v' w' ?_ ?_ fun j hj => ?_
  · unfold Els
    rw [List.flatMap_append, List.length_append, List.flatMap_cons, List.flatMap_nil, List.append_nil]
    exact h2
  · refine ⟨h3.os, h3.tape, h3.output, ?_, fun k hk hne => ?_⟩
    · have := h3.size; simp at this; omega
    · rw [h3.block k (by simp; omega) (fun e => hne e.symm)]
      exact Below.heap_alloc _ _ _ hk
  · rcases h5 j hj with h6 | h6
    · exact .inl h6
    · right; simp at h6; omega
end

/-! ### how many there are -/
theorem tk_len : ∀ (T : Tm) (s : St), (tk T s).1.length ≤ s.1.length + (subs T).length ∧ (tk T s).2.length + s.1.length ≤ s.2.length + (tk T s).1.length := by
  intro T
  induction T with
  | pair l r ihl ihr =>
    intro s
    rw [tk]
    split
    · simp
    · have h1 := ihl (s.1 ++ [Tm.tx (.pair l r)], s.2)
      have h2 := ihr (tk l (s.1 ++ [Tm.tx (.pair l r)], s.2))
      simp only [List.length_append, List.length_cons, List.length_nil] at h1
      simp only [subs, List.length_cons, List.length_append]
      omega
  | shut k x _ _ =>
    intro s
    rw [tk]
    split
    · simp
    · simp [subs]; omega
  | atom a => intro s; unfold tk; split <;> simp [subs] <;> omega
  | hash x _ => intro s; unfold tk; split <;> simp [subs] <;> omega
  | mac k x _ _ => intro s; unfold tk; split <;> simp [subs] <;> omega
  | pub a => intro s; unfold tk; split <;> simp [subs] <;> omega
  | dh a b => intro s; unfold tk; split <;> simp [subs] <;> omega

/-! ### what is left as it was -/
def rowOf (w : World) (bC g : Nat) : Prop := ∃ v, w.heap[bC]? = some (.cells #[v] 37 (0, 0)) ∧ v.ownBlock = some g

structure TF (bm bC : Nat) (w w' : World) : Prop where
  os : w'.os = w.os
  tape : w'.tape = w.tape
  output : w'.output = w.output
  size : w.heap.size ≤ w'.heap.size
  block : ∀ g, g < w.heap.size → g ≠ bm → g ≠ bC → ¬ rowOf w bC g → w'.heap[g]? = w.heap[g]?
  row : ∀ g, rowOf w' bC g → rowOf w bC g ∨ w.heap.size ≤ g

theorem TF.of_below {bm bC : Nat} {w w' : World} (h : Below w.heap.size w w') (hC : bC < w.heap.size) : TF bm bC w w' :=
  ⟨h.os, h.tape, h.output, h.size, fun g hg _ _ _ => h.block g hg, fun g ⟨v, h1, h2⟩ => .inl ⟨v, by rw [← h.block bC hC]; exact h1, h2⟩⟩

theorem TF.of_put {bm bC : Nat} {w w' : World} (h : w.grownBy w' (some bm)) (hC : bC < w.heap.size) (hne : bC ≠ bm) : TF bm bC w w' :=
  ⟨h.os, h.tape, h.output, h.size, fun g hg h1 _ _ => h.block g hg (by simpa using h1), fun g ⟨v, h1, h2⟩ => .inl ⟨v, by rw [← h.block bC hC (by simpa using hne)]; exact h1, h2⟩⟩

theorem TF.trans {bm bC : Nat} {x y z : World} (h : TF bm bC x y) (k : TF bm bC y z) : TF bm bC x z := by
  refine ⟨k.os.trans h.os, k.tape.trans h.tape, k.output.trans h.output, Nat.le_trans h.size k.size, fun g hg h1 h2 h3 => ?_, fun g hr => ?_⟩
  · refine (k.block g (Nat.lt_of_lt_of_le hg h.size) h1 h2 fun hr => ?_).trans (h.block g hg h1 h2 h3)
    rcases h.row g hr with h4 | h4
    · exact h3 h4
    · omega
  · rcases k.row g hr with h4 | h4
    · exact h.row g h4
    · have := h.size; exact .inr (by omega)

theorem Tst.rowlt {B0 bm bT bC bF : Nat} {w : World} {s : St} (h : Tst B0 bm bT bC bF w s) {g : Nat} (hr : rowOf w bC g) : bF < g ∧ g < w.heap.size := by
  obtain ⟨v, es, r1, r2⟩ := h.row
  obtain ⟨v', h1, h2⟩ := hr
  rw [r1] at h1
  cases h1
  have := World.ownsRow.lt r2.own g h2
  omega

theorem TF.low {B0 bm bT bC bF : Nat} {w w' : World} {s : St} (h : TF bm bC w w') (t : Tst B0 bm bT bC bF w s) : Below B0 w w' :=
  ⟨h.os, h.tape, h.output, h.size, fun g hg => h.block g (by have := t.ord; omega) (by have := t.ord; omega) (by have := t.ord; omega) fun hr => by have := t.rowlt hr; have := t.ord; omega⟩

theorem drew_below (w : World) : Below w.heap.size w w.drew := ⟨rfl, rfl, rfl, Nat.le_refl _, fun _ _ => rfl⟩

theorem setCell_comm (w : World) (a b : Addr) (u v : Value) (h : a.block ≠ b.block) : (w.setCell a u).setCell b v = (w.setCell b v).setCell a u := by
  simp only [World.setCell]
  congr 1
  apply Array.ext_getElem?
  intro i
  simp only [Array.getElem?_modify]
  by_cases h1 : i = a.block
  · have h2 : ¬ i = b.block := fun e => h (h1.symm.trans e)
    simp [h1]
    split <;> split <;> simp_all
  · split <;> split <;> simp_all

def TK (T : Tm) : Prop := ∀ (w : World) (B0 bm bT bC bF : Nat) (s : St) (k : El), Tst B0 bm bT bC bF w s → Prt w (fun g => g < B0) T k → s.1.length + (subs T).length ≤ 500000 → s.2.length ≤ s.1.length →
  Calls Tryz.prog 42 #[k.v, .pointer (some ⟨bT, 0, none⟩), .pointer (some ⟨bF, 0, none⟩), .pointer (some ⟨bC, 0, none⟩)] w fun e w' => e = .returned (.tuple #[]) ∧ Tst B0 bm bT bC bF w' (tk T s) ∧ TF bm bC w w'

set_option maxHeartbeats 1000000 in
set_option maxRecDepth 100000 in
theorem tk_old (T : Tm) (hl : T.tx.length ≤ 1000000) (w : World) (B0 bm bT bC bF : Nat) (s : St) (k : El) (ht : Tst B0 bm bT bC bF w s) (hp : Prt w (fun g => g < B0) T k) (h : T.tx ∈ s.1) :
    Calls Tryz.prog 42 #[k.v, .pointer (some ⟨bT, 0, none⟩), .pointer (some ⟨bF, 0, none⟩), .pointer (some ⟨bC, 0, none⟩)] w fun e w' => e = .returned (.tuple #[]) ∧ Tst B0 bm bT bC bF w' s ∧ TF bm bC w w' := by
  obtain ⟨t, o, ad, n, c⟩ := k
  obtain ⟨e1, e2⟩ := hp.text
  simp only at e1 e2
  subst e1 e2
  simp only [El.v]
  obtain ⟨X, hX⟩ : ∃ X, X = T.tx := ⟨_, rfl⟩
  rw [← hX] at hl h ⊢
  have HT := Lib.hid ht
  have hxl : X.length ≤ maxLen := by unfold maxLen; omega
  have hi : inn s.1 X = true := inn_iff.2 h
  obtain ⟨cT, _, _⟩ := cell_one ht.cT
  have hbT : bT < w.heap.size := by have := ht.ord; omega
  have hB0 : B0 ≤ w.heap.size := by have := ht.ord; omega
  have hA : ∀ o, Below w.heap.size w (w.alloc o) := fun o => bds.new1 w o
  have HA := Lib.hid hA
  clear ht hp hX hA h
  go_enter Tryz.func42, Tryz.ntmps42
  go_wp2_with (at_lookup; refine wp_look (.tmp 5) (.tmp 7) bm s.1 X rfl rfl rfl rfl (HT.out.set.same ((HA.out _).block bm HT.out.set.lt)) hxl ?_; rw [hi])
  refine bodyPost_ret (v := .tuple #[]) (by simp [results, Tryz.results42, go_sem]) rfl ⟨rfl, HT.out.below (HA.out _), TF.of_below (HA.out _) (by have := HT.out.ord; omega)⟩

theorem tk_leaf (T : Tm) (h1 : T.op ≠ oPair) (h2 : T.op ≠ oShut) (s : St) (h : ¬ T.tx ∈ s.1) : tk T s = (s.1 ++ [T.tx], s.2) := by
  cases T <;> first | exact absurd rfl h1 | exact absurd rfl h2 | (unfold tk; rw [if_neg h])

/-- Where the closure has put the text into the map. -/
structure Put (B0 bm bT bC bF : Nat) (w w3 : World) (s : St) (X O : Bs) (ad : Option Addr) (n c : Nat) : Prop where
  tst : Tst B0 bm bT bC bF w3 (s.1 ++ [X], s.2)
  tf : TF bm bC w w3
  blk : w3.heap[w.heap.size]? = some (.cells #[str X, str O, .slice ad n c] 53 (0, 0))
  size : w.heap.size < w3.heap.size
  row : ∀ g, rowOf w3 bC g → rowOf w bC g

theorem Put.mk' {B0 bm bT bC bF : Nat} {w w3 : World} {s : St} {X O : Bs} {ad : Option Addr} {n c : Nat} (ht : Tst B0 bm bT bC bF w s) (hs : Kset w3 bm (s.1 ++ [X]))
    (hg : (w.alloc (.cells #[str X, str O, .slice ad n c] 53)).grownBy w3 (some bm)) : Put B0 bm bT bC bF w w3 s X O ad n c := by
  have hA := bds.new1 w (.cells #[str X, str O, .slice ad n c] 53)
  have ho := ht.ord
  have hz := hg.size
  simp at hz
  refine ⟨(ht.below hA).put hs hg, (TF.of_below hA (by omega)).trans (TF.of_put hg (by simp; omega) (by omega)), ?_, by omega, fun g ⟨v, h1, h2⟩ => ⟨v, ?_, h2⟩⟩
  · rw [hg.block w.heap.size (by simp) (by simp; omega)]
    exact heap_alloc_new w _
  · rw [← h1, hg.block bC (by simp; omega) (by simp; omega)]
    exact (heap_alloc_old w _ (by omega)).symm

/-- The box of the closure's own argument is left as it was. -/
theorem Put.box {B0 bm bT bC bF : Nat} {w w3 w4 : World} {s : St} {X O : Bs} {ad : Option Addr} {n c : Nat} (p : Put B0 bm bT bC bF w w3 s X O ad n c) (ht : Tst B0 bm bT bC bF w s) (hf : TF bm bC w3 w4) :
    w4.heap[w.heap.size]? = some (.cells #[str X, str O, .slice ad n c] 53 (0, 0)) := by
  have ho := ht.ord
  rw [hf.block w.heap.size p.size (by omega) (by omega) fun hr => by have := ht.rowlt (p.row _ hr); omega]
  exact p.blk

set_option maxHeartbeats 1000000 in
set_option maxRecDepth 100000 in
theorem tk_new (T : Tm) (h1 : T.op ≠ oPair) (h2 : T.op ≠ oShut) (hl : T.tx.length ≤ 1000000) (w : World) (B0 bm bT bC bF : Nat) (s : St) (k : El) (ht : Tst B0 bm bT bC bF w s) (hp : Prt w (fun g => g < B0) T k) (h : ¬ T.tx ∈ s.1) (hc : s.1.length ≤ 500000) :
    Calls Tryz.prog 42 #[k.v, .pointer (some ⟨bT, 0, none⟩), .pointer (some ⟨bF, 0, none⟩), .pointer (some ⟨bC, 0, none⟩)] w fun e w' => e = .returned (.tuple #[]) ∧ Tst B0 bm bT bC bF w' (s.1 ++ [T.tx], s.2) ∧ TF bm bC w w' := by
  obtain ⟨t, o, ad, n, c⟩ := k
  obtain ⟨e1, e2⟩ := hp.text
  simp only at e1 e2
  subst e1 e2
  simp only [El.v]
  obtain ⟨X, hX⟩ : ∃ X, X = T.tx := ⟨_, rfl⟩
  rw [← hX] at hl h ⊢
  obtain ⟨O, hO⟩ : ∃ O, O = T.op := ⟨_, rfl⟩
  rw [← hO] at h1 h2 ⊢
  have d1 : (O == [112, 97, 105, 114]) = false := by rw [beq_eq_false_iff_ne]; exact h1
  have d2 : (O == [115, 104, 117, 116]) = false := by rw [beq_eq_false_iff_ne]; exact h2
  have HT := Lib.hid ht
  have hxl : X.length ≤ maxLen := by unfold maxLen; omega
  have hi : inn s.1 X = false := inn_no.2 h
  have hlt : s.1.length < maxLen := by unfold maxLen; omega
  obtain ⟨cT, _, _⟩ := cell_one ht.cT
  have hbT : bT < w.heap.size := by have := ht.ord; omega
  have HA := Lib.hid (fun o => bds.new1 w o)
  have HS := Lib.hid (fun o => ht.set.same ((bds.new1 w o).block bm ht.set.lt))
  clear ht hp hX hO h1 h2
  go_enter Tryz.func42, Tryz.ntmps42
  go_wp2_with (first
    | (at_lookup; refine wp_look (.tmp 5) (.tmp 7) bm s.1 X rfl rfl rfl rfl (HS.out _) hxl ?_; rw [hi])
    | (at_mapUpdate; refine wp_mput (.tmp 9) (.tmp 11) (.const (.bool true)) bm s.1 X rfl rfl rfl rfl rfl (HS.out _) hxl h hlt ?_; intro w3 hs3 hg3; have P3 := Lib.hid (Put.mk' HT.out hs3 hg3); obtain ⟨m0, m1, m2, _, _, _, hbx⟩ := pof.three P3.out.blk; clear hs3 hg3))
  exact bodyPost_end (v := .tuple #[]) (by simp [results, Tryz.results42, go_sem]) rfl ⟨rfl, P3.out.tst, P3.out.tf⟩

set_option maxHeartbeats 2000000 in
set_option maxRecDepth 100000 in
theorem tk_pair (l r : Tm) (hl : (Tm.tx (.pair l r)).length ≤ 1000000) (ihl : TK l) (ihr : TK r) (w : World) (B0 bm bT bC bF : Nat) (s : St) (k : El) (ht : Tst B0 bm bT bC bF w s) (hp : Prt w (fun g => g < B0) (.pair l r) k) (h : ¬ Tm.tx (.pair l r) ∈ s.1)
    (hc : s.1.length + (subs (.pair l r)).length ≤ 500000) (hs2 : s.2.length ≤ s.1.length) :
    Calls Tryz.prog 42 #[k.v, .pointer (some ⟨bT, 0, none⟩), .pointer (some ⟨bF, 0, none⟩), .pointer (some ⟨bC, 0, none⟩)] w fun e w' => e = .returned (.tuple #[]) ∧ Tst B0 bm bT bC bF w' (tk r (tk l (s.1 ++ [Tm.tx (.pair l r)], s.2))) ∧ TF bm bC w w' := by
  obtain ⟨t, o, ad, n, c⟩ := k
  obtain ⟨e1, e2⟩ := hp.text
  simp only at e1 e2
  subst e1 e2
  obtain ⟨_, _, hn, g0, ha, hg0, k0, k1, l0, l1, p0, p1⟩ := hp
  simp only at hn ha
  subst hn ha
  obtain ⟨t0, o0, ad0, n0, c0⟩ := k0
  obtain ⟨t1, o1, ad1, n1, c1⟩ := k1
  have hcf : ∀ (v : Value) (w : World), (callFunc 42 #[v, .pointer (some ⟨bT, 0, none⟩), .pointer (some ⟨bF, 0, none⟩), .pointer (some ⟨bC, 0, none⟩)]).run Tryz.prog w = .ok (.enter 42 #[v, .pointer (some ⟨bT, 0, none⟩), .pointer (some ⟨bF, 0, none⟩), .pointer (some ⟨bC, 0, none⟩)]) w := fun v w => by kernel_rfl
  have L0 := Lib.hid l0
  have L1 := Lib.hid l1
  have P0 := Lib.hid p0
  have P1 := Lib.hid p1
  have IL := Lib.hid ihl
  have IR := Lib.hid ihr
  simp only [subs, List.length_cons, List.length_append] at hc
  simp only [El.v]
  obtain ⟨X, hX⟩ : ∃ X, X = Tm.tx (.pair l r) := ⟨_, rfl⟩
  rw [← hX] at hl h ⊢
  have e0 : str (Tm.pair l r).op = .string ⟨#[112, 97, 105, 114]⟩ := rfl
  rw [e0]
  clear e0
  have HT := Lib.hid ht
  have hxl : X.length ≤ maxLen := by unfold maxLen; omega
  have hi : inn s.1 X = false := inn_no.2 h
  have hlt : s.1.length < maxLen := by unfold maxLen; omega
  obtain ⟨cT, _, _⟩ := cell_one ht.cT
  have hbT : bT < w.heap.size := by have := ht.ord; omega
  have HA := Lib.hid (fun o => bds.new1 w o)
  have HS := Lib.hid (fun o => ht.set.same ((bds.new1 w o).block bm ht.set.lt))
  clear ht hX l0 l1 p0 p1 ihl ihr
  go_enter Tryz.func42, Tryz.ntmps42
  go_wp2_with (first
    | (at_lookup; refine wp_look (.tmp 5) (.tmp 7) bm s.1 X rfl rfl rfl rfl (HS.out _) hxl ?_; rw [hi])
    | (at_mapUpdate; refine wp_mput (.tmp 9) (.tmp 11) (.const (.bool true)) bm s.1 X rfl rfl rfl rfl rfl (HS.out _) hxl h hlt ?_; intro w3 hs3 hg3; have P3 := Lib.hid (Put.mk' HT.out hs3 hg3); obtain ⟨m0, m1, m2, _, _, _, hbx⟩ := pof.three P3.out.blk; clear hs3 hg3))
  have hB := P3.out.tf.low HT.out
  have o3 := P3.out.tst.ord
  obtain ⟨a0, a1, a2⟩ := L0.out.same (hB.block g0 hg0)
  obtain ⟨cF, _, _⟩ := cell_one P3.out.tst.cF
  unfold fnV at cF
  have hg03 : g0 < w3.heap.size := by omega
  simp only [Nat.zero_add] at a1 a2
  have HB := Lib.hid hB
  have IC := Lib.hid (IL.out w3.drew B0 bm bT bC bF (s.1 ++ [X], s.2) ⟨t0, o0, ad0, n0, c0⟩ (P3.out.tst.below (drew_below _)) (P0.out.same (w' := w3.drew) (fun g hg => ⟨hB.block g hg, hg⟩) _ _) (by simp; omega) (by simp; omega))
  simp only [El.v] at IC
  clear hB
  go_wp2_with fail
  refine wp_region_still_tail 5 (by kernel_rfl) (by kernel_rfl) ?_
  simp only [List.take_succ_cons, List.take_zero, List.drop_succ_cons, List.drop_zero]
  change wpStill _ _ w3.drew (fun a' => wpList _ _ _ _ a' w3.drew) _ _
  repeat still_step
  refine wpStill_nil ?_
  go_wp2_with fail
  refine IC.out.mono ?_
  rintro e w4 ⟨rfl, ht4, hf4'⟩
  have hf4 : TF bm bC w3 w4 := ⟨hf4'.os, hf4'.tape, hf4'.output, hf4'.size, hf4'.block, hf4'.row⟩
  have hk2 := tk_len l (s.1 ++ [X], s.2)
  simp only [List.length_append, List.length_cons, List.length_nil] at hk2
  obtain ⟨q0, q1, q2, _, _, _, hbx4⟩ := pof.three (P3.out.box HT.out hf4)
  have hB4 := (P3.out.tf.trans hf4).low HT.out
  obtain ⟨b0, b1, b2⟩ := L1.out.same (hB4.block g0 hg0)
  have cF4 := (cell_one ht4.cF).1
  unfold fnV at cF4
  have hg04 : g0 < w4.heap.size := by have := hB4.size; omega
  have HF4 := Lib.hid (P3.out.tf.trans hf4)
  have HT4 := Lib.hid ht4
  have IC2 := Lib.hid (IR.out w4.drew B0 bm bT bC bF (tk l (s.1 ++ [X], s.2)) ⟨t1, o1, ad1, n1, c1⟩ (ht4.below (drew_below _)) (P1.out.same (w' := w4.drew) (fun g hg => ⟨hB4.block g hg, hg⟩) _ _) (by omega) (by omega))
  simp only [El.v] at IC2
  clear hf4' hf4 ht4 hB4 hk2 m0 m1 m2 a0 a1 a2 cF
  go_wp2_with fail
  refine wp_region_still_tail 5 (by kernel_rfl) (by kernel_rfl) ?_
  simp only [List.take_succ_cons, List.take_zero, List.drop_succ_cons, List.drop_zero]
  change wpStill _ _ w4.drew (fun a' => wpList _ _ _ _ a' w4.drew) _ _
  repeat still_step
  refine wpStill_nil ?_
  go_wp2_with fail
  refine IC2.out.mono ?_
  rintro e w5 ⟨rfl, ht5, hf5'⟩
  have hf5 : TF bm bC w4 w5 := ⟨hf5'.os, hf5'.tape, hf5'.output, hf5'.size, hf5'.block, hf5'.row⟩
  have HT5 := Lib.hid ht5
  have HF5 := Lib.hid (HF4.out.trans hf5)
  clear hf5' hf5 ht5
  go_wp2_with fail
  exact bodyPost_end (v := .tuple #[]) (by simp [results, Tryz.results42, go_sem]) rfl ⟨rfl, HT5.out, HF5.out⟩


theorem Tst.shutput {B0 bm bT bC bF : Nat} {w w5 : World} {s : St} (t : Tst B0 bm bT bC bF w s) {v : Value} {es : List El} (r1 : w.heap[bC]? = some (.cells #[v] 37 (0, 0))) (r2 : Shut w B0 (bF + 1) v s.2 es)
    {g5 cap : Nat} (h5 : Els w5 (bF + 1) (.slice (some ⟨g5, 0, none⟩) (es.length + 1) cap) (es ++ [El0])) (a5 : mrs.Aside v w w5) (n5 : ∀ j, some g5 = some j → v.ownBlock = some j ∨ w.heap.size < j) {U : Tm} {k : El} (hp : Prt w (fun g => g < B0) U k) :
    Tst B0 bm bT bC bF ((((w5.setCell ⟨g5, es.length * 3, none⟩ (str k.t)).setCell ⟨g5, es.length * 3 + 1, none⟩ (str k.o)).setCell ⟨g5, es.length * 3 + 2, none⟩ (.slice k.ad k.n k.c)).setCell ⟨bC, 0, none⟩ (.slice (some ⟨g5, 0, none⟩) (es.length + 1) cap)) (s.1, s.2 ++ [U]) ∧
    TF bm bC w ((((w5.setCell ⟨g5, es.length * 3, none⟩ (str k.t)).setCell ⟨g5, es.length * 3 + 1, none⟩ (str k.o)).setCell ⟨g5, es.length * 3 + 2, none⟩ (.slice k.ad k.n k.c)).setCell ⟨bC, 0, none⟩ (.slice (some ⟨g5, 0, none⟩) (es.length + 1) cap)) := by
  obtain ⟨o1, o2, o3, o4, o5⟩ := t.ord
  have hv := World.ownsRow.lt r2.own
  have h5l := World.ownsRow.lt h5 g5 rfl
  have hs5 := a5.size
  have hCg : bC ≠ g5 := by omega
  have hvC : v.ownBlock ≠ some bC := fun e => by have := hv bC e; omega
  have keep : ∀ g, g < w.heap.size → g ≠ bC → g ≠ g5 → v.ownBlock ≠ some g → ((((w5.setCell ⟨g5, es.length * 3, none⟩ (str k.t)).setCell ⟨g5, es.length * 3 + 1, none⟩ (str k.o)).setCell ⟨g5, es.length * 3 + 2, none⟩ (.slice k.ad k.n k.c)).setCell ⟨bC, 0, none⟩ (.slice (some ⟨g5, 0, none⟩) (es.length + 1) cap)).heap[g]? = w.heap[g]? := fun g h1 h2 h3 h4 => by
    rw [Below.heap_setCell _ _ _ _ h2, Below.heap_setCell _ _ _ _ h3, Below.heap_setCell _ _ _ _ h3, Below.heap_setCell _ _ _ _ h3]
    exact a5.block g h1 h4
  have hg5 : ∀ g, g = g5 → v.ownBlock = some g ∨ w.heap.size < g := fun g e => n5 g (by rw [e])
  have low : ∀ g, g ≤ bF → g ≠ bC → ((((w5.setCell ⟨g5, es.length * 3, none⟩ (str k.t)).setCell ⟨g5, es.length * 3 + 1, none⟩ (str k.o)).setCell ⟨g5, es.length * 3 + 2, none⟩ (.slice k.ad k.n k.c)).setCell ⟨bC, 0, none⟩ (.slice (some ⟨g5, 0, none⟩) (es.length + 1) cap)).heap[g]? = w.heap[g]? := fun g h1 h2 =>
    keep g (by omega) h2 (by omega) fun e => by have := hv g e; omega
  have hbC : ((((w5.setCell ⟨g5, es.length * 3, none⟩ (str k.t)).setCell ⟨g5, es.length * 3 + 1, none⟩ (str k.o)).setCell ⟨g5, es.length * 3 + 2, none⟩ (.slice k.ad k.n k.c)).setCell ⟨bC, 0, none⟩ (.slice (some ⟨g5, 0, none⟩) (es.length + 1) cap)).heap[bC]? = some (.cells #[.slice (some ⟨g5, 0, none⟩) (es.length + 1) cap] 37 (0, 0)) := by
    refine set_block (cur := #[v]) ?_ 0 _
    rw [Below.heap_setCell _ _ _ _ hCg, Below.heap_setCell _ _ _ _ hCg, Below.heap_setCell _ _ _ _ hCg, a5.block bC (by omega) hvC]
    exact r1
  refine ⟨⟨⟨o1, o2, o3, o4, by simp [World.setCell]; omega⟩, (low bT (by omega) (by omega)).trans t.cT, (low bF (by omega) (by omega)).trans t.cF, t.set.same (low bm (by omega) (by omega)), _, es ++ [k], hbC, ?_, by simp [r2.len], fun j V e hV he => ?_⟩, ?_⟩
  · have h6 := Els.over h5 k
    exact h6.same fun g hg => by
      have e : g5 = g := by simpa [Value.ownBlock] using hg
      subst e
      exact Below.heap_setCell _ _ _ _ (fun e => hCg e.symm)
  · have hlow : ∀ g, g < B0 → _ := fun g hg => low g (by omega) (by omega)
    rcases Nat.lt_or_ge j s.2.length with hj | hj
    · rw [List.getElem?_append_left (by rw [r2.len]; exact hj)] at he
      rw [List.getElem?_append_left hj] at hV
      exact (r2.prt j V e hV he).same (fun g hg => ⟨hlow g hg, hg⟩) _ _
    · have hj' : j = s.2.length := by
        have := (List.getElem?_eq_some_iff.1 he).1
        simp [r2.len] at this
        omega
      subst hj'
      rw [List.getElem?_append_right (Nat.le_refl _), Nat.sub_self] at hV
      rw [List.getElem?_append_right (by rw [r2.len]; exact Nat.le_refl _), r2.len, Nat.sub_self] at he
      cases he
      cases hV
      exact hp.same (fun g hg => ⟨hlow g hg, hg⟩) _ _
  · refine ⟨a5.os, a5.tape, a5.output, by simp [World.setCell]; exact hs5, fun g h1 h2 h3 h4 => ?_, fun g ⟨u, h1, h2⟩ => ?_⟩
    · have hr : v.ownBlock ≠ some g := fun e => h4 ⟨v, r1, e⟩
      refine keep g h1 h3 (fun e => ?_) hr
      rcases hg5 g e with h | h
      · exact hr h
      · omega
    · rw [hbC] at h1
      cases h1
      have e : g5 = g := by simpa [Value.ownBlock] using h2
      subst e
      rcases hg5 g5 rfl with h | h
      · exact .inl ⟨v, r1, h⟩
      · exact .inr (by omega)

set_option maxHeartbeats 4000000 in
set_option maxRecDepth 100000 in
theorem tk_shut (x y : Tm) (hl : (Tm.tx (.shut x y)).length ≤ 1000000) (w : World) (B0 bm bT bC bF : Nat) (s : St) (k : El) (ht : Tst B0 bm bT bC bF w s) (hp : Prt w (fun g => g < B0) (.shut x y) k) (h : ¬ Tm.tx (.shut x y) ∈ s.1)
    (hc : s.1.length ≤ 500000) (hs2 : s.2.length ≤ s.1.length) :
    Calls Tryz.prog 42 #[k.v, .pointer (some ⟨bT, 0, none⟩), .pointer (some ⟨bF, 0, none⟩), .pointer (some ⟨bC, 0, none⟩)] w fun e w' => e = .returned (.tuple #[]) ∧ Tst B0 bm bT bC bF w' (s.1 ++ [Tm.tx (.shut x y)], s.2 ++ [.shut x y]) ∧ TF bm bC w w' := by
  obtain ⟨t, o, ad, n, c⟩ := k
  obtain ⟨e1, e2⟩ := hp.text
  simp only at e1 e2
  subst e1 e2
  simp only [El.v]
  obtain ⟨X, hX⟩ : ∃ X, X = Tm.tx (.shut x y) := ⟨_, rfl⟩
  rw [← hX] at hl h ⊢
  have e0 : str (Tm.shut x y).op = .string ⟨#[115, 104, 117, 116]⟩ := rfl
  rw [e0]
  clear e0
  have HT := Lib.hid ht
  have hxl : X.length ≤ maxLen := by unfold maxLen; omega
  have hi : inn s.1 X = false := inn_no.2 h
  have hlt : s.1.length < maxLen := by unfold maxLen; omega
  obtain ⟨cT, _, _⟩ := cell_one ht.cT
  have hbT : bT < w.heap.size := by have := ht.ord; omega
  have HA := Lib.hid (fun o => bds.new1 w o)
  have HS := Lib.hid (fun o => ht.set.same ((bds.new1 w o).block bm ht.set.lt))
  have HP := Lib.hid hp
  have HX := Lib.hid hX
  clear ht hX hp
  go_enter Tryz.func42, Tryz.ntmps42
  go_wp2_with (first
    | (at_lookup; refine wp_look (.tmp 5) (.tmp 7) bm s.1 X rfl rfl rfl rfl (HS.out _) hxl ?_; rw [hi])
    | (at_mapUpdate; refine wp_mput (.tmp 9) (.tmp 11) (.const (.bool true)) bm s.1 X rfl rfl rfl rfl rfl (HS.out _) hxl h hlt ?_; intro w3 hs3 hg3; have P3 := Lib.hid (Put.mk' HT.out hs3 hg3); obtain ⟨m0, m1, m2, _, _, _, hbx⟩ := pof.three P3.out.blk; clear hs3 hg3))
  obtain ⟨v, es, r1, r2⟩ := P3.out.tst.row
  have o3 := P3.out.tst.ord
  obtain ⟨cC, fC, hbC⟩ := cell_one r1
  obtain ⟨vad, vc, rfl⟩ : ∃ vad vc, v = .slice vad es.length vc := by
    rcases r2.own.form with ⟨rfl, e⟩ | ⟨g, cap, e, _⟩
    · exact ⟨none, 0, by rw [e]; rfl⟩
    · exact ⟨_, _, e⟩
  have hes : es.length + 1 ≤ 1000000 := by have := r2.len; simp only at this; omega
  have PP := Lib.hid (HP.out.same (w' := w3) (fun g hg => ⟨(P3.out.tf.low HT.out).block g hg, hg⟩) _ _)
  have NC := Lib.hid (show (Value.slice vad es.length vc).ownBlock ≠ some bC from fun e => by have := World.ownsRow.lt r2.own _ e; omega)
  have R1 := Lib.hid r1
  have R2 := Lib.hid r2
  clear r1 r2
  go_wp2_with fail
  refine wp_region_any (by kernel_rfl) ?_
  change wpAny _ _ _ _ _ _ _ (World.drew _)
  refine wpAny_ready (rs := [0, 1, 3]) (by kernel_rfl) (by simp) ?_
  refine AllReady.cons rfl (fun K hK => ?_) ?_
  · go_simp
    refine hK _ _ ?_
    clear hK K
    refine wpAny_take (i := 2) (v := ?_) rfl (by kernel_rfl) (by kernel_rfl) (by kernel_rfl) (fun _ _ _ h => h) (Or.inl ⟨by rfl, ?_⟩) ?_
    rotate_left
    · intro w; go_simp; first | done | with_reducible rfl
    refine wpAny_ready (rs := [1, 3]) (by kernel_rfl) (by simp) ?_
    refine AllReady.cons rfl (fun K hK => ?_) ?_
    · go_simp
      refine hK _ _ ?_
      clear hK K
      refine wpAny_ready (rs := [3]) (by kernel_rfl) (by simp) ?_
      refine AllReady.cons rfl (fun K hK => ?_) AllReady.nil
      go_simp
      refine hK _ _ ?_
      clear hK K
      refine wpAny_ready (rs := [4]) (by kernel_rfl) (by simp) ?_
      refine AllReady.cons rfl (fun K hK => ?_) AllReady.nil
      refine (if_pos (by rfl)).mpr ?_
      refine op_zero (w := w3.drew) (.tmp 30) (.tmp 33) (bF + 1) _ es rfl rfl R2.out.own rfl hes (by show bF + 1 ≤ w3.heap.size; omega) fun v5 w5 t5 a5 n5 => ?_
      refine hK _ _ ?_
      clear hK K
      obtain ⟨g5, cap5, rfl⟩ : ∃ g5 cap5, v5 = .slice (some ⟨g5, 0, none⟩) (es.length + 1) cap5 := by
        rcases t5.form with ⟨_, e⟩ | ⟨g, cap, e, _⟩
        · simp at e
        · exact ⟨g, cap, by rw [e]; simp⟩
      have a5' : mrs.Aside (Value.slice vad es.length vc) w3 w5 := ⟨a5.os, a5.tape, a5.output, a5.size, a5.block⟩
      obtain ⟨z0, z1, z2⟩ := t5.at_ (g := g5) rfl (j := es.length) (k := El0) (by simp)
      have hg5 := World.ownsRow.lt t5 g5 rfl
      have hln : (es.length : Int) < (es.length : Int) + 1 := by omega
      have hne1 : g5 ≠ bC := by omega
      have hne2 : bC ≠ g5 := by omega
      have zf : ∀ o, w5.frozen? ⟨g5, o, none⟩ = false := by
        intro o
        rcases t5.2 with ⟨e, _⟩ | ⟨g', cap', cur, e, _, hg, _⟩
        · cases e
        · simp only [Value.slice.injEq, Option.some.injEq, Addr.mk.injEq] at e
          obtain ⟨⟨rfl, _⟩, _⟩ := e
          simp [World.frozen?, hg]
      have z3 := zf (es.length * 3)
      have z4 := zf (es.length * 3 + 1)
      have z5 := zf (es.length * 3 + 2)
      have hb5 : w5.heap[bC]? = w3.heap[bC]? := a5'.block bC hbC NC.out
      have c5 : w5.cell? ⟨bC, 0, none⟩ = some (.slice vad es.length vc) := (World.cell?_of_block hb5).trans cC
      have f5 : w5.frozen? ⟨bC, 0, none⟩ = false := (World.frozen?_of_block (a := ⟨bC, 0, none⟩) hb5).trans fC
      have FN := P3.out.tst.shutput R1.out R2.out t5 a5' (fun j e => n5 j e) PP.out
      have FIN := Lib.hid (And.intro FN.1 (P3.out.tf.trans FN.2))
      rw [← HX.out] at FIN
      clear t5 a5 a5' n5 FN zf hb5
      refine wpAny_take (i := 5) (v := ?_) rfl (by kernel_rfl) (by kernel_rfl) (by kernel_rfl) (fun _ _ _ h => h) (Or.inl ⟨by rfl, ?_⟩) ?_
      rotate_left
      · intro w; go_simp; first | done | with_reducible rfl
      refine wpAny_ready (rs := [6, 7]) (by kernel_rfl) (by simp) ?_
      refine AllReady.cons rfl (fun K hK => ?_) (AllReady.cons rfl (fun K hK => ?_) AllReady.nil)
      · go_simp
        refine hK _ _ ?_
        clear hK K
        refine wpAny_ready (rs := [7]) (by kernel_rfl) (by simp) ?_
        refine AllReady.cons rfl (fun K hK => ?_) AllReady.nil
        go_simp
        refine hK _ _ ?_
        clear hK K
        refine wpAny_done (by kernel_rfl) ?_ _
        go_wp2_with fail
        exact bodyPost_end (v := .tuple #[]) (by simp [results, Tryz.results42, go_sem]) rfl ⟨rfl, FIN.out.1, FIN.out.2⟩
      · go_simp
        refine hK _ _ ?_
        clear hK K
        refine wpAny_ready (rs := [6]) (by kernel_rfl) (by simp) ?_
        refine AllReady.cons rfl (fun K hK => ?_) AllReady.nil
        go_simp
        refine hK _ _ ?_
        clear hK K
        refine wpAny_done (by kernel_rfl) ?_ _
        go_wp2_with fail
        rw [setCell_comm _ ⟨bC, 0, none⟩ ⟨g5, es.length * 3, none⟩ _ _ hne2, setCell_comm _ ⟨bC, 0, none⟩ ⟨g5, es.length * 3 + 1, none⟩ _ _ hne2, setCell_comm _ ⟨bC, 0, none⟩ ⟨g5, es.length * 3 + 2, none⟩ _ _ hne2]
        exact bodyPost_end (v := .tuple #[]) (by simp [results, Tryz.results42, go_sem]) rfl ⟨rfl, FIN.out.1, FIN.out.2⟩
    refine AllReady.cons rfl (fun K hK => ?_) AllReady.nil
    go_simp
    refine hK _ _ ?_
    clear hK K
    refine wpAny_ready (rs := [1]) (by kernel_rfl) (by simp) ?_
    refine AllReady.cons rfl (fun K hK => ?_) AllReady.nil
    go_simp
    refine hK _ _ ?_
    clear hK K
    refine wpAny_ready (rs := [4]) (by kernel_rfl) (by simp) ?_
    refine AllReady.cons rfl (fun K hK => ?_) AllReady.nil
    refine (if_pos (by rfl)).mpr ?_
    refine op_zero (w := w3.drew) (.tmp 30) (.tmp 33) (bF + 1) _ es rfl rfl R2.out.own rfl hes (by show bF + 1 ≤ w3.heap.size; omega) fun v5 w5 t5 a5 n5 => ?_
    refine hK _ _ ?_
    clear hK K
    obtain ⟨g5, cap5, rfl⟩ : ∃ g5 cap5, v5 = .slice (some ⟨g5, 0, none⟩) (es.length + 1) cap5 := by
      rcases t5.form with ⟨_, e⟩ | ⟨g, cap, e, _⟩
      · simp at e
      · exact ⟨g, cap, by rw [e]; simp⟩
    have a5' : mrs.Aside (Value.slice vad es.length vc) w3 w5 := ⟨a5.os, a5.tape, a5.output, a5.size, a5.block⟩
    obtain ⟨z0, z1, z2⟩ := t5.at_ (g := g5) rfl (j := es.length) (k := El0) (by simp)
    have hg5 := World.ownsRow.lt t5 g5 rfl
    have hln : (es.length : Int) < (es.length : Int) + 1 := by omega
    have hne1 : g5 ≠ bC := by omega
    have hne2 : bC ≠ g5 := by omega
    have zf : ∀ o, w5.frozen? ⟨g5, o, none⟩ = false := by
      intro o
      rcases t5.2 with ⟨e, _⟩ | ⟨g', cap', cur, e, _, hg, _⟩
      · cases e
      · simp only [Value.slice.injEq, Option.some.injEq, Addr.mk.injEq] at e
        obtain ⟨⟨rfl, _⟩, _⟩ := e
        simp [World.frozen?, hg]
    have z3 := zf (es.length * 3)
    have z4 := zf (es.length * 3 + 1)
    have z5 := zf (es.length * 3 + 2)
    have hb5 : w5.heap[bC]? = w3.heap[bC]? := a5'.block bC hbC NC.out
    have c5 : w5.cell? ⟨bC, 0, none⟩ = some (.slice vad es.length vc) := (World.cell?_of_block hb5).trans cC
    have f5 : w5.frozen? ⟨bC, 0, none⟩ = false := (World.frozen?_of_block (a := ⟨bC, 0, none⟩) hb5).trans fC
    have FN := P3.out.tst.shutput R1.out R2.out t5 a5' (fun j e => n5 j e) PP.out
    have FIN := Lib.hid (And.intro FN.1 (P3.out.tf.trans FN.2))
    rw [← HX.out] at FIN
    clear t5 a5 a5' n5 FN zf hb5
    refine wpAny_take (i := 5) (v := ?_) rfl (by kernel_rfl) (by kernel_rfl) (by kernel_rfl) (fun _ _ _ h => h) (Or.inl ⟨by rfl, ?_⟩) ?_
    rotate_left
    · intro w; go_simp; first | done | with_reducible rfl
    refine wpAny_ready (rs := [6, 7]) (by kernel_rfl) (by simp) ?_
    refine AllReady.cons rfl (fun K hK => ?_) (AllReady.cons rfl (fun K hK => ?_) AllReady.nil)
    · go_simp
      refine hK _ _ ?_
      clear hK K
      refine wpAny_ready (rs := [7]) (by kernel_rfl) (by simp) ?_
      refine AllReady.cons rfl (fun K hK => ?_) AllReady.nil
      go_simp
      refine hK _ _ ?_
      clear hK K
      refine wpAny_done (by kernel_rfl) ?_ _
      go_wp2_with fail
      exact bodyPost_end (v := .tuple #[]) (by simp [results, Tryz.results42, go_sem]) rfl ⟨rfl, FIN.out.1, FIN.out.2⟩
    · go_simp
      refine hK _ _ ?_
      clear hK K
      refine wpAny_ready (rs := [6]) (by kernel_rfl) (by simp) ?_
      refine AllReady.cons rfl (fun K hK => ?_) AllReady.nil
      go_simp
      refine hK _ _ ?_
      clear hK K
      refine wpAny_done (by kernel_rfl) ?_ _
      go_wp2_with fail
      rw [setCell_comm _ ⟨bC, 0, none⟩ ⟨g5, es.length * 3, none⟩ _ _ hne2, setCell_comm _ ⟨bC, 0, none⟩ ⟨g5, es.length * 3 + 1, none⟩ _ _ hne2, setCell_comm _ ⟨bC, 0, none⟩ ⟨g5, es.length * 3 + 2, none⟩ _ _ hne2]
      exact bodyPost_end (v := .tuple #[]) (by simp [results, Tryz.results42, go_sem]) rfl ⟨rfl, FIN.out.1, FIN.out.2⟩
  refine AllReady.cons rfl (fun K hK => ?_) ?_
  · go_simp
    refine hK _ _ ?_
    clear hK K
    refine wpAny_ready (rs := [0, 3]) (by kernel_rfl) (by simp) ?_
    refine AllReady.cons rfl (fun K hK => ?_) ?_
    · go_simp
      refine hK _ _ ?_
      clear hK K
      refine wpAny_take (i := 2) (v := ?_) rfl (by kernel_rfl) (by kernel_rfl) (by kernel_rfl) (fun _ _ _ h => h) (Or.inl ⟨by rfl, ?_⟩) ?_
      rotate_left
      · intro w; go_simp; first | done | with_reducible rfl
      refine wpAny_ready (rs := [3]) (by kernel_rfl) (by simp) ?_
      refine AllReady.cons rfl (fun K hK => ?_) AllReady.nil
      go_simp
      refine hK _ _ ?_
      clear hK K
      refine wpAny_ready (rs := [4]) (by kernel_rfl) (by simp) ?_
      refine AllReady.cons rfl (fun K hK => ?_) AllReady.nil
      refine (if_pos (by rfl)).mpr ?_
      refine op_zero (w := w3.drew) (.tmp 30) (.tmp 33) (bF + 1) _ es rfl rfl R2.out.own rfl hes (by show bF + 1 ≤ w3.heap.size; omega) fun v5 w5 t5 a5 n5 => ?_
      refine hK _ _ ?_
      clear hK K
      obtain ⟨g5, cap5, rfl⟩ : ∃ g5 cap5, v5 = .slice (some ⟨g5, 0, none⟩) (es.length + 1) cap5 := by
        rcases t5.form with ⟨_, e⟩ | ⟨g, cap, e, _⟩
        · simp at e
        · exact ⟨g, cap, by rw [e]; simp⟩
      have a5' : mrs.Aside (Value.slice vad es.length vc) w3 w5 := ⟨a5.os, a5.tape, a5.output, a5.size, a5.block⟩
      obtain ⟨z0, z1, z2⟩ := t5.at_ (g := g5) rfl (j := es.length) (k := El0) (by simp)
      have hg5 := World.ownsRow.lt t5 g5 rfl
      have hln : (es.length : Int) < (es.length : Int) + 1 := by omega
      have hne1 : g5 ≠ bC := by omega
      have hne2 : bC ≠ g5 := by omega
      have zf : ∀ o, w5.frozen? ⟨g5, o, none⟩ = false := by
        intro o
        rcases t5.2 with ⟨e, _⟩ | ⟨g', cap', cur, e, _, hg, _⟩
        · cases e
        · simp only [Value.slice.injEq, Option.some.injEq, Addr.mk.injEq] at e
          obtain ⟨⟨rfl, _⟩, _⟩ := e
          simp [World.frozen?, hg]
      have z3 := zf (es.length * 3)
      have z4 := zf (es.length * 3 + 1)
      have z5 := zf (es.length * 3 + 2)
      have hb5 : w5.heap[bC]? = w3.heap[bC]? := a5'.block bC hbC NC.out
      have c5 : w5.cell? ⟨bC, 0, none⟩ = some (.slice vad es.length vc) := (World.cell?_of_block hb5).trans cC
      have f5 : w5.frozen? ⟨bC, 0, none⟩ = false := (World.frozen?_of_block (a := ⟨bC, 0, none⟩) hb5).trans fC
      have FN := P3.out.tst.shutput R1.out R2.out t5 a5' (fun j e => n5 j e) PP.out
      have FIN := Lib.hid (And.intro FN.1 (P3.out.tf.trans FN.2))
      rw [← HX.out] at FIN
      clear t5 a5 a5' n5 FN zf hb5
      refine wpAny_take (i := 5) (v := ?_) rfl (by kernel_rfl) (by kernel_rfl) (by kernel_rfl) (fun _ _ _ h => h) (Or.inl ⟨by rfl, ?_⟩) ?_
      rotate_left
      · intro w; go_simp; first | done | with_reducible rfl
      refine wpAny_ready (rs := [6, 7]) (by kernel_rfl) (by simp) ?_
      refine AllReady.cons rfl (fun K hK => ?_) (AllReady.cons rfl (fun K hK => ?_) AllReady.nil)
      · go_simp
        refine hK _ _ ?_
        clear hK K
        refine wpAny_ready (rs := [7]) (by kernel_rfl) (by simp) ?_
        refine AllReady.cons rfl (fun K hK => ?_) AllReady.nil
        go_simp
        refine hK _ _ ?_
        clear hK K
        refine wpAny_done (by kernel_rfl) ?_ _
        go_wp2_with fail
        exact bodyPost_end (v := .tuple #[]) (by simp [results, Tryz.results42, go_sem]) rfl ⟨rfl, FIN.out.1, FIN.out.2⟩
      · go_simp
        refine hK _ _ ?_
        clear hK K
        refine wpAny_ready (rs := [6]) (by kernel_rfl) (by simp) ?_
        refine AllReady.cons rfl (fun K hK => ?_) AllReady.nil
        go_simp
        refine hK _ _ ?_
        clear hK K
        refine wpAny_done (by kernel_rfl) ?_ _
        go_wp2_with fail
        rw [setCell_comm _ ⟨bC, 0, none⟩ ⟨g5, es.length * 3, none⟩ _ _ hne2, setCell_comm _ ⟨bC, 0, none⟩ ⟨g5, es.length * 3 + 1, none⟩ _ _ hne2, setCell_comm _ ⟨bC, 0, none⟩ ⟨g5, es.length * 3 + 2, none⟩ _ _ hne2]
        exact bodyPost_end (v := .tuple #[]) (by simp [results, Tryz.results42, go_sem]) rfl ⟨rfl, FIN.out.1, FIN.out.2⟩
    refine AllReady.cons rfl (fun K hK => ?_) AllReady.nil
    go_simp
    refine hK _ _ ?_
    clear hK K
    refine wpAny_ready (rs := [0]) (by kernel_rfl) (by simp) ?_
    refine AllReady.cons rfl (fun K hK => ?_) AllReady.nil
    go_simp
    refine hK _ _ ?_
    clear hK K
    refine wpAny_take (i := 2) (v := ?_) rfl (by kernel_rfl) (by kernel_rfl) (by kernel_rfl) (fun _ _ _ h => h) (Or.inl ⟨by rfl, ?_⟩) ?_
    rotate_left
    · intro w; go_simp; first | done | with_reducible rfl
    refine wpAny_ready (rs := [4]) (by kernel_rfl) (by simp) ?_
    refine AllReady.cons rfl (fun K hK => ?_) AllReady.nil
    refine (if_pos (by rfl)).mpr ?_
    refine op_zero (w := w3.drew) (.tmp 30) (.tmp 33) (bF + 1) _ es rfl rfl R2.out.own rfl hes (by show bF + 1 ≤ w3.heap.size; omega) fun v5 w5 t5 a5 n5 => ?_
    refine hK _ _ ?_
    clear hK K
    obtain ⟨g5, cap5, rfl⟩ : ∃ g5 cap5, v5 = .slice (some ⟨g5, 0, none⟩) (es.length + 1) cap5 := by
      rcases t5.form with ⟨_, e⟩ | ⟨g, cap, e, _⟩
      · simp at e
      · exact ⟨g, cap, by rw [e]; simp⟩
    have a5' : mrs.Aside (Value.slice vad es.length vc) w3 w5 := ⟨a5.os, a5.tape, a5.output, a5.size, a5.block⟩
    obtain ⟨z0, z1, z2⟩ := t5.at_ (g := g5) rfl (j := es.length) (k := El0) (by simp)
    have hg5 := World.ownsRow.lt t5 g5 rfl
    have hln : (es.length : Int) < (es.length : Int) + 1 := by omega
    have hne1 : g5 ≠ bC := by omega
    have hne2 : bC ≠ g5 := by omega
    have zf : ∀ o, w5.frozen? ⟨g5, o, none⟩ = false := by
      intro o
      rcases t5.2 with ⟨e, _⟩ | ⟨g', cap', cur, e, _, hg, _⟩
      · cases e
      · simp only [Value.slice.injEq, Option.some.injEq, Addr.mk.injEq] at e
        obtain ⟨⟨rfl, _⟩, _⟩ := e
        simp [World.frozen?, hg]
    have z3 := zf (es.length * 3)
    have z4 := zf (es.length * 3 + 1)
    have z5 := zf (es.length * 3 + 2)
    have hb5 : w5.heap[bC]? = w3.heap[bC]? := a5'.block bC hbC NC.out
    have c5 : w5.cell? ⟨bC, 0, none⟩ = some (.slice vad es.length vc) := (World.cell?_of_block hb5).trans cC
    have f5 : w5.frozen? ⟨bC, 0, none⟩ = false := (World.frozen?_of_block (a := ⟨bC, 0, none⟩) hb5).trans fC
    have FN := P3.out.tst.shutput R1.out R2.out t5 a5' (fun j e => n5 j e) PP.out
    have FIN := Lib.hid (And.intro FN.1 (P3.out.tf.trans FN.2))
    rw [← HX.out] at FIN
    clear t5 a5 a5' n5 FN zf hb5
    refine wpAny_take (i := 5) (v := ?_) rfl (by kernel_rfl) (by kernel_rfl) (by kernel_rfl) (fun _ _ _ h => h) (Or.inl ⟨by rfl, ?_⟩) ?_
    rotate_left
    · intro w; go_simp; first | done | with_reducible rfl
    refine wpAny_ready (rs := [6, 7]) (by kernel_rfl) (by simp) ?_
    refine AllReady.cons rfl (fun K hK => ?_) (AllReady.cons rfl (fun K hK => ?_) AllReady.nil)
    · go_simp
      refine hK _ _ ?_
      clear hK K
      refine wpAny_ready (rs := [7]) (by kernel_rfl) (by simp) ?_
      refine AllReady.cons rfl (fun K hK => ?_) AllReady.nil
      go_simp
      refine hK _ _ ?_
      clear hK K
      refine wpAny_done (by kernel_rfl) ?_ _
      go_wp2_with fail
      exact bodyPost_end (v := .tuple #[]) (by simp [results, Tryz.results42, go_sem]) rfl ⟨rfl, FIN.out.1, FIN.out.2⟩
    · go_simp
      refine hK _ _ ?_
      clear hK K
      refine wpAny_ready (rs := [6]) (by kernel_rfl) (by simp) ?_
      refine AllReady.cons rfl (fun K hK => ?_) AllReady.nil
      go_simp
      refine hK _ _ ?_
      clear hK K
      refine wpAny_done (by kernel_rfl) ?_ _
      go_wp2_with fail
      rw [setCell_comm _ ⟨bC, 0, none⟩ ⟨g5, es.length * 3, none⟩ _ _ hne2, setCell_comm _ ⟨bC, 0, none⟩ ⟨g5, es.length * 3 + 1, none⟩ _ _ hne2, setCell_comm _ ⟨bC, 0, none⟩ ⟨g5, es.length * 3 + 2, none⟩ _ _ hne2]
      exact bodyPost_end (v := .tuple #[]) (by simp [results, Tryz.results42, go_sem]) rfl ⟨rfl, FIN.out.1, FIN.out.2⟩
  refine AllReady.cons rfl (fun K hK => ?_) AllReady.nil
  go_simp
  refine hK _ _ ?_
  clear hK K
  refine wpAny_ready (rs := [0, 1]) (by kernel_rfl) (by simp) ?_
  refine AllReady.cons rfl (fun K hK => ?_) ?_
  · go_simp
    refine hK _ _ ?_
    clear hK K
    refine wpAny_take (i := 2) (v := ?_) rfl (by kernel_rfl) (by kernel_rfl) (by kernel_rfl) (fun _ _ _ h => h) (Or.inl ⟨by rfl, ?_⟩) ?_
    rotate_left
    · intro w; go_simp; first | done | with_reducible rfl
    refine wpAny_ready (rs := [1]) (by kernel_rfl) (by simp) ?_
    refine AllReady.cons rfl (fun K hK => ?_) AllReady.nil
    go_simp
    refine hK _ _ ?_
    clear hK K
    refine wpAny_ready (rs := [4]) (by kernel_rfl) (by simp) ?_
    refine AllReady.cons rfl (fun K hK => ?_) AllReady.nil
    refine (if_pos (by rfl)).mpr ?_
    refine op_zero (w := w3.drew) (.tmp 30) (.tmp 33) (bF + 1) _ es rfl rfl R2.out.own rfl hes (by show bF + 1 ≤ w3.heap.size; omega) fun v5 w5 t5 a5 n5 => ?_
    refine hK _ _ ?_
    clear hK K
    obtain ⟨g5, cap5, rfl⟩ : ∃ g5 cap5, v5 = .slice (some ⟨g5, 0, none⟩) (es.length + 1) cap5 := by
      rcases t5.form with ⟨_, e⟩ | ⟨g, cap, e, _⟩
      · simp at e
      · exact ⟨g, cap, by rw [e]; simp⟩
    have a5' : mrs.Aside (Value.slice vad es.length vc) w3 w5 := ⟨a5.os, a5.tape, a5.output, a5.size, a5.block⟩
    obtain ⟨z0, z1, z2⟩ := t5.at_ (g := g5) rfl (j := es.length) (k := El0) (by simp)
    have hg5 := World.ownsRow.lt t5 g5 rfl
    have hln : (es.length : Int) < (es.length : Int) + 1 := by omega
    have hne1 : g5 ≠ bC := by omega
    have hne2 : bC ≠ g5 := by omega
    have zf : ∀ o, w5.frozen? ⟨g5, o, none⟩ = false := by
      intro o
      rcases t5.2 with ⟨e, _⟩ | ⟨g', cap', cur, e, _, hg, _⟩
      · cases e
      · simp only [Value.slice.injEq, Option.some.injEq, Addr.mk.injEq] at e
        obtain ⟨⟨rfl, _⟩, _⟩ := e
        simp [World.frozen?, hg]
    have z3 := zf (es.length * 3)
    have z4 := zf (es.length * 3 + 1)
    have z5 := zf (es.length * 3 + 2)
    have hb5 : w5.heap[bC]? = w3.heap[bC]? := a5'.block bC hbC NC.out
    have c5 : w5.cell? ⟨bC, 0, none⟩ = some (.slice vad es.length vc) := (World.cell?_of_block hb5).trans cC
    have f5 : w5.frozen? ⟨bC, 0, none⟩ = false := (World.frozen?_of_block (a := ⟨bC, 0, none⟩) hb5).trans fC
    have FN := P3.out.tst.shutput R1.out R2.out t5 a5' (fun j e => n5 j e) PP.out
    have FIN := Lib.hid (And.intro FN.1 (P3.out.tf.trans FN.2))
    rw [← HX.out] at FIN
    clear t5 a5 a5' n5 FN zf hb5
    refine wpAny_take (i := 5) (v := ?_) rfl (by kernel_rfl) (by kernel_rfl) (by kernel_rfl) (fun _ _ _ h => h) (Or.inl ⟨by rfl, ?_⟩) ?_
    rotate_left
    · intro w; go_simp; first | done | with_reducible rfl
    refine wpAny_ready (rs := [6, 7]) (by kernel_rfl) (by simp) ?_
    refine AllReady.cons rfl (fun K hK => ?_) (AllReady.cons rfl (fun K hK => ?_) AllReady.nil)
    · go_simp
      refine hK _ _ ?_
      clear hK K
      refine wpAny_ready (rs := [7]) (by kernel_rfl) (by simp) ?_
      refine AllReady.cons rfl (fun K hK => ?_) AllReady.nil
      go_simp
      refine hK _ _ ?_
      clear hK K
      refine wpAny_done (by kernel_rfl) ?_ _
      go_wp2_with fail
      exact bodyPost_end (v := .tuple #[]) (by simp [results, Tryz.results42, go_sem]) rfl ⟨rfl, FIN.out.1, FIN.out.2⟩
    · go_simp
      refine hK _ _ ?_
      clear hK K
      refine wpAny_ready (rs := [6]) (by kernel_rfl) (by simp) ?_
      refine AllReady.cons rfl (fun K hK => ?_) AllReady.nil
      go_simp
      refine hK _ _ ?_
      clear hK K
      refine wpAny_done (by kernel_rfl) ?_ _
      go_wp2_with fail
      rw [setCell_comm _ ⟨bC, 0, none⟩ ⟨g5, es.length * 3, none⟩ _ _ hne2, setCell_comm _ ⟨bC, 0, none⟩ ⟨g5, es.length * 3 + 1, none⟩ _ _ hne2, setCell_comm _ ⟨bC, 0, none⟩ ⟨g5, es.length * 3 + 2, none⟩ _ _ hne2]
      exact bodyPost_end (v := .tuple #[]) (by simp [results, Tryz.results42, go_sem]) rfl ⟨rfl, FIN.out.1, FIN.out.2⟩
  refine AllReady.cons rfl (fun K hK => ?_) AllReady.nil
  go_simp
  refine hK _ _ ?_
  clear hK K
  refine wpAny_ready (rs := [0]) (by kernel_rfl) (by simp) ?_
  refine AllReady.cons rfl (fun K hK => ?_) AllReady.nil
  go_simp
  refine hK _ _ ?_
  clear hK K
  refine wpAny_take (i := 2) (v := ?_) rfl (by kernel_rfl) (by kernel_rfl) (by kernel_rfl) (fun _ _ _ h => h) (Or.inl ⟨by rfl, ?_⟩) ?_
  rotate_left
  · intro w; go_simp; first | done | with_reducible rfl
  refine wpAny_ready (rs := [4]) (by kernel_rfl) (by simp) ?_
  refine AllReady.cons rfl (fun K hK => ?_) AllReady.nil
  refine (if_pos (by rfl)).mpr ?_
  refine op_zero (w := w3.drew) (.tmp 30) (.tmp 33) (bF + 1) _ es rfl rfl R2.out.own rfl hes (by show bF + 1 ≤ w3.heap.size; omega) fun v5 w5 t5 a5 n5 => ?_
  refine hK _ _ ?_
  clear hK K
  obtain ⟨g5, cap5, rfl⟩ : ∃ g5 cap5, v5 = .slice (some ⟨g5, 0, none⟩) (es.length + 1) cap5 := by
    rcases t5.form with ⟨_, e⟩ | ⟨g, cap, e, _⟩
    · simp at e
    · exact ⟨g, cap, by rw [e]; simp⟩
  have a5' : mrs.Aside (Value.slice vad es.length vc) w3 w5 := ⟨a5.os, a5.tape, a5.output, a5.size, a5.block⟩
  obtain ⟨z0, z1, z2⟩ := t5.at_ (g := g5) rfl (j := es.length) (k := El0) (by simp)
  have hg5 := World.ownsRow.lt t5 g5 rfl
  have hln : (es.length : Int) < (es.length : Int) + 1 := by omega
  have hne1 : g5 ≠ bC := by omega
  have hne2 : bC ≠ g5 := by omega
  have zf : ∀ o, w5.frozen? ⟨g5, o, none⟩ = false := by
    intro o
    rcases t5.2 with ⟨e, _⟩ | ⟨g', cap', cur, e, _, hg, _⟩
    · cases e
    · simp only [Value.slice.injEq, Option.some.injEq, Addr.mk.injEq] at e
      obtain ⟨⟨rfl, _⟩, _⟩ := e
      simp [World.frozen?, hg]
  have z3 := zf (es.length * 3)
  have z4 := zf (es.length * 3 + 1)
  have z5 := zf (es.length * 3 + 2)
  have hb5 : w5.heap[bC]? = w3.heap[bC]? := a5'.block bC hbC NC.out
  have c5 : w5.cell? ⟨bC, 0, none⟩ = some (.slice vad es.length vc) := (World.cell?_of_block hb5).trans cC
  have f5 : w5.frozen? ⟨bC, 0, none⟩ = false := (World.frozen?_of_block (a := ⟨bC, 0, none⟩) hb5).trans fC
  have FN := P3.out.tst.shutput R1.out R2.out t5 a5' (fun j e => n5 j e) PP.out
  have FIN := Lib.hid (And.intro FN.1 (P3.out.tf.trans FN.2))
  rw [← HX.out] at FIN
  clear t5 a5 a5' n5 FN zf hb5
  refine wpAny_take (i := 5) (v := ?_) rfl (by kernel_rfl) (by kernel_rfl) (by kernel_rfl) (fun _ _ _ h => h) (Or.inl ⟨by rfl, ?_⟩) ?_
  rotate_left
  · intro w; go_simp; first | done | with_reducible rfl
  refine wpAny_ready (rs := [6, 7]) (by kernel_rfl) (by simp) ?_
  refine AllReady.cons rfl (fun K hK => ?_) (AllReady.cons rfl (fun K hK => ?_) AllReady.nil)
  · go_simp
    refine hK _ _ ?_
    clear hK K
    refine wpAny_ready (rs := [7]) (by kernel_rfl) (by simp) ?_
    refine AllReady.cons rfl (fun K hK => ?_) AllReady.nil
    go_simp
    refine hK _ _ ?_
    clear hK K
    refine wpAny_done (by kernel_rfl) ?_ _
    go_wp2_with fail
    exact bodyPost_end (v := .tuple #[]) (by simp [results, Tryz.results42, go_sem]) rfl ⟨rfl, FIN.out.1, FIN.out.2⟩
  · go_simp
    refine hK _ _ ?_
    clear hK K
    refine wpAny_ready (rs := [6]) (by kernel_rfl) (by simp) ?_
    refine AllReady.cons rfl (fun K hK => ?_) AllReady.nil
    go_simp
    refine hK _ _ ?_
    clear hK K
    refine wpAny_done (by kernel_rfl) ?_ _
    go_wp2_with fail
    rw [setCell_comm _ ⟨bC, 0, none⟩ ⟨g5, es.length * 3, none⟩ _ _ hne2, setCell_comm _ ⟨bC, 0, none⟩ ⟨g5, es.length * 3 + 1, none⟩ _ _ hne2, setCell_comm _ ⟨bC, 0, none⟩ ⟨g5, es.length * 3 + 2, none⟩ _ _ hne2]
    exact bodyPost_end (v := .tuple #[]) (by simp [results, Tryz.results42, go_sem]) rfl ⟨rfl, FIN.out.1, FIN.out.2⟩

theorem tk_all : ∀ (T : Tm), T.ok → T.tx.length ≤ 1000000 → TK T := by
  intro T
  induction T with
  | pair l r ihl ihr =>
    intro hok hT w B0 bm bT bC bF s k ht hp hc hs2
    have h1 : l.tx.length ≤ (Tm.tx (.pair l r)).length := kid_tx (T := .pair l r) (by simp [Tm.kids])
    have h2 : r.tx.length ≤ (Tm.tx (.pair l r)).length := kid_tx (T := .pair l r) (by simp [Tm.kids])
    by_cases h : Tm.tx (.pair l r) ∈ s.1
    · rw [show tk (.pair l r) s = s by rw [tk, if_pos h]]
      exact tk_old _ hT w B0 bm bT bC bF s k ht hp h
    · rw [show tk (.pair l r) s = tk r (tk l (s.1 ++ [Tm.tx (.pair l r)], s.2)) by rw [tk, if_neg h]]
      exact tk_pair l r hT (ihl hok.1 (by omega)) (ihr hok.2 (by omega)) w B0 bm bT bC bF s k ht hp h hc hs2
  | shut x y _ _ =>
    intro hok hT w B0 bm bT bC bF s k ht hp hc hs2
    by_cases h : Tm.tx (.shut x y) ∈ s.1
    · rw [show tk (.shut x y) s = s by rw [tk, if_pos h]]
      exact tk_old _ hT w B0 bm bT bC bF s k ht hp h
    · rw [show tk (.shut x y) s = (s.1 ++ [Tm.tx (.shut x y)], s.2 ++ [.shut x y]) by rw [tk, if_neg h]]
      exact tk_shut x y hT w B0 bm bT bC bF s k ht hp h (by omega) hs2
  | atom a =>
    intro hok hT w B0 bm bT bC bF s k ht hp hc hs2
    by_cases h : Tm.tx (.atom a) ∈ s.1
    · rw [show tk (.atom a) s = s by unfold tk; rw [if_pos h]]
      exact tk_old _ hT w B0 bm bT bC bF s k ht hp h
    · rw [tk_leaf (.atom a) (by simp [Tm.op, oPair]) (by simp [Tm.op, oShut]) s h]
      exact tk_new (.atom a) (by simp [Tm.op, oPair]) (by simp [Tm.op, oShut]) hT w B0 bm bT bC bF s k ht hp h (by omega)
  | hash x _ =>
    intro hok hT w B0 bm bT bC bF s k ht hp hc hs2
    by_cases h : Tm.tx (.hash x) ∈ s.1
    · rw [show tk (.hash x) s = s by unfold tk; rw [if_pos h]]
      exact tk_old _ hT w B0 bm bT bC bF s k ht hp h
    · rw [tk_leaf (.hash x) (by simp [Tm.op, oPair, oHash]) (by simp [Tm.op, oShut, oHash]) s h]
      exact tk_new (.hash x) (by simp [Tm.op, oPair, oHash]) (by simp [Tm.op, oShut, oHash]) hT w B0 bm bT bC bF s k ht hp h (by omega)
  | mac x y _ _ =>
    intro hok hT w B0 bm bT bC bF s k ht hp hc hs2
    by_cases h : Tm.tx (.mac x y) ∈ s.1
    · rw [show tk (.mac x y) s = s by unfold tk; rw [if_pos h]]
      exact tk_old _ hT w B0 bm bT bC bF s k ht hp h
    · rw [tk_leaf (.mac x y) (by simp [Tm.op, oPair, oMac]) (by simp [Tm.op, oShut, oMac]) s h]
      exact tk_new (.mac x y) (by simp [Tm.op, oPair, oMac]) (by simp [Tm.op, oShut, oMac]) hT w B0 bm bT bC bF s k ht hp h (by omega)
  | pub a =>
    intro hok hT w B0 bm bT bC bF s k ht hp hc hs2
    by_cases h : Tm.tx (.pub a) ∈ s.1
    · rw [show tk (.pub a) s = s by unfold tk; rw [if_pos h]]
      exact tk_old _ hT w B0 bm bT bC bF s k ht hp h
    · rw [tk_leaf (.pub a) (by simp [Tm.op, oPair, oPub]) (by simp [Tm.op, oShut, oPub]) s h]
      exact tk_new (.pub a) (by simp [Tm.op, oPair, oPub]) (by simp [Tm.op, oShut, oPub]) hT w B0 bm bT bC bF s k ht hp h (by omega)
  | dh a b =>
    intro hok hT w B0 bm bT bC bF s k ht hp hc hs2
    by_cases h : Tm.tx (.dh a b) ∈ s.1
    · rw [show tk (.dh a b) s = s by unfold tk; rw [if_pos h]]
      exact tk_old _ hT w B0 bm bT bC bF s k ht hp h
    · rw [tk_leaf (.dh a b) (by simp [Tm.op, oDh, oPair]) (by simp [Tm.op, oDh, oShut]) s h]
      exact tk_new (.dh a b) (by simp [Tm.op, oDh, oPair]) (by simp [Tm.op, oDh, oShut]) hT w B0 bm bT bC bF s k ht hp h (by omega)

#print axioms tk_all
end Go.Proofs.YtdikjmhnjlalbabGreat.tkn
