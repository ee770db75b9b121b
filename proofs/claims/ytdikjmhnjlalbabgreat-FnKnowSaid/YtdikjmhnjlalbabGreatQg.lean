/- Several small texts, one behind the other. -/
import Derived.Test.YtdikjmhnjlalbabGreatBldq

/- append of one new element to a row of the call's own: of terms, of strings. -/
namespace Go.Proofs.YtdikjmhnjlalbabGreat.app
open Go.RowKit Go.Proofs.YtdikjmhnjlalbabGreat.tm Go.Proofs.YtdikjmhnjlalbabGreat.lib Go.Proofs.YtdikjmhnjlalbabGreat.rdr Go.Proofs.YtdikjmhnjlalbabGreat.bld
set_option linter.unusedVariables false

theorem infoT : (Tryz.prog.info? 58).map (fun i => (i.zero, i.size, i.bytes)) = some (some .nilIface, 1, 16) := by kernel_rfl
theorem infoS : (Tryz.prog.info? 9).map (fun i => (i.zero, i.size, i.bytes)) = some (some (.string ⟨#[]⟩), 1, 16) := by kernel_rfl

/-- A slice of texts that the call itself made. -/
def Strs (w : World) (B : Nat) (v : Value) (ls : List Bs) : Prop := w.ownsRow B 9 1 v ls.length (ls.map str)

theorem val_one (T : Tm) : (val T).oneCell' = true := by cases T <;> rfl

section
variable {w : World} {ops : Array Oper} {rest : List Oper} {o : Oper} {a : Act} {Q : Exit → Act → World → Prop}

set_option maxRecDepth 100000 in
theorem wp_putT (s x : Operand) (T : Tm) (u : Value) (hu : u = val T) (B : Nat) (v : Value) (ts : List Tm) (hgd : o.guard = none)
    (ho : o.op = .call { callee := .builtin .append, args := #[s, x], argTypes := #[85, 85] })
    (hs : a.eval s = v) (hown : Tms w B v ts)
    (hx : a.eval x = .slice (some ⟨w.heap.size, 0, none⟩) 1 1)
    (hl : ts.length + 1 ≤ 1000000) (hB : B ≤ w.heap.size)
    (h : ∀ v' w', Tms w' B v' (ts ++ [T]) → Below B w w' → wpList Tryz.prog ops Q rest (a.put o.dst v') w') :
    wpList Tryz.prog ops Q (o :: rest) a (w.alloc (.cells #[u] 58)) := by
  subst hu
  obtain ⟨i0, hi, hz0, hz1, hz2⟩ := info_parts infoT
  refine wpList_append_own (w.alloc (.cells #[val T] 58)) hgd s x 85 ho B 58 i0 .nilIface 1 16 Tryz.underlying85 hi hz0 hz1 hz2 rfl (by decide) v ts.length _ hs (World.ownsRow.alloc hown _) ⟨w.heap.size, 0, none⟩ 1 1 [val T] hx (by simp) ?_ ?_ ?_ ?_ ?_ ?_
  · intro j u hj
    match j, hj with
    | 0, hj => simp at hj; subst hj; simp [Addr.add]
    | j + 1, hj => simp at hj
  · intro u hu
    simp at hu
    subst hu
    exact val_one T
  · unfold maxLen; omega
  · omega
  · simp; omega
  · intro v' w' h1 h2 _
    refine h v' w' ?_ (((Below.refl B w).alloc hB _).trans ((Below.refl B _).grown h2 (by simp; omega) fun k hk => (World.ownsRow.lt hown k hk).1))
    unfold Tms
    rw [List.map_append, List.length_append]
    exact h1

set_option maxRecDepth 100000 in
theorem wp_putS (s x : Operand) (l : Bs) (B : Nat) (v : Value) (ls : List Bs) (hgd : o.guard = none)
    (ho : o.op = .call { callee := .builtin .append, args := #[s, x], argTypes := #[23, 23] })
    (hs : a.eval s = v) (hown : Strs w B v ls)
    (hx : a.eval x = .slice (some ⟨w.heap.size, 0, none⟩) 1 1)
    (hl : ls.length + 1 ≤ 1000000) (hB : B ≤ w.heap.size)
    (h : ∀ v' w', Strs w' B v' (ls ++ [l]) → Below B w w' → wpList Tryz.prog ops Q rest (a.put o.dst v') w') :
    wpList Tryz.prog ops Q (o :: rest) a (w.alloc (.cells #[str l] 9)) := by
  obtain ⟨i0, hi, hz0, hz1, hz2⟩ := info_parts infoS
  refine wpList_append_own (w.alloc (.cells #[str l] 9)) hgd s x 23 ho B 9 i0 (.string ⟨#[]⟩) 1 16 Tryz.underlying23 hi hz0 hz1 hz2 rfl (by decide) v ls.length _ hs (World.ownsRow.alloc hown _) ⟨w.heap.size, 0, none⟩ 1 1 [str l] hx (by simp) ?_ ?_ ?_ ?_ ?_ ?_
  · intro j u hj
    match j, hj with
    | 0, hj => simp at hj; subst hj; simp [Addr.add]
    | j + 1, hj => simp at hj
  · intro u hu
    simp at hu
    subst hu
    rfl
  · unfold maxLen; omega
  · omega
  · simp; omega
  · intro v' w' h1 h2 _
    refine h v' w' ?_ (((Below.refl B w).alloc hB _).trans ((Below.refl B _).grown h2 (by simp; omega) fun k hk => (World.ownsRow.lt hown k hk).1))
    unfold Strs
    rw [List.map_append, List.length_append]
    exact h1
end

/-- What the call owns is kept where its block is kept. -/
theorem own_kept {w w' : World} {B : Nat} {e : TypeId} {v : Value} {n : Nat} {xs : List Value} (h : w.ownsRow B e 1 v n xs) (hk : ∀ g, B ≤ g → g < w.heap.size → w'.heap[g]? = w.heap[g]?) : w'.ownsRow B e 1 v n xs := by
  obtain ⟨hl, h⟩ := h
  refine ⟨hl, ?_⟩
  rcases h with h | ⟨g, cap, cur, hv, hg, hh, r⟩
  · exact .inl h
  · refine .inr ⟨g, cap, cur, hv, hg, ?_, r⟩
    have : g < w.heap.size := by
      rcases Nat.lt_or_ge g w.heap.size with h' | h'
      · exact h'
      · rw [Array.getElem?_eq_none h'] at hh; cases hh
    rw [hk g hg this]
    exact hh

theorem Tms.only {w w' : World} {B b : Nat} {v : Value} {ts : List Tm} (h : Tms w B v ts) (k : Only b w w') (hb : b < B) : Tms w' B v ts :=
  own_kept h fun g h1 h2 => k.block g h2 (by omega)
theorem Tms.below {w w' : World} {B : Nat} {v : Value} {ts : List Tm} (h : Tms w B v ts) (k : Below w.heap.size w w') : Tms w' B v ts :=
  own_kept h fun g _ h2 => k.block g h2
theorem Strs.below {w w' : World} {B : Nat} {v : Value} {ls : List Bs} (h : Strs w B v ls) (k : Below w.heap.size w w') : Strs w' B v ls :=
  own_kept h fun g _ h2 => k.block g h2
theorem Tms.nil (w : World) (B : Nat) : Tms w B (.slice none 0 0) [] := World.ownsRow_nil _ _ _ _
theorem Strs.nil (w : World) (B : Nat) : Strs w B (.slice none 0 0) [] := World.ownsRow_nil _ _ _ _
theorem Rdr.below {w w' : World} {b : Nat} {s : ByteArray} {p : Nat} (k : Rdr w b s p) (h : Below w.heap.size w w') : Rdr w' b s p := by
  unfold Rdr
  rw [h.block b (two k).2.2.2.2]
  exact k
theorem own_base {w : World} {B B' : Nat} {v : Value} {ls : List Bs} (h : Strs w B v ls) (hB : B' ≤ B) : Strs w B' v ls := by
  obtain ⟨hl, h⟩ := h
  refine ⟨hl, ?_⟩
  rcases h with h | ⟨g, cap, cur, hv, hg, r⟩
  · exact .inl h
  · exact .inr ⟨g, cap, cur, hv, Nat.le_trans hB hg, r⟩
theorem only_below {b : Nat} {w x y : World} (h : Only b w x) (k : Below w.heap.size x y) : Only b w y :=
  ⟨k.os.trans h.os, k.tape.trans h.tape, k.output.trans h.output, Nat.le_trans h.size k.size, fun i hi hb => (k.block i hi).trans (h.block i hi hb)⟩
theorem rdr_below {B : Nat} {x y : World} {b : Nat} {s : ByteArray} {p : Nat} (h : Rdr x b s p) (k : Below B x y) (hb : b < B) : Rdr y b s p := by
  unfold Rdr
  rw [k.block b hb]
  exact h
end Go.Proofs.YtdikjmhnjlalbabGreat.app

/- Slices of texts, as they lie in memory: read (Rds), written (Wrs); what stands beside one that is written (Aside, Marked). -/
namespace Go.Proofs.YtdikjmhnjlalbabGreat.mrk
open Go.RowKit Go.Proofs.YtdikjmhnjlalbabGreat.tm Go.Proofs.YtdikjmhnjlalbabGreat.lib Go.Proofs.YtdikjmhnjlalbabGreat.rdr Go.Proofs.YtdikjmhnjlalbabGreat.bld Go.Proofs.YtdikjmhnjlalbabGreat.app
set_option linter.unusedVariables false

/-- A slice of texts, as it lies in memory: nothing said of whose it is. -/
def Rds (w : World) (v : Value) (ls : List Bs) : Prop :=
  (ls = [] ∧ ∃ ad cap, v = .slice ad 0 cap) ∨ ∃ g off cap, v = .slice (some ⟨g, off, none⟩) ls.length cap ∧ g < w.heap.size ∧ ∀ j l, ls[j]? = some l → w.cell? ⟨g, off + j, none⟩ = some (str l)

theorem Rds.still {w w' : World} {v : Value} {ls : List Bs} (h : Rds w v ls) (k : Still w w') : Rds w' v ls := by
  rcases h with h | ⟨g, off, cap, e, hg, hc⟩
  · exact .inl h
  · refine .inr ⟨g, off, cap, e, by rw [k.heap]; exact hg, fun j l hj => ?_⟩
    rw [← hc j l hj]
    exact World.cell?_of_block (by rw [k.heap])
theorem Rds.below {w w' : World} {v : Value} {ls : List Bs} (h : Rds w v ls) (k : Below w.heap.size w w') : Rds w' v ls := by
  rcases h with h | ⟨g, off, cap, e, hg, hc⟩
  · exact .inl h
  · refine .inr ⟨g, off, cap, e, Nat.lt_of_lt_of_le hg k.size, fun j l hj => ?_⟩
    rw [← hc j l hj]
    exact k.cell (p := ⟨g, off + j, none⟩) hg

end Go.Proofs.YtdikjmhnjlalbabGreat.mrk
namespace Go.Proofs.YtdikjmhnjlalbabGreat.mrs
open Go.RowKit Go.Proofs.YtdikjmhnjlalbabGreat.tm Go.Proofs.YtdikjmhnjlalbabGreat.lib Go.Proofs.YtdikjmhnjlalbabGreat.rdr Go.Proofs.YtdikjmhnjlalbabGreat.bld Go.Proofs.YtdikjmhnjlalbabGreat.app Go.Proofs.YtdikjmhnjlalbabGreat.mrk
set_option linter.unusedVariables false

/-- A slice of texts that may be written, from block B on. -/
def Wrs (w : World) (B : Nat) (v : Value) (ls : List Bs) : Prop :=
  (ls = [] ∧ ∃ ad cap, v = .slice ad 0 cap) ∨ ∃ g off cap, v = .slice (some ⟨g, off, none⟩) ls.length cap ∧ B ≤ g ∧ g < w.heap.size ∧ (∀ j l, ls[j]? = some l → w.cell? ⟨g, off + j, none⟩ = some (str l)) ∧ ∀ j, j < ls.length → w.frozen? ⟨g, off + j, none⟩ = false

theorem Wrs.rds {w : World} {B : Nat} {v : Value} {ls : List Bs} (h : Wrs w B v ls) : Rds w v ls := by
  rcases h with h | ⟨g, off, cap, e, _, hg, hc, _⟩
  · exact .inl h
  · exact .inr ⟨g, off, cap, e, hg, hc⟩

theorem Strs.wrs {w : World} {B : Nat} {v : Value} {ls : List Bs} (h : Strs w B v ls) : Wrs w B v ls := by
  have h' := h
  obtain ⟨hl, h⟩ := h
  rcases h with ⟨rfl, h⟩ | ⟨g, cap, cur, rfl, hg, hh, hc1, hc2, hc3, hc4⟩
  · exact .inl ⟨List.eq_nil_of_length_eq_zero h, _, _, rfl⟩
  · refine .inr ⟨g, 0, cap, rfl, hg, (World.ownsRow.lt h' g rfl).2, fun j T hj => ?_, fun j hj => ?_⟩
    · have := World.ownsRow.cells h' (g := g) rfl j (str T) (by rw [List.getElem?_map, hj]; rfl)
      rw [Addr.add_lit] at this
      exact this
    · simp [World.frozen?, hh]

/-- All blocks that were there are as they were, but for that of the slice v. -/
structure Aside (v : Value) (w w' : World) : Prop where
  os : w'.os = w.os
  tape : w'.tape = w.tape
  output : w'.output = w.output
  size : w.heap.size ≤ w'.heap.size
  block : ∀ k, k < w.heap.size → v.ownBlock ≠ some k → w'.heap[k]? = w.heap[k]?

theorem Aside.below {v : Value} {w w' : World} {B : Nat} (h : Aside v w w') (hB : B ≤ w.heap.size) (hv : ∀ k, v.ownBlock = some k → B ≤ k) : Below B w w' :=
  ⟨h.os, h.tape, h.output, h.size, fun k hk => h.block k (by omega) (fun e => by have := hv k e; omega)⟩
theorem Aside.refl (v : Value) (w : World) : Aside v w w := ⟨rfl, rfl, rfl, Nat.le_refl _, fun _ _ _ => rfl⟩
theorem Aside.of_only {g : Nat} {v : Value} {w w' : World} (h : Only g w w') (hv : v.ownBlock = some g) : Aside v w w' :=
  ⟨h.os, h.tape, h.output, h.size, fun k hk hne => h.block k hk (fun e => hne (by rw [hv, e]))⟩
theorem Aside.after {v : Value} {w w1 w2 : World} (h : Below w.heap.size w w1) (k : Aside v w1 w2) : Aside v w w2 :=
  ⟨k.os.trans h.os, k.tape.trans h.tape, k.output.trans h.output, Nat.le_trans h.size k.size, fun i hi hne => (k.block i (Nat.lt_of_lt_of_le hi h.size) hne).trans (h.block i hi)⟩

/-- What the marking leaves: of no texts nothing turned. -/
def Marked (v : Value) (ls : List Bs) (w w' : World) : Prop := (ls = [] ∧ Below w.heap.size w w') ∨ (ls ≠ [] ∧ Aside v w w')
theorem Marked.after {v : Value} {ls : List Bs} {w w1 w2 : World} (h : Below w.heap.size w w1) (k : Marked v ls w1 w2) : Marked v ls w w2 := by
  rcases k with ⟨e, k⟩ | ⟨e, k⟩
  · exact .inl ⟨e, h.trans (k.mono h.size)⟩
  · exact .inr ⟨e, Aside.after h k⟩
end Go.Proofs.YtdikjmhnjlalbabGreat.mrs

/- append of one new text to a row of the call's own, told to the block: nothing turns but that row; what comes back lies there, or in a new block. -/
namespace Go.Proofs.YtdikjmhnjlalbabGreat.apb
open Go.RowKit Go.Proofs.YtdikjmhnjlalbabGreat.tm Go.Proofs.YtdikjmhnjlalbabGreat.lib Go.Proofs.YtdikjmhnjlalbabGreat.rdr Go.Proofs.YtdikjmhnjlalbabGreat.bld Go.Proofs.YtdikjmhnjlalbabGreat.app Go.Proofs.YtdikjmhnjlalbabGreat.mrs
set_option linter.unusedVariables false

section
variable {P : Program} (w : World)

theorem append_block (base : Nat) (t ty e : TypeId) (i : TypeInfo) (z : Value) (size bytes : Nat) (ht : P.underlying t = some (.slice e)) (hi : P.info? e = some i) (hz : i.zero = some z)
    (hsize : i.size = size) (hby : i.bytes = bytes)
    (v : Value) (n : Nat) (xs : List Value) (hown : w.ownsRow base e size v n xs)
    (a : Addr) (m c : Nat) (news : List Value) (hl : news.length = m * size) (hnews : ∀ j u, news[j]? = some u → w.cell? (a.add j) = some u) (h1 : ∀ u ∈ news, u.oneCell' = true)
    (h63 : n + m ≤ maxLen) (hbytes : (n + m) * bytes ≤ 140737488355328) (hm : 0 < m) {v' : Value} {w' : World}
    (hrun : (Builtin.append_ #[t, t] ty #[v, .slice (some a) m c]).run P w = .ok v' w') : ∀ k, v'.ownBlock = some k → v.ownBlock = some k ∨ w.heap.size ≤ k := by
  subst hsize
  subst hby
  have hsmall : n + m ≤ 9223372036854775807 := by simp only [maxLen] at h63; omega
  rcases hown.2 with ⟨rfl, rfl⟩ | ⟨g, cap, cur, rfl, hbg, hg, hnc, hcm, hcs, htake⟩
  · have hr := run_append_nil (P := P) w t ty e i z ht hi hz a m c news hl hnews hm (by omega) (by have hb := hbytes; simp only [Nat.zero_add] at hb; omega)
    rw [hr] at hrun
    cases hrun
    intro k hk
    right
    simp [Value.ownBlock] at hk
    omega
  · by_cases hroom : n + m ≤ cap
    · have hfit : n * i.size + news.length ≤ cur.size := by rw [hl, hcs, ← Nat.add_mul]; exact Nat.mul_le_mul_right _ hroom
      have hr := run_append_room (P := P) w t ty e i ht hi g n cap cur hg a m c news hl hnews h1 hroom hfit
      rw [hr] at hrun
      cases hrun
      intro k hk
      left
      exact hk
    · have holds : ∀ j u, xs[j]? = some u → w.cell? ((⟨g, 0, none⟩ : Addr).add j) = some u := hown.cells (g := g) rfl
      have hr := run_append_grow (P := P) w t ty e i z ht hi hz ⟨g, 0, none⟩ n cap xs hown.1 holds a m c news hl hnews (by omega) (by omega) (growslice_fits (by omega) hbytes)
      rw [hr] at hrun
      cases hrun
      intro k hk
      right
      simp [Value.ownBlock] at hk
      omega
end

section
variable {w : World} {ops : Array Oper} {rest : List Oper} {o : Oper} {a : Act} {Q : Exit → Act → World → Prop}

set_option maxRecDepth 100000 in
theorem wp_putB (s x : Operand) (l : Bs) (B : Nat) (v : Value) (ls : List Bs) (hgd : o.guard = none)
    (ho : o.op = .call { callee := .builtin .append, args := #[s, x], argTypes := #[23, 23] })
    (hs : a.eval s = v) (hown : Strs w B v ls)
    (hx : a.eval x = .slice (some ⟨w.heap.size, 0, none⟩) 1 1)
    (hl : ls.length + 1 ≤ 1000000) (hB : B ≤ w.heap.size)
    (h : ∀ v' w', Strs w' B v' (ls ++ [l]) → Aside v w w' → (∀ k, v'.ownBlock = some k → v.ownBlock = some k ∨ w.heap.size ≤ k) → wpList Tryz.prog ops Q rest (a.put o.dst v') w') :
    wpList Tryz.prog ops Q (o :: rest) a (w.alloc (.cells #[str l] 9)) := by
  obtain ⟨i0, hi, hz0, hz1, hz2⟩ := info_parts infoS
  have hown' := World.ownsRow.alloc hown (.cells #[str l] 9)
  have hn : ∀ j u, [str l][j]? = some u → (w.alloc (.cells #[str l] 9)).cell? ((⟨w.heap.size, 0, none⟩ : Addr).add j) = some u := by
    intro j u hj
    match j, hj with
    | 0, hj => simp at hj; subst hj; simp [Addr.add]
    | j + 1, hj => simp at hj
  have h1 : ∀ u ∈ [str l], u.oneCell' = true := by
    intro u hu
    simp at hu
    subst hu
    rfl
  refine wpList_plain hgd fun K hK => ?_
  obtain ⟨v', w', hr, h2, h3, h4⟩ := run_append_own (P := Tryz.prog) (w.alloc (.cells #[str l] 9)) B 23 o.type 9 i0 (.string ⟨#[]⟩) 1 16 Tryz.underlying23 hi hz0 hz1 hz2 rfl (by decide) v ls.length _ hown' ⟨w.heap.size, 0, none⟩ 1 1 [str l] (by simp) hn h1 (by unfold maxLen; omega) (by omega) (by simp; omega)
  have h5 := append_block (P := Tryz.prog) (w.alloc (.cells #[str l] 9)) B 23 o.type 9 i0 (.string ⟨#[]⟩) 1 16 Tryz.underlying23 hi hz0 hz1 hz2 v ls.length _ hown' ⟨w.heap.size, 0, none⟩ 1 1 [str l] (by simp) hn h1 (by unfold maxLen; omega) (by omega) (by omega) hr
  unfold Oper.wp execOp
  simp only [ho, resolve, invoke, builtin, Sem.run_bind, Sem.run_pure, Result.andThen_ok, List.map_toArray, List.map_cons, List.map_nil, hs, hx, hr]
  refine hK _ _ (h v' w' ?_ ?_ fun k hk => ?_)
  · unfold Strs
    rw [List.map_append, List.length_append]
    exact h2
  · refine ⟨h3.os, h3.tape, h3.output, ?_, fun k hk hne => ?_⟩
    · have := h3.size; simp at this; omega
    · rw [h3.block k (by simp; omega) (fun e => hne e.symm)]
      exact Below.heap_alloc _ _ _ hk
  · rcases h5 k hk with h | h
    · exact .inl h
    · right; simp at h; omega
end

theorem Aside.trans' {v v1 : Value} {w w1 w2 : World} (h : Aside v w w1) (k : Aside v1 w1 w2) (hv : ∀ b, v1.ownBlock = some b → v.ownBlock = some b ∨ w.heap.size ≤ b) : Aside v w w2 :=
  ⟨k.os.trans h.os, k.tape.trans h.tape, k.output.trans h.output, Nat.le_trans h.size k.size, fun i hi hne =>
    (k.block i (Nat.lt_of_lt_of_le hi h.size) (fun e => by
      rcases hv i e with h' | h'
      · exact hne h'
      · omega)).trans (h.block i hi hne)⟩
theorem Aside.of_below {v : Value} {w w1 : World} (h : Below w.heap.size w w1) : Aside v w w1 := ⟨h.os, h.tape, h.output, h.size, fun k hk _ => h.block k hk⟩
end Go.Proofs.YtdikjmhnjlalbabGreat.apb
