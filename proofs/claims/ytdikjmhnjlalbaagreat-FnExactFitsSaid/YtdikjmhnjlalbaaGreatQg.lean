/- Several small texts, one behind the other. -/
import Derived.Test.YtdikjmhnjlalbaaGreatBldq
import Derived.Test.YtdikjmhnjlalbaaGreatQb
import Derived.ProofKit
import Derived.OpenShut
import Derived.ShutString
import Derived.SliceStrings
import Derived.ChangeOld
import Derived.Below
import Derived.Deep.Fields

/- append of one new element to a row of the call's own: of terms, of strings. -/
namespace Go.Proofs.YtdikjmhnjlalbaaGreat.app
open Go.RowKit Go.Proofs.YtdikjmhnjlalbaaGreat.tm Go.Proofs.YtdikjmhnjlalbaaGreat.lib Go.Proofs.YtdikjmhnjlalbaaGreat.rdr Go.Proofs.YtdikjmhnjlalbaaGreat.bld
set_option linter.unusedVariables false

theorem infoT : (Tryz.prog.info? 84).map (fun i => (i.zero, i.size, i.bytes)) = some (some .nilIface, 1, 16) := by kernel_rfl
theorem infoS : (Tryz.prog.info? 9).map (fun i => (i.zero, i.size, i.bytes)) = some (some (.string ⟨#[]⟩), 1, 16) := by kernel_rfl

/-- A slice of texts that the call itself made. -/
def Strs (w : World) (B : Nat) (v : Value) (ls : List Bs) : Prop := w.ownsRow B 9 1 v ls.length (ls.map str)

theorem val_one (T : Tm) : (val T).oneCell' = true := by cases T <;> rfl

section
variable {w : World} {ops : Array Oper} {rest : List Oper} {o : Oper} {a : Act} {Q : Exit → Act → World → Prop}

set_option maxRecDepth 100000 in
theorem wp_putT (s x : Operand) (T : Tm) (u : Value) (hu : u = val T) (B : Nat) (v : Value) (ts : List Tm) (hgd : o.guard = none)
    (ho : o.op = .call { callee := .builtin .append, args := #[s, x], argTypes := #[93, 93] })
    (hs : a.eval s = v) (hown : Tms w B v ts)
    (hx : a.eval x = .slice (some ⟨w.heap.size, 0, none⟩) 1 1)
    (hl : ts.length + 1 ≤ 1000000) (hB : B ≤ w.heap.size)
    (h : ∀ v' w', Tms w' B v' (ts ++ [T]) → Below B w w' → wpList Tryz.prog ops Q rest (a.put o.dst v') w') :
    wpList Tryz.prog ops Q (o :: rest) a (w.alloc (.cells #[u] 84)) := by
  subst hu
  obtain ⟨i0, hi, hz0, hz1, hz2⟩ := info_parts infoT
  refine wpList_append_own (w.alloc (.cells #[val T] 84)) hgd s x 93 ho B 84 i0 .nilIface 1 16 Tryz.underlying93 hi hz0 hz1 hz2 rfl (by decide) v ts.length _ hs (World.ownsRow.alloc hown _) ⟨w.heap.size, 0, none⟩ 1 1 [val T] hx (by simp) ?_ ?_ ?_ ?_ ?_ ?_
  · intro j u hj
    match j, hj with
    | 0, hj => simp at hj; subst hj; simp [Addr.add]
    | j + 1, hj => simp at hj
  · intro u hu
    simp at hu
    subst hu
    exact val_one T
  · unfold maxLen; omega
  · omega
  · simp; omega
  · intro v' w' h1 h2 _
    refine h v' w' ?_ (((Below.refl B w).alloc hB _).trans ((Below.refl B _).grown h2 (by simp; omega) fun k hk => (World.ownsRow.lt hown k hk).1))
    unfold Tms
    rw [List.map_append, List.length_append]
    exact h1

set_option maxRecDepth 100000 in
theorem wp_putS (s x : Operand) (l : Bs) (B : Nat) (v : Value) (ls : List Bs) (hgd : o.guard = none)
    (ho : o.op = .call { callee := .builtin .append, args := #[s, x], argTypes := #[24, 24] })
    (hs : a.eval s = v) (hown : Strs w B v ls)
    (hx : a.eval x = .slice (some ⟨w.heap.size, 0, none⟩) 1 1)
    (hl : ls.length + 1 ≤ 1000000) (hB : B ≤ w.heap.size)
    (h : ∀ v' w', Strs w' B v' (ls ++ [l]) → Below B w w' → wpList Tryz.prog ops Q rest (a.put o.dst v') w') :
    wpList Tryz.prog ops Q (o :: rest) a (w.alloc (.cells #[str l] 9)) := by
  obtain ⟨i0, hi, hz0, hz1, hz2⟩ := info_parts infoS
  refine wpList_append_own (w.alloc (.cells #[str l] 9)) hgd s x 24 ho B 9 i0 (.string ⟨#[]⟩) 1 16 Tryz.underlying24 hi hz0 hz1 hz2 rfl (by decide) v ls.length _ hs (World.ownsRow.alloc hown _) ⟨w.heap.size, 0, none⟩ 1 1 [str l] hx (by simp) ?_ ?_ ?_ ?_ ?_ ?_
  · intro j u hj
    match j, hj with
    | 0, hj => simp at hj; subst hj; simp [Addr.add]
    | j + 1, hj => simp at hj
  · intro u hu
    simp at hu
    subst hu
    rfl
  · unfold maxLen; omega
  · omega
  · simp; omega
  · intro v' w' h1 h2 _
    refine h v' w' ?_ (((Below.refl B w).alloc hB _).trans ((Below.refl B _).grown h2 (by simp; omega) fun k hk => (World.ownsRow.lt hown k hk).1))
    unfold Strs
    rw [List.map_append, List.length_append]
    exact h1
end

/-- What the call owns is kept where its block is kept. -/
theorem own_kept {w w' : World} {B : Nat} {e : TypeId} {v : Value} {n : Nat} {xs : List Value} (h : w.ownsRow B e 1 v n xs) (hk : ∀ g, B ≤ g → g < w.heap.size → w'.heap[g]? = w.heap[g]?) : w'.ownsRow B e 1 v n xs := by
  obtain ⟨hl, h⟩ := h
  refine ⟨hl, ?_⟩
  rcases h with h | ⟨g, cap, cur, hv, hg, hh, r⟩
  · exact .inl h
  · refine .inr ⟨g, cap, cur, hv, hg, ?_, r⟩
    have : g < w.heap.size := by
      rcases Nat.lt_or_ge g w.heap.size with h' | h'
      · exact h'
      · rw [Array.getElem?_eq_none h'] at hh; cases hh
    rw [hk g hg this]
    exact hh

theorem Tms.only {w w' : World} {B b : Nat} {v : Value} {ts : List Tm} (h : Tms w B v ts) (k : Only b w w') (hb : b < B) : Tms w' B v ts :=
  own_kept h fun g h1 h2 => k.block g h2 (by omega)
theorem Tms.below {w w' : World} {B : Nat} {v : Value} {ts : List Tm} (h : Tms w B v ts) (k : Below w.heap.size w w') : Tms w' B v ts :=
  own_kept h fun g _ h2 => k.block g h2
theorem Strs.below {w w' : World} {B : Nat} {v : Value} {ls : List Bs} (h : Strs w B v ls) (k : Below w.heap.size w w') : Strs w' B v ls :=
  own_kept h fun g _ h2 => k.block g h2
theorem Tms.nil (w : World) (B : Nat) : Tms w B (.slice none 0 0) [] := World.ownsRow_nil _ _ _ _
theorem Strs.nil (w : World) (B : Nat) : Strs w B (.slice none 0 0) [] := World.ownsRow_nil _ _ _ _
theorem Rdr.below {w w' : World} {b : Nat} {s : ByteArray} {p : Nat} (k : Rdr w b s p) (h : Below w.heap.size w w') : Rdr w' b s p := by
  unfold Rdr
  rw [h.block b (two k).2.2.2.2]
  exact k
theorem own_base {w : World} {B B' : Nat} {v : Value} {ls : List Bs} (h : Strs w B v ls) (hB : B' ≤ B) : Strs w B' v ls := by
  obtain ⟨hl, h⟩ := h
  refine ⟨hl, ?_⟩
  rcases h with h | ⟨g, cap, cur, hv, hg, r⟩
  · exact .inl h
  · exact .inr ⟨g, cap, cur, hv, Nat.le_trans hB hg, r⟩
theorem only_below {b : Nat} {w x y : World} (h : Only b w x) (k : Below w.heap.size x y) : Only b w y :=
  ⟨k.os.trans h.os, k.tape.trans h.tape, k.output.trans h.output, Nat.le_trans h.size k.size, fun i hi hb => (k.block i hi).trans (h.block i hi hb)⟩
theorem rdr_below {B : Nat} {x y : World} {b : Nat} {s : ByteArray} {p : Nat} (h : Rdr x b s p) (k : Below B x y) (hb : b < B) : Rdr y b s p := by
  unfold Rdr
  rw [k.block b hb]
  exact h
end Go.Proofs.YtdikjmhnjlalbaaGreat.app

/- Slices of texts, as they lie in memory: read (Rds), written (Wrs); what stands beside one that is written (Aside, Marked). -/
namespace Go.Proofs.YtdikjmhnjlalbaaGreat.mrk
open Go.RowKit Go.Proofs.YtdikjmhnjlalbaaGreat.tm Go.Proofs.YtdikjmhnjlalbaaGreat.lib Go.Proofs.YtdikjmhnjlalbaaGreat.rdr Go.Proofs.YtdikjmhnjlalbaaGreat.bld Go.Proofs.YtdikjmhnjlalbaaGreat.app
set_option linter.unusedVariables false

/-- A slice of texts, as it lies in memory: nothing said of whose it is. -/
def Rds (w : World) (v : Value) (ls : List Bs) : Prop :=
  (ls = [] ∧ ∃ ad cap, v = .slice ad 0 cap) ∨ ∃ g off cap, v = .slice (some ⟨g, off, none⟩) ls.length cap ∧ g < w.heap.size ∧ ∀ j l, ls[j]? = some l → w.cell? ⟨g, off + j, none⟩ = some (str l)

theorem Rds.still {w w' : World} {v : Value} {ls : List Bs} (h : Rds w v ls) (k : Still w w') : Rds w' v ls := by
  rcases h with h | ⟨g, off, cap, e, hg, hc⟩
  · exact .inl h
  · refine .inr ⟨g, off, cap, e, by rw [k.heap]; exact hg, fun j l hj => ?_⟩
    rw [← hc j l hj]
    exact World.cell?_of_block (by rw [k.heap])
theorem Rds.below {w w' : World} {v : Value} {ls : List Bs} (h : Rds w v ls) (k : Below w.heap.size w w') : Rds w' v ls := by
  rcases h with h | ⟨g, off, cap, e, hg, hc⟩
  · exact .inl h
  · refine .inr ⟨g, off, cap, e, Nat.lt_of_lt_of_le hg k.size, fun j l hj => ?_⟩
    rw [← hc j l hj]
    exact k.cell (p := ⟨g, off + j, none⟩) hg

end Go.Proofs.YtdikjmhnjlalbaaGreat.mrk
namespace Go.Proofs.YtdikjmhnjlalbaaGreat.mrs
open Go.RowKit Go.Proofs.YtdikjmhnjlalbaaGreat.tm Go.Proofs.YtdikjmhnjlalbaaGreat.lib Go.Proofs.YtdikjmhnjlalbaaGreat.rdr Go.Proofs.YtdikjmhnjlalbaaGreat.bld Go.Proofs.YtdikjmhnjlalbaaGreat.app Go.Proofs.YtdikjmhnjlalbaaGreat.mrk
set_option linter.unusedVariables false

/-- A slice of texts that may be written, from block B on. -/
def Wrs (w : World) (B : Nat) (v : Value) (ls : List Bs) : Prop :=
  (ls = [] ∧ ∃ ad cap, v = .slice ad 0 cap) ∨ ∃ g off cap, v = .slice (some ⟨g, off, none⟩) ls.length cap ∧ B ≤ g ∧ g < w.heap.size ∧ (∀ j l, ls[j]? = some l → w.cell? ⟨g, off + j, none⟩ = some (str l)) ∧ ∀ j, j < ls.length → w.frozen? ⟨g, off + j, none⟩ = false

theorem Wrs.rds {w : World} {B : Nat} {v : Value} {ls : List Bs} (h : Wrs w B v ls) : Rds w v ls := by
  rcases h with h | ⟨g, off, cap, e, _, hg, hc, _⟩
  · exact .inl h
  · exact .inr ⟨g, off, cap, e, hg, hc⟩

theorem Strs.wrs {w : World} {B : Nat} {v : Value} {ls : List Bs} (h : Strs w B v ls) : Wrs w B v ls := by
  have h' := h
  obtain ⟨hl, h⟩ := h
  rcases h with ⟨rfl, h⟩ | ⟨g, cap, cur, rfl, hg, hh, hc1, hc2, hc3, hc4⟩
  · exact .inl ⟨List.eq_nil_of_length_eq_zero h, _, _, rfl⟩
  · refine .inr ⟨g, 0, cap, rfl, hg, (World.ownsRow.lt h' g rfl).2, fun j T hj => ?_, fun j hj => ?_⟩
    · have := World.ownsRow.cells h' (g := g) rfl j (str T) (by rw [List.getElem?_map, hj]; rfl)
      rw [Addr.add_lit] at this
      exact this
    · simp [World.frozen?, hh]

/-- All blocks that were there are as they were, but for that of the slice v. -/
structure Aside (v : Value) (w w' : World) : Prop where
  os : w'.os = w.os
  tape : w'.tape = w.tape
  output : w'.output = w.output
  size : w.heap.size ≤ w'.heap.size
  block : ∀ k, k < w.heap.size → v.ownBlock ≠ some k → w'.heap[k]? = w.heap[k]?

theorem Aside.below {v : Value} {w w' : World} {B : Nat} (h : Aside v w w') (hB : B ≤ w.heap.size) (hv : ∀ k, v.ownBlock = some k → B ≤ k) : Below B w w' :=
  ⟨h.os, h.tape, h.output, h.size, fun k hk => h.block k (by omega) (fun e => by have := hv k e; omega)⟩
theorem Aside.refl (v : Value) (w : World) : Aside v w w := ⟨rfl, rfl, rfl, Nat.le_refl _, fun _ _ _ => rfl⟩
theorem Aside.of_only {g : Nat} {v : Value} {w w' : World} (h : Only g w w') (hv : v.ownBlock = some g) : Aside v w w' :=
  ⟨h.os, h.tape, h.output, h.size, fun k hk hne => h.block k hk (fun e => hne (by rw [hv, e]))⟩
theorem Aside.after {v : Value} {w w1 w2 : World} (h : Below w.heap.size w w1) (k : Aside v w1 w2) : Aside v w w2 :=
  ⟨k.os.trans h.os, k.tape.trans h.tape, k.output.trans h.output, Nat.le_trans h.size k.size, fun i hi hne => (k.block i (Nat.lt_of_lt_of_le hi h.size) hne).trans (h.block i hi)⟩

/-- What the marking leaves: of no texts nothing turned. -/
def Marked (v : Value) (ls : List Bs) (w w' : World) : Prop := (ls = [] ∧ Below w.heap.size w w') ∨ (ls ≠ [] ∧ Aside v w w')
theorem Marked.after {v : Value} {ls : List Bs} {w w1 w2 : World} (h : Below w.heap.size w w1) (k : Marked v ls w1 w2) : Marked v ls w w2 := by
  rcases k with ⟨e, k⟩ | ⟨e, k⟩
  · exact .inl ⟨e, h.trans (k.mono h.size)⟩
  · exact .inr ⟨e, Aside.after h k⟩
end Go.Proofs.YtdikjmhnjlalbaaGreat.mrs

/- A slice of texts that came in, read: for the frames of laws. -/
namespace Go.Proofs.YtdikjmhnjlalbaaGreat.frm
open Go.ChangeShapes Go.WideShapes Go.ChangeAt Go.RowKit
open Go.ChangeMaps (open_string shut_string)
open Go.Proofs.YtdikjmhnjlalbaaGreat.tm Go.Proofs.YtdikjmhnjlalbaaGreat.bld Go.Proofs.YtdikjmhnjlalbaaGreat.mrk
set_option linter.unusedVariables false

theorem rds_len {w : World} {v : Value} {ls : List Bs} (h : Rds w v ls) : ∃ a c, v = .slice a ls.length c := by
  rcases h with ⟨rfl, a, c, e⟩ | ⟨g, off, cap, e, _⟩
  · exact ⟨a, c, e⟩
  · exact ⟨_, _, e⟩

theorem open_rds {H : Type} {enc : TypeId × Value → H} {W : World} {ad : Option Addr} {len cap : Nat} {d : DataW H} {p : List MemPlace} (h : DataW.Trod enc Tryz.prog W 0 (fun _ => true) true 24 (.slice ad len cap) d p) :
    ∃ ls : List Bs, len = ls.length ∧ Rds W (.slice ad len cap) ls ∧ len ≤ maxLen ∧ ∀ x ∈ ls, x.length ≤ maxLen := by
  obtain ⟨fuel, hf⟩ := h
  rcases open_strings Tryz.underlying24 Tryz.underlying9 cellsS hf with ⟨hcs, hx⟩ | ⟨a, len', cap', ss, hcs, _, hl, hm, hz, hx, hcell, hws⟩
  · simp [Value.cells] at hcs
    obtain ⟨rfl, rfl, rfl⟩ := hcs
    exact ⟨[], rfl, .inl ⟨rfl, _, _, rfl⟩, Nat.zero_le _, by simp⟩
  · simp [Value.cells] at hcs
    obtain ⟨rfl, rfl, rfl⟩ := hcs
    simp only [if_true] at hz
    have hr : Rds W (.slice (some a) len cap) ((ss.take len).map fun s => s.data.toList) := by
      by_cases hl0 : len = 0
      · subst hl0
        exact .inl ⟨by simp, _, _, rfl⟩
      · obtain ⟨b, off, spot⟩ := a
        have hspot : spot = none := by simpa [Addr.add] using World.cell?_spot (hcell 0 (by omega))
        subst hspot
        have c0 := hcell 0 (by omega)
        have hbW : b < W.heap.size := block_lt_of_cell (by simpa [Addr.add] using c0)
        have hlen : ((ss.take len).map fun s => s.data.toList).length = len := by simp; omega
        refine .inr ⟨b, off, cap, by rw [hlen], hbW, fun j l hj => ?_⟩
        have hj' : j < len := by
          rcases Nat.lt_or_ge j len with h | h
          · exact h
          · rw [List.getElem?_eq_none (by rw [hlen]; exact h)] at hj; cases hj
        have c1 := hcell j (by omega)
        rw [add_plain] at c1
        rw [c1]
        rw [List.getElem?_map, List.getElem?_take_of_lt hj'] at hj
        cases hs : ss[j]? with
        | none => rw [hs] at hj; cases hj
        | some s =>
          rw [hs] at hj
          simp only [Option.map_some, Option.some.injEq] at hj
          subst hj
          have : ss.getD j ByteArray.empty = s := by simp [List.getD, hs]
          rw [this]
    refine ⟨_, by simp; omega, hr, by omega, fun x hx => ?_⟩
    obtain ⟨s, hs, rfl⟩ := List.mem_map.1 hx
    exact hws s (List.mem_of_mem_take hs)
end Go.Proofs.YtdikjmhnjlalbaaGreat.frm

/- Letters as plain data (Lt), and as values. -/
namespace Go.Proofs.YtdikjmhnjlalbaaGreat.ltv
open Go.RowKit Go.Proofs.YtdikjmhnjlalbaaGreat.tm Go.Proofs.YtdikjmhnjlalbaaGreat.bld
set_option linter.unusedVariables false

/-- A letter: kind, from, to, count, parts, macs. -/
structure Lt where
  k : Int
  f : Int
  t : Int
  c : Int
  ps : List Bs
  a : Bs
  b : Bs

def letA (m : Lt) (v : Value) : Array Value := #[.int .i64 m.k, .int .i64 m.f, .int .i64 m.t, .int .i64 m.c, v, str m.a, str m.b]
end Go.Proofs.YtdikjmhnjlalbaaGreat.ltv

/- A letter that came in by value, read: for the frames of laws. -/
namespace Go.Proofs.YtdikjmhnjlalbaaGreat.fml
open Go.ChangeShapes Go.WideShapes Go.ChangeAt Go.RowKit
open Go.Proofs.YtdikjmhnjlalbaaGreat.tm Go.Proofs.YtdikjmhnjlalbaaGreat.bld Go.Proofs.YtdikjmhnjlalbaaGreat.mrk Go.Proofs.YtdikjmhnjlalbaaGreat.ltv
set_option linter.unusedVariables false

theorem cellsL : Tryz.prog.cellsOf 26 = 7 := by kernel_rfl

/-- What is told of a letter that came in. -/
structure LtIn (w : World) (m : Lt) (v : Value) : Prop where
  rds : Rds w v m.ps
  len : m.ps.length ≤ maxLen
  each : ∀ x ∈ m.ps, x.length ≤ maxLen
  a : m.a.length ≤ maxLen
  b : m.b.length ≤ maxLen

theorem LtIn.below {w w' : World} {m : Lt} {v : Value} (h : LtIn w m v) (k : Below w.heap.size w w') : LtIn w' m v := ⟨Rds.below h.rds k, h.len, h.each, h.a, h.b⟩

theorem bs_of (s : ByteArray) : Value.string s = str s.data.toList := by simp [str]

set_option maxRecDepth 100000 in
theorem open_letter {H : Type} {enc : TypeId × Value → H} {W : World} {base : Nat} {v : Value} {d : DataW H} {p : List MemPlace}
    (hv : Value.okWide Tryz.prog W .any base 26 v) (h : DataW.Trod enc Tryz.prog W 0 (fun _ => true) true 26 v d p) :
    ∃ (m : Lt) (sv : Value), v = .agg (letA m sv) ∧ LtIn W m sv := by
  obtain ⟨cs, rfl, hsz⟩ := okWide_struct Tryz.underlying26 hv
  obtain ⟨l⟩ := cs
  have hl : l.length = 7 := hsz.trans cellsL
  obtain ⟨fuel, hf⟩ := h
  obtain ⟨xs, n, _, hx, _, hlen, hg⟩ := DataW.trod_struct Tryz.underlying26 hf
  match l, hl with
  | [c0, c1, c2, c3, c4, c5, c6], _ =>
    match xs, hlen with
    | [y0, y1, y2, y3, y4, y5, y6], _ =>
      have k2 : Tryz.prog.cellsOf 2 = 1 := by kernel_rfl
      have k22 : Tryz.prog.cellsOf 24 = 1 := by kernel_rfl
      have h0 : DataW.trod enc Tryz.prog W 0 (fun _ => true) true n 2 [c0] = some y0 := by simpa [Value.cells, k2] using hg 0 _ rfl
      have h1 : DataW.trod enc Tryz.prog W 0 (fun _ => true) true n 2 [c1] = some y1 := by simpa [Value.cells, k2] using hg 1 _ rfl
      have h2 : DataW.trod enc Tryz.prog W 0 (fun _ => true) true n 2 [c2] = some y2 := by simpa [Value.cells, k2] using hg 2 _ rfl
      have h3 : DataW.trod enc Tryz.prog W 0 (fun _ => true) true n 2 [c3] = some y3 := by simpa [Value.cells, k2] using hg 3 _ rfl
      have h4 : DataW.trod enc Tryz.prog W 0 (fun _ => true) true n 24 [c4] = some y4 := by simpa [Value.cells, k22] using hg 4 _ rfl
      have h5 : DataW.trod enc Tryz.prog W 0 (fun _ => true) true n 9 [c5] = some y5 := by simpa [Value.cells, frm.cellsS] using hg 5 _ rfl
      have h6 : DataW.trod enc Tryz.prog W 0 (fun _ => true) true n 9 [c6] = some y6 := by simpa [Value.cells, frm.cellsS] using hg 6 _ rfl
      obtain ⟨n0, e0, _, _⟩ := DataW.trod_int Tryz.underlying2 h0
      obtain ⟨n1, e1, _, _⟩ := DataW.trod_int Tryz.underlying2 h1
      obtain ⟨n2, e2, _, _⟩ := DataW.trod_int Tryz.underlying2 h2
      obtain ⟨n3, e3, _, _⟩ := DataW.trod_int Tryz.underlying2 h3
      obtain ⟨s5, e5, _, w5⟩ := DataW.trod_string Tryz.underlying9 h5
      obtain ⟨s6, e6, _, w6⟩ := DataW.trod_string Tryz.underlying9 h6
      simp only [List.cons.injEq, and_true] at e0 e1 e2 e3 e5 e6
      have h4' : ∃ ad len cap, c4 = .slice ad len cap := by
        rcases open_strings Tryz.underlying24 Tryz.underlying9 frm.cellsS h4 with ⟨e, _⟩ | ⟨a, len, cap, ss, e, _⟩
        · simp only [List.cons.injEq, and_true] at e; exact ⟨_, _, _, e⟩
        · simp only [List.cons.injEq, and_true] at e; exact ⟨_, _, _, e⟩
      obtain ⟨ad, len, cap, e4⟩ := h4'
      subst e4
      obtain ⟨ls, hn, hr, hm, hw⟩ := frm.open_rds (W := W) (d := y4.1) (p := y4.2) ⟨n, by simpa [Value.cells] using h4⟩
      subst hn
      refine ⟨⟨n0, n1, n2, n3, ls, s5.data.toList, s6.data.toList⟩, .slice ad ls.length cap, ?_, hr, hm, hw, w5, w6⟩
      rw [e0, e1, e2, e3, e5, e6, bs_of s5, bs_of s6]
      rfl
end Go.Proofs.YtdikjmhnjlalbaaGreat.fml
