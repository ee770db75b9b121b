/- A limit that came in by value, read: for the frames of laws. -/
import Derived.Test.YtdikjmhnjlalbaaFm0
namespace Go.Proofs.Ytdikjmhnjlalbaa.fmg
open Go.ChangeShapes Go.WideShapes Go.ChangeAt Go.RowKit
open Go.Proofs.Ytdikjmhnjlalbaa.tm Go.Proofs.Ytdikjmhnjlalbaa.bld Go.Proofs.Ytdikjmhnjlalbaa.gdp Go.Proofs.Ytdikjmhnjlalbaa.rbk
set_option linter.unusedVariables false

theorem cellsM : Try.prog.cellsOf 31 = 3 := by kernel_rfl
theorem cellsB : Try.prog.cellsOf 94 = 3 := by kernel_rfl
theorem cellsBS : Try.prog.cellsOf 29 = 1 := by kernel_rfl
/-- What is told of a limit that came in. -/
structure LmIn (w : World) (rate burst : Int) (v : Value) (l : List Bk) : Prop where
  rbk : Rbk w v l
  len : l.length ≤ maxLen
  each : ∀ b ∈ l, b.st.length ≤ maxLen ∧ -9223372036854775808 ≤ b.left ∧ b.left ≤ 9223372036854775807 ∧ -9223372036854775808 ≤ b.at_ ∧ b.at_ ≤ 9223372036854775807
  r1 : -9223372036854775808 ≤ rate
  r2 : rate ≤ 9223372036854775807
  b1 : -9223372036854775808 ≤ burst
  b2 : burst ≤ 9223372036854775807
theorem LmIn.below {w w' : World} {rate burst : Int} {v : Value} {l : List Bk} (h : LmIn w rate burst v l) (k : Below w.heap.size w w') : LmIn w' rate burst v l :=
  ⟨h.rbk.below k, h.len, h.each, h.r1, h.r2, h.b1, h.b2⟩
instance : Inhabited Bk := ⟨⟨[], 0, 0⟩⟩
def okB (b : Bk) : Prop := b.st.length ≤ maxLen ∧ -9223372036854775808 ≤ b.left ∧ b.left ≤ 9223372036854775807 ∧ -9223372036854775808 ≤ b.at_ ∧ b.at_ ≤ 9223372036854775807
set_option maxRecDepth 100000 in
theorem open_bucket {H : Type} {enc : TypeId × Value → H} {W : World} {n : Nat} {cs : List Value} {y : DataW H × List MemPlace} {a : Addr}
    (h1 : W.cells? 0 a 3 = some cs) (h : DataW.trod enc Try.prog W 0 (fun _ => true) true n 94 cs = some y) :
    ∃ b : Bk, okB b ∧ W.cell? a = some (str b.st) ∧ W.cell? (a.add 1) = some (.int .i64 b.left) ∧ W.cell? (a.add 2) = some (.int .i64 b.at_) := by
  obtain ⟨_, hlen, hcell⟩ := World.cells?_some h1
  obtain ⟨xs, k, _, _, _, hxl, hf⟩ := DataW.trod_struct Try.underlying94 h
  match cs, hlen, xs, hxl with
  | [c0, c1, c2], _, [y0, y1, y2], _ =>
    have h0 : DataW.trod enc Try.prog W 0 (fun _ => true) true k 9 [c0] = some y0 := by simpa [Value.cells, frm.cellsS] using hf 0 _ rfl
    have h1 : DataW.trod enc Try.prog W 0 (fun _ => true) true k 2 [c1] = some y1 := by simpa [Value.cells, cellsI] using hf 1 _ rfl
    have h2 : DataW.trod enc Try.prog W 0 (fun _ => true) true k 2 [c2] = some y2 := by simpa [Value.cells, cellsI] using hf 2 _ rfl
    obtain ⟨s0, e0, _, w0⟩ := DataW.trod_string Try.underlying9 h0
    obtain ⟨n1, e1, _, i1⟩ := DataW.trod_int Try.underlying2 h1
    obtain ⟨n2, e2, _, i2⟩ := DataW.trod_int Try.underlying2 h2
    simp only [List.cons.injEq, and_true] at e0 e1 e2
    have j1 := bounds i1
    have j2 := bounds i2
    have q0 := hcell 0 (by omega)
    have q1 := hcell 1 (by omega)
    have q2 := hcell 2 (by omega)
    refine ⟨⟨s0.data.toList, n1, n2⟩, ⟨w0, j1.1, j1.2, j2.1, j2.2⟩, ?_, ?_, ?_⟩
    · rw [← bs_of s0, ← e0]; simpa [Addr.add] using q0
    · rw [← e1]; simpa using q1
    · rw [← e2]; simpa using q2
theorem open_rbk {H : Type} {enc : TypeId × Value → H} {W : World} {ad : Option Addr} {len cap : Nat} {d : DataW H} {p : List MemPlace} (h : DataW.Trod enc Try.prog W 0 (fun _ => true) true 29 (.slice ad len cap) d p) :
    ∃ l : List Bk, len = l.length ∧ Rbk W (.slice ad len cap) l ∧ len ≤ maxLen ∧ ∀ b ∈ l, okB b := by
  obtain ⟨fuel, hf⟩ := h
  rcases Deep.open_slice Try.underlying29 hf with ⟨hcs, hx⟩ | ⟨a, len', cap', m, n, D, Pl, hcs, _, hl, hm, hmm, _, hx⟩
  · simp [Value.cells] at hcs
    obtain ⟨rfl, rfl, rfl⟩ := hcs
    exact ⟨[], rfl, .inl ⟨rfl, _, _, rfl⟩, Nat.zero_le _, by simp⟩
  · simp [Value.cells] at hcs
    obtain ⟨rfl, rfl, rfl⟩ := hcs
    simp only [if_true] at hmm
    rw [cellsB] at hx
    have each : ∀ i, i < len → ∃ b' : Bk, okB b' ∧ W.cell? (a.add (i * 3)) = some (str b'.st) ∧ W.cell? ((a.add (i * 3)).add 1) = some (.int .i64 b'.left) ∧ W.cell? ((a.add (i * 3)).add 2) = some (.int .i64 b'.at_) := fun i hi => by
      obtain ⟨cs', h1, h2⟩ := hx i (by omega)
      exact open_bucket h1 h2
    obtain ⟨F, hF⟩ := Deep.choose_lt each
    have hlen : ((List.range len).map F).length = len := by simp
    refine ⟨(List.range len).map F, hlen.symm, ?_, by omega, ?_⟩
    · by_cases hl0 : len = 0
      · subst hl0
        exact .inl ⟨by simp, _, _, rfl⟩
      · obtain ⟨b, off, spot⟩ := a
        obtain ⟨_, c0, _⟩ := hF 0 (by omega)
        have hspot : spot = none := by simpa [Addr.add] using World.cell?_spot c0
        subst hspot
        have hbW : b < W.heap.size := block_lt_of_cell (by simpa [Addr.add] using c0)
        refine .inr ⟨b, off, cap, by rw [hlen], hbW, fun j k hj => ?_⟩
        have hj' : j < len := by
          have := (List.getElem?_eq_some_iff.1 hj).1
          rw [hlen] at this; exact this
        rw [List.getElem?_map, List.getElem?_range hj'] at hj
        simp at hj
        subst hj
        obtain ⟨_, q0, q1, q2⟩ := hF j hj'
        rw [Deep.add_add] at q1 q2
        rw [add_plain] at q0 q1 q2
        exact ⟨q0, by simpa [Nat.add_assoc] using q1, by simpa [Nat.add_assoc] using q2⟩
    · intro b hb
      obtain ⟨i, hi, rfl⟩ := List.mem_map.1 hb
      exact (hF i (by simpa using hi)).1
set_option maxRecDepth 100000 in
theorem open_limit {H : Type} {enc : TypeId × Value → H} {W : World} {base : Nat} {v : Value} {d : DataW H} {p : List MemPlace}
    (hv : Value.okWide Try.prog W .any base 31 v) (h : DataW.Trod enc Try.prog W 0 (fun _ => true) true 31 v d p) :
    ∃ (rate burst : Int) (sv : Value) (l : List Bk), v = .agg (lmA rate burst sv) ∧ LmIn W rate burst sv l := by
  obtain ⟨cs, rfl, hsz⟩ := okWide_struct Try.underlying31 hv
  obtain ⟨l⟩ := cs
  have hl : l.length = 3 := hsz.trans cellsM
  obtain ⟨fuel, hf⟩ := h
  obtain ⟨xs, n, _, hx, _, hlen, hg⟩ := DataW.trod_struct Try.underlying31 hf
  match l, hl with
  | [c0, c1, c2], _ =>
    match xs, hlen with
    | [y0, y1, y2], _ =>
      have h0 : DataW.trod enc Try.prog W 0 (fun _ => true) true n 2 [c0] = some y0 := by simpa [Value.cells, cellsI] using hg 0 _ rfl
      have h1 : DataW.trod enc Try.prog W 0 (fun _ => true) true n 2 [c1] = some y1 := by simpa [Value.cells, cellsI] using hg 1 _ rfl
      have h2 : DataW.trod enc Try.prog W 0 (fun _ => true) true n 29 [c2] = some y2 := by simpa [Value.cells, cellsBS] using hg 2 _ rfl
      obtain ⟨n0, e0, _, i0⟩ := DataW.trod_int Try.underlying2 h0
      obtain ⟨n1, e1, _, i1⟩ := DataW.trod_int Try.underlying2 h1
      simp only [List.cons.injEq, and_true] at e0 e1
      have j0 := bounds i0
      have j1 := bounds i1
      have h2' : ∃ ad len cap, c2 = .slice ad len cap := by
        rcases Deep.open_slice Try.underlying29 h2 with ⟨e, _⟩ | ⟨a, len, cap, _, _, _, _, e, _⟩
        · simp only [List.cons.injEq, and_true] at e; exact ⟨_, _, _, e⟩
        · simp only [List.cons.injEq, and_true] at e; exact ⟨_, _, _, e⟩
      obtain ⟨ad, len, cap, e2⟩ := h2'
      subst e2
      obtain ⟨ls, hn, hr, hm, hw⟩ := open_rbk (W := W) (d := y2.1) (p := y2.2) ⟨n, by simpa [Value.cells] using h2⟩
      subst hn
      refine ⟨n0, n1, .slice ad ls.length cap, ls, ?_, hr, hm, hw, j0.1, j0.2, j1.1, j1.2⟩
      rw [e0, e1]
      rfl
end Go.Proofs.Ytdikjmhnjlalbaa.fmg
