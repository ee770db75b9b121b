/- Small laws of my own: rows of bytes that a call makes itself; strings made of them; a bool or a number handed back. -/
import Derived.Test.YtonjohlecomeoaaGreatChecked
import Derived.WalkKit
import Derived.BigGuardPart
import Derived.Lib.Hide
import Derived.Laws.BytesArg
import Derived.Laws.BitsLemmas
import Derived.Laws.Bits64
namespace Go.Proofs.YtonjohlecomeoaaGreat.lib
open Go.RowKit
set_option linter.unusedVariables false

theorem ret_bool {a b : Bool} (h : a = b) : Ending.returned (.bool a) = .returned (.bool b) := by rw [h]
theorem ret_int {k : IntKind} {a b : Int} (h : a = b) : Ending.returned (.int k a) = .returned (.int k b) := by rw [h]
theorem ret_str {a b : ByteArray} (h : a = b) : Ending.returned (.string a) = .returned (.string b) := by rw [h]

theorem isEmpty_eq (s : ByteArray) : s.toList.isEmpty = decide (s.size < 1) := by
  rw [ByteArray.toList_eq]
  rcases s with ⟨⟨l⟩⟩
  cases l with
  | nil => rfl
  | cons a l => simp [ByteArray.size]

theorem getD_at (s : ByteArray) (k : Nat) (h : k < s.size) : s.data.toList.getD k 0 = s[k] := by
  have h' : k < s.data.toList.length := by simpa using h
  rw [List.getD_eq_getElem?_getD, List.getElem?_eq_getElem h']; rfl

/-- s[q:q+m], as an equation. -/
theorem run_cut (s : ByteArray) (q m : Nat) (h : q + m ≤ s.size) (w : World) :
    (Instr.slice 9 (.string s) (some (.int .i64 (q : Int))) (some (.int .i64 ((q : Int) + (m : Int)))) none).run Tryz.prog w = .ok (.string (s.extract q (q + m))) w := by
  have := run_slice_string (P := Tryz.prog) (w := w) 9 s .i64 .i64 (q : Int) ((q : Int) + (m : Int)) Tryz.underlying9 (by omega) (by omega) (by omega)
  rw [this, show ((q : Int) + (m : Int)).toNat = q + m from by omega, Int.toNat_natCast]

theorem infoE : (Tryz.prog.info? 5).map (fun i => (i.zero, i.size, i.bytes)) = some (some (.int .u8 0), 1, 1) := by kernel_rfl

/-- The slice value v holds the bytes l, in a row that the call itself made (from block B on). -/
def B8 (w : World) (B : Nat) (v : Value) (l : List UInt8) : Prop :=
  w.ownsRow B 5 1 v l.length (l.map fun b => Value.int .u8 b.toNat)

theorem B8.nil (w : World) (B : Nat) : B8 w B (.slice none 0 0) [] := World.ownsRow_nil _ _ _ _
theorem B8.alloc {w : World} {B : Nat} {v : Value} {l : List UInt8} (h : B8 w B v l) (o : Obj) : B8 (w.alloc o) B v l := World.ownsRow.alloc h o
theorem B8.drew {w : World} {B : Nat} {v : Value} {l : List UInt8} (h : B8 w B v l) : B8 w.drew B v l := h
/-- An empty slice literal: a new row of no cells. -/
theorem B8.empty (w : World) (B : Nat) (h : B ≤ w.heap.size) : B8 (w.alloc (.cells #[] 5)) B (.slice (some ⟨w.heap.size, 0, none⟩) 0 0) [] :=
  World.ownsRow_made (size := 1) w #[] 0 h (by decide) (by simp)

theorem below_cell {B : Nat} {w : World} : Below B w w := Below.refl _ _

section
variable {w : World} {ops : Array Oper} {rest : List Oper} {o : Oper} {a : Act} {Q : Exit → Act → World → Prop}

set_option maxRecDepth 100000 in
/-- append of a row of new bytes to a row of the call's own. -/
theorem wp_put (s x : Operand) (ad : Addr) (m c : Nat) (new : List UInt8) (B : Nat) (v : Value) (l : List UInt8) (hgd : o.guard = none)
    (ho : o.op = .call { callee := .builtin .append, args := #[s, x], argTypes := #[44, 44] })
    (hs : a.eval s = v) (hown : B8 w B v l)
    (hx : a.eval x = .slice (some ad) m c) (hm : new.length = m) (hnews : ∀ j u, (new.map fun b => Value.int .u8 b.toNat)[j]? = some u → w.cell? (ad.add j) = some u)
    (hl : l.length + m ≤ 140737488355328) (hB : B ≤ w.heap.size)
    (h : ∀ v' w', B8 w' B v' (l ++ new) → Below B w w' → wpList Tryz.prog ops Q rest (a.put o.dst v') w') : wpList Tryz.prog ops Q (o :: rest) a w := by
  obtain ⟨i0, hi, hz0, hz1, hz2⟩ := info_parts infoE
  refine wpList_append_own w hgd s x 44 ho B 5 i0 (.int .u8 0) 1 1 Tryz.underlying44 hi hz0 hz1 hz2 rfl (by decide) v l.length _ hs hown ad m c (new.map fun b => Value.int .u8 b.toNat) hx (by simpa using hm) hnews ?_ ?_ ?_ hB ?_
  · intro u hu
    obtain ⟨b, _, rfl⟩ := List.mem_map.1 hu
    rfl
  · unfold maxLen; omega
  · omega
  · intro v' w' h1 h2 _
    refine h v' w' ?_ ((Below.refl B w).grown h2 hB fun k hk => (World.ownsRow.lt hown k hk).1)
    unfold B8
    rw [List.map_append, List.length_append, hm]
    exact h1

set_option maxRecDepth 100000 in
/-- append of one new byte: the walk has laid it in a block of one cell, the newest one. -/
theorem wp_put1 (s x : Operand) (X : Int) (b : UInt8) (B : Nat) (v : Value) (l : List UInt8) (hgd : o.guard = none)
    (ho : o.op = .call { callee := .builtin .append, args := #[s, x], argTypes := #[44, 44] })
    (hs : a.eval s = v) (hown : B8 w B v l)
    (hx : a.eval x = .slice (some ⟨w.heap.size, 0, none⟩) 1 1) (hX : X = (b.toNat : Int))
    (hl : l.length + 1 ≤ 140737488355328) (hB : B ≤ w.heap.size)
    (h : ∀ v' w', B8 w' B v' (l ++ [b]) → Below B w w' → wpList Tryz.prog ops Q rest (a.put o.dst v') w') :
    wpList Tryz.prog ops Q (o :: rest) a (w.alloc (.cells #[.int .u8 X] 5)) := by
  refine wp_put s x ⟨w.heap.size, 0, none⟩ 1 1 [b] B v l hgd ho hs (hown.alloc _) hx rfl ?_ hl (by simp; omega) fun v' w' h1 h2 => h v' w' h1 (((Below.refl B w).alloc hB _).trans h2)
  intro j u hj
  match j, hj with
  | 0, hj =>
    simp at hj
    subst hj
    rw [hX]
    simp [Addr.add]
  | j + 1, hj => simp at hj

set_option maxRecDepth 100000 in
/-- string(b) of a row of the call's own. -/
theorem wp_str (x : Operand) (B : Nat) (v : Value) (l : List UInt8) (hgd : o.guard = none) (ho : o.op = .convert 44 9 x) (hs : a.eval x = v) (hown : B8 w B v l)
    (h : wpList Tryz.prog ops Q rest (a.put o.dst (.string ⟨l.toArray⟩)) w) : wpList Tryz.prog ops Q (o :: rest) a w := by
  refine wpList_plain hgd fun K hK => ?_
  have hrun : (convert 44 9 v).run Tryz.prog w = .ok (.string ⟨l.toArray⟩) w := by
    rcases hown.2 with ⟨rfl, hn⟩ | ⟨g, cap, cur, rfl, hb, hg, hc⟩
    · have : l = [] := List.eq_nil_of_length_eq_zero hn
      subst this
      exact run_convert_bytes_nil w 44 5 Tryz.underlying44 Tryz.underlying5 0 0 _ Tryz.underlying9
    · have := run_convert_bytes_arg (P := Tryz.prog) w 44 5 Tryz.underlying44 Tryz.underlying5 g 0 l.length cap (l.map fun b => (b.toNat : Int)) (by simp) (fun i hi => by
        have := World.ownsRow.cells hown (g := g) rfl i (.int .u8 (l[i].toNat)) (by simp [hi])
        have e : (⟨g, 0, none⟩ : Addr).add i = ⟨g, 0 + i, none⟩ := by rw [Addr.add_lit]
        rw [e] at this
        simpa [List.getD, hi] using this) 9 Tryz.underlying9
      rw [this]
      congr 3
      simp [strOfNums, Function.comp_def]
  unfold Oper.wp
  simp [execOp, ho, hs, hrun, Result.andThen]
  exact hK _ _ h

/-- The same as an equation, for a guarded operation. -/
theorem run_strAt {w : World} (g off n cap : Nat) (l : List UInt8) (hn : l.length = n) (hcell : ∀ i (h : i < l.length), w.cell? ⟨g, off + i, none⟩ = some (.int .u8 (l[i].toNat))) :
    (convert 44 9 (.slice (some ⟨g, off, none⟩) n cap)).run Tryz.prog w = .ok (.string ⟨l.toArray⟩) w := by
  have hrun := run_convert_bytes_arg (P := Tryz.prog) w 44 5 Tryz.underlying44 Tryz.underlying5 g off n cap (l.map fun b => (b.toNat : Int)) (by simpa using hn) (fun i hi => by
    have := hcell i (by omega)
    simpa [List.getD, show i < l.length by omega] using this) 9 Tryz.underlying9
  have e : strOfNums (l.map fun b => (b.toNat : Int)) = ⟨l.toArray⟩ := by simp [strOfNums, Function.comp_def]
  rw [e] at hrun
  exact hrun

set_option maxRecDepth 100000 in
/-- string(x[..]) of bytes that lie somewhere. -/
theorem wp_strAt (x : Operand) (g off n cap : Nat) (l : List UInt8) (hgd : o.guard = none) (ho : o.op = .convert 44 9 x) (hs : a.eval x = .slice (some ⟨g, off, none⟩) n cap)
    (hn : l.length = n) (hcell : ∀ i (h : i < l.length), w.cell? ⟨g, off + i, none⟩ = some (.int .u8 (l[i].toNat)))
    (h : wpList Tryz.prog ops Q rest (a.put o.dst (.string ⟨l.toArray⟩)) w) : wpList Tryz.prog ops Q (o :: rest) a w := by
  refine wpList_plain hgd fun K hK => ?_
  have hrun := run_convert_bytes_arg (P := Tryz.prog) w 44 5 Tryz.underlying44 Tryz.underlying5 g off n cap (l.map fun b => (b.toNat : Int)) (by simpa using hn) (fun i hi => by
    have := hcell i (by omega)
    simpa [List.getD, show i < l.length by omega] using this) 9 Tryz.underlying9
  have e : strOfNums (l.map fun b => (b.toNat : Int)) = ⟨l.toArray⟩ := by simp [strOfNums, Function.comp_def]
  rw [e] at hrun
  unfold Oper.wp
  simp [execOp, ho, hs, hrun, Result.andThen]
  exact hK _ _ h
end
end Go.Proofs.YtonjohlecomeoaaGreat.lib
