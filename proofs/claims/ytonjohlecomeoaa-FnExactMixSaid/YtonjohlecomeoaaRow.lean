/- Small laws of my own: a block of bytes that the call makes by make and fills by copy; join. -/
import Derived.Test.YtonjohlecomeoaaLib
import Derived.Laws.CopyOwn
import Derived.Laws.MakeOwn
import Derived.Laws.OwnMore
import Derived.Lib.BufferWrite
namespace Go.Proofs.Ytonjohlecomeoaa.row
open Go.RowKit Go.Proofs.Ytonjohlecomeoaa.lib
set_option linter.unusedVariables false

def u8s (l : List UInt8) : List Value := l.map fun b => Value.int .u8 b.toNat
/-- Block g holds the bytes l, and no more. -/
def Row (w : World) (g : Nat) (l : List UInt8) : Prop := w.heap[g]? = some (.cells (u8s l).toArray 5 (0, 0))

theorem Row.own {w : World} {g B : Nat} {l : List UInt8} (h : Row w g l) (hB : B ≤ g) (hl : l.length ≤ maxLen) : B8 w B (.slice (some ⟨g, 0, none⟩) l.length l.length) l := by
  refine ⟨by simp, .inr ⟨g, l.length, (u8s l).toArray, rfl, hB, h, Nat.le_refl _, hl, by simp [u8s], ?_⟩⟩
  rw [List.toList_toArray, List.take_of_length_le (by simp [u8s])]
  rfl

section
variable {w : World} {ops : Array Oper} {rest : List Oper} {o : Oper} {a : Act} {Q : Exit → Act → World → Prop}

set_option maxRecDepth 100000 in
theorem wp_make (l c : Operand) (n : Nat) (kl kc : IntKind) (L C : Int) (hgd : o.guard = none) (ho : o.op = Op.makeSlice 24 l c)
    (hl : a.eval l = .int kl L) (hc : a.eval c = .int kc C) (hL : L = (n : Int)) (hC : C = (n : Int)) (hn : n ≤ 281474976710656)
    (h : ∀ w', Row w' w.heap.size (List.replicate n 0) → Below w.heap.size w w' → w'.heap.size = w.heap.size + 1 →
      wpList Try.prog ops Q rest (a.put o.dst (.slice (some ⟨w.heap.size, 0, none⟩) n n)) w') : wpList Try.prog ops Q (o :: rest) a w := by
  obtain ⟨i0, hi, hz0, hz1, hz2⟩ := info_parts infoE
  refine wpList_plain hgd fun K hK => ?_
  subst hL
  subst hC
  have hrun := run_make (P := Try.prog) w 24 5 i0 (.int .u8 0) Try.underlying24 hi hz0 kl kc n n (by omega) (by omega) (by rw [hz2]; omega) (by omega)
  simp only [Int.toNat_natCast, hz1, Nat.mul_one] at hrun
  unfold Oper.wp
  simp [execOp, ho, hl, hc, hrun, Result.andThen]
  refine hK _ _ (h _ ?_ ((Below.refl _ _).alloc (Nat.le_refl _) _) (by simp))
  unfold Row
  rw [heap_alloc_new]
  have e : madeCells (Value.int .u8 0).cells n = (u8s (List.replicate n 0)).toArray := by
    apply Array.toList_inj.1
    show (madeCells #[Value.int .u8 0] n).toList = _
    rw [toList_madeCells_one]
    simp [u8s]
  rw [e]

set_option maxRecDepth 100000 in
theorem wp_copyS (d s : Operand) (g off dLen dCap : Nat) (ao : Option Addr) (l : List UInt8) (b : ByteArray) (B : Nat) (hgd : o.guard = none)
    (ho : o.op = .call { callee := .builtin .copy, args := #[d, s], argTypes := #[24, 9] })
    (hd : a.eval d = .slice ao dLen dCap) (hs : a.eval s = .string b) (hao : 0 < b.size → ao = some ⟨g, off, none⟩) (hrow : Row w g l) (hle : b.size ≤ dLen) (hfit : off + b.size ≤ l.length) (hB : B ≤ g)
    (h : ∀ w', Row w' g (l.take off ++ (b.data.toList ++ l.drop (off + b.size))) → Below B w w' → w'.heap.size = w.heap.size → wpList Try.prog ops Q rest (a.put o.dst (goInt b.size)) w') :
    wpList Try.prog ops Q (o :: rest) a w := by
  have hsz : (Try.prog.info? 5).map (·.size) = some 1 := by
    obtain ⟨i0, hi, hz0, hz1, hz2⟩ := info_parts infoE
    rw [hi]
    simpa using hz1
  refine wpList_plain hgd fun K hK => ?_
  by_cases h0 : b.size = 0
  · have hrun := Lib.run_copy_empty_string (P := Try.prog) w 24 9 o.type 5 ao dLen dCap b Try.underlying24 (by simp [hsz]) h0
    unfold Oper.wp execOp
    simp only [ho, resolve, invoke, builtin, Sem.run_bind, Sem.run_pure, Result.andThen_ok, List.map_toArray, List.map_cons, List.map_nil, hd, hs, hrun]
    have e : b.data.toList = [] := List.eq_nil_of_length_eq_zero (by simpa using h0)
    have := h w (by rw [e, h0]; simpa using hrow) (Below.refl _ _) rfl
    rw [h0] at this
    exact hK _ _ this
  · obtain rfl := hao (by omega)
    have hrun := Lib.run_copy_row_string (P := Try.prog) w 24 9 o.type 5 g off dLen dCap b (u8s l).toArray 5 Try.underlying24 hsz hrow hle (by simpa [u8s] using hfit)
    unfold Oper.wp execOp
    simp only [ho, resolve, invoke, builtin, Sem.run_bind, Sem.run_pure, Result.andThen_ok, List.map_toArray, List.map_cons, List.map_nil, hd, hs, hrun]
    refine hK _ _ (h _ ?_ (below_setRow (Below.refl _ _) hB _) (by simp))
    unfold Row
    rw [setRow_heap w g _ _ _ _ hrow]
    congr 3
    simp [u8s, Lib.byteCells, List.map_take, List.map_drop]
end

set_option maxRecDepth 100000 in
theorem wp_strRow {w : World} {ops : Array Oper} {rest : List Oper} {o : Oper} {a : Act} {Q : Exit → Act → World → Prop} (x : Operand) (g n : Nat) (l : List UInt8) (hgd : o.guard = none) (ho : o.op = .convert 24 9 x)
    (hs : a.eval x = .slice (some ⟨g, 0, none⟩) n n) (hrow : Row w g l) (hn : l.length = n) (hm : n ≤ 1000000000)
    (h : wpList Try.prog ops Q rest (a.put o.dst (.string ⟨l.toArray⟩)) w) : wpList Try.prog ops Q (o :: rest) a w := by
  subst hn
  exact wp_str x g _ l hgd ho hs (hrow.own (Nat.le_refl _) (by unfold maxLen; omega)) h

theorem append_data (x y : ByteArray) : (⟨(x.data.toList ++ y.data.toList).toArray⟩ : ByteArray) = x ++ y := by
  apply ByteArray.ext
  apply Array.toList_inj.1
  simp

theorem empty_list : ByteArray.empty.data.toList = [] := rfl

theorem join_one (n : Nat) (x : List UInt8) (k : Nat) (hx : x.length = k) (hn : n = k) :
    (List.replicate n (0 : UInt8)).take 0 ++ (x ++ (List.replicate n (0 : UInt8)).drop (0 + k)) = x := by
  subst hn
  simp

theorem join_two (x y : List UInt8) (k m : Nat) (hx : x.length = k) (hy : y.length = m) :
    ((List.replicate (k + m) (0 : UInt8)).take 0 ++ (x ++ (List.replicate (k + m) (0 : UInt8)).drop (0 + k))).take k ++
      (y ++ ((List.replicate (k + m) (0 : UInt8)).take 0 ++ (x ++ (List.replicate (k + m) (0 : UInt8)).drop (0 + k))).drop (k + m)) = x ++ y := by
  subst hx
  subst hy
  simp

end Go.Proofs.Ytonjohlecomeoaa.row
