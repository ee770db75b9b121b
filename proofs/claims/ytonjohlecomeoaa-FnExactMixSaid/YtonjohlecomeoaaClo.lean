/- Contracts: strings.Clone. -/
import Derived.Test.YtonjohlecomeoaaRow
import Derived.Lib.UnsafeStr
import Derived.Lib.QuietBelow
namespace Go.Proofs.Ytonjohlecomeoaa.clo
open Go.RowKit Go.Proofs.Ytonjohlecomeoaa.lib Go.Proofs.Ytonjohlecomeoaa.row
set_option linter.unusedVariables false

theorem clone0 (s : ByteArray) (h : s.size = 0) : s = ByteArray.empty := by
  apply ByteArray.ext
  exact Array.eq_empty_of_size_eq_zero h

set_option maxRecDepth 100000 in
theorem wp_unsafeStr {w : World} {ops : Array Oper} {rest : List Oper} {o : Oper} {a : Act} {Q : Exit → Act → World → Prop} (p n : Operand) (g : Nat) (l : List UInt8) (N : Int) (B : Nat) (hgd : o.guard = none)
    (ho : o.op = .call { callee := .builtin .unsafeString, args := #[p, n], argTypes := #[95, 3] })
    (hp : a.eval p = .pointer (some ⟨g, 0, none⟩)) (hn : a.eval n = .int .i64 N) (hN : N = (l.length : Int)) (h0 : l ≠ []) (hrow : Row w g l) (hm : l.length ≤ 1000000000) (hB : B ≤ g)
    (h : ∀ w', Below B w w' → wpList Try.prog ops Q rest (a.put o.dst (.string ⟨l.toArray⟩)) w') : wpList Try.prog ops Q (o :: rest) a w := by
  refine wpList_plain hgd fun K hK => ?_
  subst hN
  have hco : Try.prog.cellsOf 5 = 1 := by kernel_rfl
  have hrun := Lib.run_unsafeString_row (P := Try.prog) w 95 3 o.type 5 Try.underlying95 hco g (u8s l).toArray.size (by unfold World.shape?; rw [hrow]) l h0 (by simp [u8s]) (by omega)
    (fun j x hx => by
      have hj : j < l.length := (List.getElem?_eq_some_iff.1 hx).1
      rw [Addr.add_lit, Nat.zero_add, cell_of_row _ g j _ 5 (0, 0) hrow]
      simp [u8s, hx])
  unfold Oper.wp execOp
  simp only [ho, resolve, invoke, builtin, Sem.run_bind, Sem.run_pure, Result.andThen_ok, List.map_toArray, List.map_cons, List.map_nil, hp, hn, hrun]
  exact hK _ _ (h _ (Lib.below_freeze (Below.refl _ _) (p := ⟨g, 0, none⟩) hB _))

set_option maxRecDepth 100000 in
theorem sliteClone_calls (s : ByteArray) (hs : s.size ≤ 1000000) (w : World) :
    Calls Try.prog 48 #[.string s] w fun e w' => e = .returned (.string s) ∧ Below w.heap.size w w' := by
  by_cases h0 : s.size = 0
  · obtain rfl := clone0 s h0
    go_enter Try.func48, Try.ntmps48
    go_wp2
    go_ret
    exact ⟨rfl, Below.refl _ _⟩
  · have hb0 : ((s.size : Int) == 0) = false := by rw [beq_eq_false_iff_ne]; omega
    have hp : 0 < s.size := by omega
    have hne := Lib.hid (show s.data.toList ≠ [] from fun e => h0 (by have := congrArg List.length e; simpa using this))
    clear h0
    go_enter Try.func48, Try.ntmps48
    go_wp2_with (first
      | (at_make; refine wp_make (.tmp 8) (.tmp 8) s.size .i64 .i64 _ _ rfl rfl rfl rfl rfl rfl (by omega) ?_; intro w1 hr1 hb1 hz1)
      | (refine wp_copyS (.tmp 10) (.tmp 11) w.heap.size 0 _ _ _ _ s w.heap.size rfl rfl rfl rfl (fun _ => rfl) hr1 (by omega) (by simp) (Nat.le_refl _) ?_; intro w2 hr2 hb2 hz2; rw [join_one s.size s.data.toList s.size (by simp) rfl] at hr2)
      | (refine wp_unsafeStr (.tmp 14) (.tmp 16) w.heap.size s.data.toList _ w.heap.size rfl rfl rfl rfl (by simp) hne.out hr2 (by simp; omega) (Nat.le_refl _) ?_; intro w3 hb3))
    go_ret
    exact ⟨ret_str (by simp), hb1.trans (hb2.trans hb3)⟩

theorem clone_calls (s : ByteArray) (hs : s.size ≤ 1000000) (w : World) :
    Calls Try.prog 33 #[.string s] w fun e w' => e = .returned (.string s) ∧ Below w.heap.size w w' := by
  go_enter Try.func33, Try.ntmps33
  go_wp2_with (go_at_call 48; refine (sliteClone_calls s hs _).mono ?_; rintro e w1 ⟨rfl, hb1⟩)
  go_ret
  exact ⟨rfl, hb1⟩

/-- A block of three cells, as the walk wants it told. -/
theorem three_cells {w : World} {g : Nat} {x y z : Value} {t : TypeId} (h : w.heap[g]? = some (.cells #[x, y, z] t (0, 0))) :
    w.cell? ⟨g, 0, none⟩ = some x ∧ w.cell? ⟨g, 1, none⟩ = some y ∧ w.cell? ⟨g, 2, none⟩ = some z ∧ w.frozen? ⟨g, 0, none⟩ = false ∧ w.frozen? ⟨g, 1, none⟩ = false ∧ w.frozen? ⟨g, 2, none⟩ = false :=
  ⟨by rw [cell_of_row w g 0 _ t (0, 0) h]; rfl, by rw [cell_of_row w g 1 _ t (0, 0) h]; rfl, by rw [cell_of_row w g 2 _ t (0, 0) h]; rfl,
    frozen_of_row w g 0 _ t h, frozen_of_row w g 1 _ t h, frozen_of_row w g 2 _ t h⟩

theorem new_kept {w w2 : World} {o : Obj} (h : Below (w.alloc o).heap.size (w.alloc o) w2) : w2.heap[w.heap.size]? = some o := by
  rw [h.block w.heap.size (by simp)]
  exact heap_alloc_new w o
end Go.Proofs.Ytonjohlecomeoaa.clo
