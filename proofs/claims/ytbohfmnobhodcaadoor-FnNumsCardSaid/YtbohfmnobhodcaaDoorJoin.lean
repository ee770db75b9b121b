/- Contract: join. -/
import Derived.Test.YtbohfmnobhodcaaDoorRow
namespace Go.Proofs.YtbohfmnobhodcaaDoor.row
open Go.RowKit Go.Proofs.YtbohfmnobhodcaaDoor.lib
set_option linter.unusedVariables false

set_option maxRecDepth 100000 in
theorem join_calls (x y : ByteArray) (hx : x.size ≤ 1000000) (hy : y.size ≤ 1000000) (w : World) :
    Calls Tryd.prog 28 #[.string x, .string y] w fun e w' => e = .returned (.string (x ++ y)) ∧ Below w.heap.size w w' := by
  by_cases hy0 : y = ByteArray.empty
  · subst hy0
    go_enter Tryd.func28, Tryd.ntmps28
    go_wp2_with (first
      | (at_make; refine wp_make (.tmp 11) (.tmp 11) x.size .i64 .i64 _ _ rfl rfl rfl rfl (by simp) (by simp) (by omega) ?_; intro w1 hr1 hb1 hz1)
      | (refine wp_copyS (.tmp 13) (.tmp 14) w.heap.size 0 _ _ _ _ x w.heap.size rfl rfl rfl rfl (fun _ => rfl) hr1 (by simp) (by simp) (Nat.le_refl _) ?_; intro w2 hr2 hb2 hz2; rw [join_one x.size x.data.toList x.size (by simp) rfl] at hr2)
      | (refine wp_copyS (.tmp 18) (.tmp 19) w.heap.size 0 _ _ _ _ ByteArray.empty w.heap.size rfl rfl rfl rfl (fun h => absurd h (by simp)) hr2 (by simp) (by simp) (Nat.le_refl _) ?_; intro w3 hr3 hb3 hz3; simp only [List.take_zero, List.nil_append, empty_list, Nat.zero_add, List.drop_zero, ByteArray.size_empty] at hr3)
      | (refine wp_strRow (.tmp 21) w.heap.size x.size x.data.toList rfl rfl rfl hr3 (by simp) (by omega) ?_))
    go_ret
    exact ⟨ret_str (by simp), hb1.trans (hb2.trans hb3)⟩
  · go_enter Tryd.func28, Tryd.ntmps28
    go_wp2_with (first
      | (at_make; refine wp_make (.tmp 11) (.tmp 11) (x.size + y.size) .i64 .i64 _ _ rfl rfl rfl rfl (by omega) (by omega) (by omega) ?_; intro w1 hr1 hb1 hz1)
      | (refine wp_copyS (.tmp 13) (.tmp 14) w.heap.size 0 _ _ _ _ x w.heap.size rfl rfl rfl rfl (fun _ => rfl) hr1 (by omega) (by simp) (Nat.le_refl _) ?_; intro w2 hr2 hb2 hz2)
      | (refine wp_copyS (.tmp 18) (.tmp 19) w.heap.size x.size _ _ _ _ y w.heap.size rfl rfl rfl rfl (fun _ => rfl) hr2 (by omega) (by simp) (Nat.le_refl _) ?_; intro w3 hr3 hb3 hz3; rw [join_two x.data.toList y.data.toList x.size y.size (by simp) (by simp)] at hr3)
      | (refine wp_strRow (.tmp 21) w.heap.size (x.size + y.size) (x.data.toList ++ y.data.toList) rfl rfl rfl hr3 (by simp) (by omega) ?_))
    go_ret
    exact ⟨ret_str (append_data x y), hb1.trans (hb2.trans hb3)⟩
end Go.Proofs.YtbohfmnobhodcaaDoor.row
