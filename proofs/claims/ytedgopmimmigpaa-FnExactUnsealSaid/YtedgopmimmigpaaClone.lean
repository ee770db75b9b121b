/- Contracts: strings.Clone; Unseal. -/
import Derived.Test.YtedgopmimmigpaaSeal
import Derived.Lib.UnsafeStr
import Derived.Lib.QuietBelow
namespace Go.Proofs.Ytedgopmimmigpaa.clo
open Go.RowKit Go.Proofs.Ytedgopmimmigpaa.lib Go.Proofs.Ytedgopmimmigpaa.num Go.Proofs.Ytedgopmimmigpaa.crc Go.Proofs.Ytedgopmimmigpaa.row Go.Proofs.Ytedgopmimmigpaa.sea
set_option linter.unusedVariables false

theorem clone0 (s : ByteArray) (h : s.size = 0) : s = ByteArray.empty := by
  apply ByteArray.ext
  exact Array.eq_empty_of_size_eq_zero h

theorem wp_unsafeStr {w : World} {ops : Array Oper} {rest : List Oper} {o : Oper} {a : Act} {Q : Exit → Act → World → Prop} (p n : Operand) (g : Nat) (l : List UInt8) (N : Int) (B : Nat) (hgd : o.guard = none)
    (ho : o.op = .call { callee := .builtin .unsafeString, args := #[p, n], argTypes := #[54, 3] })
    (hp : a.eval p = .pointer (some ⟨g, 0, none⟩)) (hn : a.eval n = .int .i64 N) (hN : N = (l.length : Int)) (h0 : l ≠ []) (hrow : Row w g l) (hm : l.length ≤ 1000000000) (hB : B ≤ g)
    (h : ∀ w', Below B w w' → wpList Try.prog ops Q rest (a.put o.dst (.string ⟨l.toArray⟩)) w') : wpList Try.prog ops Q (o :: rest) a w := by
  refine wpList_plain hgd fun K hK => ?_
  subst hN
  have hco : Try.prog.cellsOf 5 = 1 := by kernel_rfl
  have hrun := Lib.run_unsafeString_row (P := Try.prog) w 54 3 o.type 5 Try.underlying54 hco g (u8s l).toArray.size (by unfold World.shape?; rw [hrow]) l h0 (by simp [u8s]) (by omega)
    (fun j x hx => by
      have hj : j < l.length := (List.getElem?_eq_some_iff.1 hx).1
      rw [Addr.add_lit, Nat.zero_add, cell_of_row _ g j _ 5 (0, 0) hrow]
      simp [u8s, hx])
  unfold Oper.wp execOp
  simp only [ho, resolve, invoke, builtin, Sem.run_bind, Sem.run_pure, Result.andThen_ok, List.map_toArray, List.map_cons, List.map_nil, hp, hn, hrun]
  exact hK _ _ (h _ (Lib.below_freeze (Below.refl _ _) (p := ⟨g, 0, none⟩) hB _))

set_option maxRecDepth 100000 in
theorem sliteClone_calls (s : ByteArray) (hs : s.size ≤ 1000000) (w : World) :
    Calls Try.prog 45 #[.string s] w fun e w' => e = .returned (.string s) ∧ Below w.heap.size w w' := by
  by_cases h0 : s.size = 0
  · obtain rfl := clone0 s h0
    go_enter Try.func45, Try.ntmps45
    go_wp2
    go_ret
    exact ⟨rfl, Below.refl _ _⟩
  · have hb0 : ((s.size : Int) == 0) = false := by rw [beq_eq_false_iff_ne]; omega
    have hp : 0 < s.size := by omega
    have hne := Lib.hid (show s.data.toList ≠ [] from fun e => h0 (by have := congrArg List.length e; simpa using this))
    clear h0
    go_enter Try.func45, Try.ntmps45
    go_wp2_with (first
      | (at_make; refine wp_make (.tmp 8) (.tmp 8) s.size .i64 .i64 _ _ rfl rfl rfl rfl rfl rfl (by omega) ?_; intro w1 hr1 hb1 hz1)
      | (refine wp_copyS (.tmp 10) (.tmp 11) w.heap.size 0 _ _ _ _ s w.heap.size rfl rfl rfl rfl (fun _ => rfl) hr1 (by omega) (by simp) (Nat.le_refl _) ?_; intro w2 hr2 hb2 hz2; rw [join_one s.size s.data.toList s.size (by simp) rfl] at hr2)
      | (refine wp_unsafeStr (.tmp 14) (.tmp 16) w.heap.size s.data.toList _ w.heap.size rfl rfl rfl rfl (by simp) hne.out hr2 (by simp; omega) (Nat.le_refl _) ?_; intro w3 hb3))
    go_ret
    exact ⟨ret_str (by simp), hb1.trans (hb2.trans hb3)⟩

theorem clone_calls (s : ByteArray) (hs : s.size ≤ 1000000) (w : World) :
    Calls Try.prog 38 #[.string s] w fun e w' => e = .returned (.string s) ∧ Below w.heap.size w w' := by
  go_enter Try.func38, Try.ntmps38
  go_wp2_with (go_at_call 45; refine (sliteClone_calls s hs _).mono ?_; rintro e w1 ⟨rfl, hb1⟩)
  go_ret
  exact ⟨rfl, hb1⟩

/-- A block of three cells, as the walk wants it told. -/
theorem three_cells {w : World} {g : Nat} {x y z : Value} {t : TypeId} (h : w.heap[g]? = some (.cells #[x, y, z] t (0, 0))) :
    w.cell? ⟨g, 0, none⟩ = some x ∧ w.cell? ⟨g, 1, none⟩ = some y ∧ w.cell? ⟨g, 2, none⟩ = some z ∧ w.frozen? ⟨g, 0, none⟩ = false ∧ w.frozen? ⟨g, 1, none⟩ = false ∧ w.frozen? ⟨g, 2, none⟩ = false :=
  ⟨by rw [cell_of_row w g 0 _ t (0, 0) h]; rfl, by rw [cell_of_row w g 1 _ t (0, 0) h]; rfl, by rw [cell_of_row w g 2 _ t (0, 0) h]; rfl,
    frozen_of_row w g 0 _ t h, frozen_of_row w g 1 _ t h, frozen_of_row w g 2 _ t h⟩

theorem new_kept {w w2 : World} {o : Obj} (h : Below (w.alloc o).heap.size (w.alloc o) w2) : w2.heap[w.heap.size]? = some o := by
  rw [h.block w.heap.size (by simp)]
  exact heap_alloc_new w o

def unsealR (t : ByteArray) : ByteArray × Int :=
  if 8000 < t.size then (ByteArray.empty, 2) else if t.size < 4 then (ByteArray.empty, 4)
  else if (t.extract (t.size - 4) t.size).toList = (fourS (crcMore 0 (t.extract 0 (t.size - 4)).data.toList)).toList then (t.extract 0 (t.size - 4), 0) else (ByteArray.empty, 5)

theorem implUnseal_calls (t : ByteArray) (ht : t.size ≤ 9223372036854775807) (w : World) :
    Calls Try.prog 15 #[.string t] w fun e w' => e = .returned (.agg #[.string (unsealR t).1, .int .i64 0, .int .i64 (unsealR t).2]) ∧ Below w.heap.size w w' := by
  by_cases h1 : 8000 < t.size
  · have HP : Hid (unsealR t = (ByteArray.empty, 2)) := by unfold Hid unsealR; rw [if_pos h1]
    have d1 : decide ((8000 : Int) < t.size) = true := by simp; omega
    go_enter Try.func15, Try.ntmps15
    go_wp2_with (go_at_call 37; refine (tooLong_calls _ (by omega) _).mono ?_; rintro e w' ⟨rfl, rfl⟩)
    exact bodyPost_ret (v := .agg #[.string ByteArray.empty, .int .i64 0, .int .i64 2]) (by simp [results, Try.results15, go_sem]; rfl) rfl ⟨by rw [HP.out], (Below.refl _ _).alloc (Nat.le_refl _) _⟩
  have d1 : decide ((8000 : Int) < t.size) = false := by simp; omega
  by_cases h2 : t.size < 4
  · have HP : Hid (unsealR t = (ByteArray.empty, 4)) := by unfold Hid unsealR; rw [if_neg h1, if_pos h2]
    have d2 : decide ((t.size : Int) < 4) = true := by simp; omega
    go_enter Try.func15, Try.ntmps15
    go_wp2_with (go_at_call 37; refine (tooLong_calls _ (by omega) _).mono ?_; rintro e w' ⟨rfl, rfl⟩)
    exact bodyPost_ret (v := .agg #[.string ByteArray.empty, .int .i64 0, .int .i64 4]) (by simp [results, Try.results15, go_sem]; rfl) rfl ⟨by rw [HP.out], (Below.refl _ _).alloc (Nat.le_refl _) _⟩
  have d2 : decide ((t.size : Int) < 4) = false := by simp; omega
  have HU : Hid (unsealR t = if (t.extract (t.size - 4) t.size).toList = (fourS (crcMore 0 (t.extract 0 (t.size - 4)).data.toList)).toList then (t.extract 0 (t.size - 4), 0) else (ByteArray.empty, 5)) := by
    unfold Hid unsealR; rw [if_neg h1, if_neg h2]
  obtain ⟨body, hbody⟩ : ∃ b, b = t.extract 0 (t.size - 4) := ⟨_, rfl⟩
  have hbs : body.size = t.size - 4 := by rw [hbody]; simp
  rw [← hbody] at HU
  have HB := Lib.hid hbody
  have HC := Lib.hid (crcMore_lt 0 body.data.toList)
  clear hbody
  by_cases hq : (t.extract (t.size - 4) t.size).toList = (fourS (crcMore 0 body.data.toList)).toList
  · have HP : Hid (unsealR t = (body, 0)) := by unfold Hid; rw [HU.out, if_pos hq]
    have hq1 : ((t.extract (t.size - 4) t.size).toList == (fourS (crcMore 0 body.data.toList)).toList) = true := by rw [hq]; simp
    clear hq HU
    go_enter Try.func15, Try.ntmps15
    go_wp2_with (go_at_call 37; refine (tooLong_calls _ (by omega) _).mono ?_; rintro e w' ⟨rfl, rfl⟩)
    rw [← HB.out]
    refine wp_region_quiet_below (by kernel_rfl) (by kernel_rfl) ?_
    repeat (quiet_step (exact Calls.regrown_of (sumOf_calls body (by omega) _)))
    refine wpQuiet_nil ?_
    rintro w2 ⟨⟨dq, osq⟩, hw2⟩
    have hb2 : Below (w.alloc (.cells #[.string ⟨#[]⟩, .int .i64 0, .int .i64 0] 27)).heap.size (w.alloc (.cells #[.string ⟨#[]⟩, .int .i64 0, .int .i64 0] 27)) w2 := by rw [hw2]; exact below_regrown _ _ _
    clear hw2
    have hblk := new_kept hb2
    have hz2 : w.heap.size < w2.heap.size := by have := hb2.size; simp at this; omega
    have hbw : Below w.heap.size w w2 := ((Below.refl _ _).alloc (Nat.le_refl _) _).trans (hb2.mono (by simp))
    go_wp2_with (go_at_call 38; refine (clone_calls _ (by omega) _).mono ?_; rintro e w3 ⟨rfl, hb3⟩; obtain ⟨k0, k1, k2, f0, f1, f2⟩ := three_cells ((hb3.block w.heap.size hz2).trans hblk))
    exact bodyPost_ret (v := .agg #[.string body, .int .i64 0, .int .i64 0]) (by simp [results, Try.results15, go_sem, k0, k1, k2]) rfl
      ⟨by rw [HP.out], (((hbw.trans (hb3.mono (by omega))).setCell (by simp) _).setCell (by simp) _).setCell (by simp) _⟩
  · have HP : Hid (unsealR t = (ByteArray.empty, 5)) := by unfold Hid; rw [HU.out, if_neg hq]
    have hq1 : ((t.extract (t.size - 4) t.size).toList == (fourS (crcMore 0 body.data.toList)).toList) = false := by simpa using hq
    clear hq HU
    go_enter Try.func15, Try.ntmps15
    go_wp2_with (go_at_call 37; refine (tooLong_calls _ (by omega) _).mono ?_; rintro e w' ⟨rfl, rfl⟩)
    rw [← HB.out]
    refine wp_region_quiet_below (by kernel_rfl) (by kernel_rfl) ?_
    repeat (quiet_step (exact Calls.regrown_of (sumOf_calls body (by omega) _)))
    refine wpQuiet_nil ?_
    rintro w2 ⟨⟨dq, osq⟩, hw2⟩
    have hb2 : Below (w.alloc (.cells #[.string ⟨#[]⟩, .int .i64 0, .int .i64 0] 27)).heap.size (w.alloc (.cells #[.string ⟨#[]⟩, .int .i64 0, .int .i64 0] 27)) w2 := by rw [hw2]; exact below_regrown _ _ _
    clear hw2
    have hblk := new_kept hb2
    have hz2 : w.heap.size < w2.heap.size := by have := hb2.size; simp at this; omega
    have hbw : Below w.heap.size w w2 := ((Below.refl _ _).alloc (Nat.le_refl _) _).trans (hb2.mono (by simp))
    obtain ⟨k0, k1, k2, f0, f1, f2⟩ := three_cells hblk
    go_wp2
    exact bodyPost_ret (v := .agg #[.string ByteArray.empty, .int .i64 0, .int .i64 5]) (by simp [results, Try.results15, go_sem, k0, k1, k2]; rfl) rfl
      ⟨by rw [HP.out], ((hbw.setCell (by simp) _).setCell (by simp) _).setCell (by simp) _⟩

theorem specUnseal_calls (t : ByteArray) (ht : t.size ≤ 9223372036854775807) (w : World) :
    Calls Try.prog 27 #[.string t] w fun e w' => e = .returned (.agg #[.string (unsealR t).1, .int .i64 0, .int .i64 (unsealR t).2]) ∧ Below w.heap.size w w' := by
  by_cases h1 : 8000 < t.size
  · have HP : Hid (unsealR t = (ByteArray.empty, 2)) := by unfold Hid unsealR; rw [if_pos h1]
    have d1 : decide ((8000 : Int) < t.size) = true := by simp; omega
    go_enter Try.func27, Try.ntmps27
    go_wp2_with fail
    exact bodyPost_ret (v := .agg #[.string ByteArray.empty, .int .i64 0, .int .i64 2]) (by simp [results, Try.results27, go_sem]; rfl) rfl ⟨by rw [HP.out], (Below.refl _ _).alloc (Nat.le_refl _) _⟩
  have d1 : decide ((8000 : Int) < t.size) = false := by simp; omega
  by_cases h2 : t.size < 4
  · have HP : Hid (unsealR t = (ByteArray.empty, 4)) := by unfold Hid unsealR; rw [if_neg h1, if_pos h2]
    have d2 : decide ((t.size : Int) < 4) = true := by simp; omega
    go_enter Try.func27, Try.ntmps27
    go_wp2_with fail
    exact bodyPost_ret (v := .agg #[.string ByteArray.empty, .int .i64 0, .int .i64 4]) (by simp [results, Try.results27, go_sem]; rfl) rfl ⟨by rw [HP.out], (Below.refl _ _).alloc (Nat.le_refl _) _⟩
  have d2 : decide ((t.size : Int) < 4) = false := by simp; omega
  have HU : Hid (unsealR t = if (t.extract (t.size - 4) t.size).toList = (fourS (crcMore 0 (t.extract 0 (t.size - 4)).data.toList)).toList then (t.extract 0 (t.size - 4), 0) else (ByteArray.empty, 5)) := by
    unfold Hid unsealR; rw [if_neg h1, if_neg h2]
  obtain ⟨body, hbody⟩ : ∃ b, b = t.extract 0 (t.size - 4) := ⟨_, rfl⟩
  have hbs : body.size = t.size - 4 := by rw [hbody]; simp
  rw [← hbody] at HU
  have HB := Lib.hid hbody
  have HC := Lib.hid (crcMore_lt 0 body.data.toList)
  clear hbody
  by_cases hq : (t.extract (t.size - 4) t.size).toList = (fourS (crcMore 0 body.data.toList)).toList
  · have HP : Hid (unsealR t = (body, 0)) := by unfold Hid; rw [HU.out, if_pos hq]
    have hq1 : ((fourS (crcMore 0 body.data.toList)).toList == (t.extract (t.size - 4) t.size).toList) = true := by rw [hq]; simp
    clear hq HU
    go_enter Try.func27, Try.ntmps27
    go_wp2_with fail
    rw [← HB.out]
    have hw4 : IntKind.i64.wrap ((t.size : Int) - 4) = ((t.size - 4 : Nat) : Int) := by rw [IntKind.wrap_i64]; omega
    refine wp_region_quiet_below (by kernel_rfl) (by kernel_rfl) ?_
    repeat (quiet_step (first | exact Calls.regrown_of (specFour_calls _ HC.out _) | exact Calls.regrown_of ((specL01Crc_calls 0 (by omega) body (by omega) _).mono fun e w' h => ⟨h.1, h.2 ▸ Below.refl _ _⟩)))
    refine wpQuiet_nil ?_
    clear hw4
    rintro w2 ⟨⟨dq, osq⟩, hw2⟩
    have hb2 : Below (w.alloc (.cells #[.string ⟨#[]⟩, .int .i64 0, .int .i64 0] 27)).heap.size (w.alloc (.cells #[.string ⟨#[]⟩, .int .i64 0, .int .i64 0] 27)) w2 := by rw [hw2]; exact below_regrown _ _ _
    clear hw2
    have hblk := new_kept hb2
    have hz2 : w.heap.size < w2.heap.size := by have := hb2.size; simp at this; omega
    have hbw : Below w.heap.size w w2 := ((Below.refl _ _).alloc (Nat.le_refl _) _).trans (hb2.mono (by simp))
    obtain ⟨k0, k1, k2, f0, f1, f2⟩ := three_cells hblk
    go_wp2
    exact bodyPost_ret (v := .agg #[.string body, .int .i64 0, .int .i64 0]) (by simp [results, Try.results27, go_sem, k0, k1, k2]) rfl
      ⟨by rw [HP.out], ((hbw.setCell (by simp) _).setCell (by simp) _).setCell (by simp) _⟩
  · have HP : Hid (unsealR t = (ByteArray.empty, 5)) := by unfold Hid; rw [HU.out, if_neg hq]
    have hq1 : ((fourS (crcMore 0 body.data.toList)).toList == (t.extract (t.size - 4) t.size).toList) = false := by simpa using fun e => hq e.symm
    clear hq HU
    go_enter Try.func27, Try.ntmps27
    go_wp2_with fail
    rw [← HB.out]
    have hw4 : IntKind.i64.wrap ((t.size : Int) - 4) = ((t.size - 4 : Nat) : Int) := by rw [IntKind.wrap_i64]; omega
    refine wp_region_quiet_below (by kernel_rfl) (by kernel_rfl) ?_
    repeat (quiet_step (first | exact Calls.regrown_of (specFour_calls _ HC.out _) | exact Calls.regrown_of ((specL01Crc_calls 0 (by omega) body (by omega) _).mono fun e w' h => ⟨h.1, h.2 ▸ Below.refl _ _⟩)))
    refine wpQuiet_nil ?_
    clear hw4
    rintro w2 ⟨⟨dq, osq⟩, hw2⟩
    have hb2 : Below (w.alloc (.cells #[.string ⟨#[]⟩, .int .i64 0, .int .i64 0] 27)).heap.size (w.alloc (.cells #[.string ⟨#[]⟩, .int .i64 0, .int .i64 0] 27)) w2 := by rw [hw2]; exact below_regrown _ _ _
    clear hw2
    have hblk := new_kept hb2
    have hz2 : w.heap.size < w2.heap.size := by have := hb2.size; simp at this; omega
    have hbw : Below w.heap.size w w2 := ((Below.refl _ _).alloc (Nat.le_refl _) _).trans (hb2.mono (by simp))
    obtain ⟨k0, k1, k2, f0, f1, f2⟩ := three_cells hblk
    go_wp2
    exact bodyPost_ret (v := .agg #[.string ByteArray.empty, .int .i64 0, .int .i64 5]) (by simp [results, Try.results27, go_sem, k0, k1, k2]; rfl) rfl
      ⟨by rw [HP.out], ((hbw.setCell (by simp) _).setCell (by simp) _).setCell (by simp) _⟩

theorem eqTextOut_calls (s : ByteArray) (x y : Int) (w : World) :
    Calls Try.prog 28 #[.agg #[.string s, .int .i64 x, .int .i64 y], .agg #[.string s, .int .i64 x, .int .i64 y]] w fun e w' => e = .returned (.bool true) ∧ Below w.heap.size w w' := by
  go_enter Try.func28, Try.ntmps28
  go_wp2
  go_ret
  exact ⟨rfl, ((Below.refl _ _).alloc (Nat.le_refl _) _).alloc (by simp) _⟩
end Go.Proofs.Ytedgopmimmigpaa.clo
