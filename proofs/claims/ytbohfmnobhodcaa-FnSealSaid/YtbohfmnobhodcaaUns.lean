/- Contracts: Unseal. -/
import Derived.Test.YtbohfmnobhodcaaSeal
import Derived.Test.YtbohfmnobhodcaaClo
namespace Go.Proofs.Ytbohfmnobhodcaa.clo
open Go.RowKit Go.Proofs.Ytbohfmnobhodcaa.lib Go.Proofs.Ytbohfmnobhodcaa.crc Go.Proofs.Ytbohfmnobhodcaa.row Go.Proofs.Ytbohfmnobhodcaa.sea
set_option linter.unusedVariables false

def unsealR (t : ByteArray) : ByteArray × Int :=
  if 8000 < t.size then (ByteArray.empty, 2) else if t.size < 4 then (ByteArray.empty, 4)
  else if (t.extract (t.size - 4) t.size).toList = (fourS (crcMore 0 (t.extract 0 (t.size - 4)).data.toList)).toList then (t.extract 0 (t.size - 4), 0) else (ByteArray.empty, 5)

theorem implUnseal_calls (t : ByteArray) (ht : t.size ≤ 9223372036854775807) (w : World) :
    Calls Try.prog 15 #[.string t] w fun e w' => e = .returned (.agg #[.string (unsealR t).1, .int .i64 0, .int .i64 (unsealR t).2]) ∧ Below w.heap.size w w' := by
  by_cases h1 : 8000 < t.size
  · have HP : Hid (unsealR t = (ByteArray.empty, 2)) := by unfold Hid unsealR; rw [if_pos h1]
    have d1 : decide ((8000 : Int) < t.size) = true := by simp; omega
    go_enter Try.func15, Try.ntmps15
    go_wp2_with (go_at_call 37; refine (tooLong_calls _ (by omega) _).mono ?_; rintro e w' ⟨rfl, rfl⟩)
    exact bodyPost_ret (v := .agg #[.string ByteArray.empty, .int .i64 0, .int .i64 2]) (by simp [results, Try.results15, go_sem]; rfl) rfl ⟨by rw [HP.out], (Below.refl _ _).alloc (Nat.le_refl _) _⟩
  have d1 : decide ((8000 : Int) < t.size) = false := by simp; omega
  by_cases h2 : t.size < 4
  · have HP : Hid (unsealR t = (ByteArray.empty, 4)) := by unfold Hid unsealR; rw [if_neg h1, if_pos h2]
    have d2 : decide ((t.size : Int) < 4) = true := by simp; omega
    go_enter Try.func15, Try.ntmps15
    go_wp2_with (go_at_call 37; refine (tooLong_calls _ (by omega) _).mono ?_; rintro e w' ⟨rfl, rfl⟩)
    exact bodyPost_ret (v := .agg #[.string ByteArray.empty, .int .i64 0, .int .i64 4]) (by simp [results, Try.results15, go_sem]; rfl) rfl ⟨by rw [HP.out], (Below.refl _ _).alloc (Nat.le_refl _) _⟩
  have d2 : decide ((t.size : Int) < 4) = false := by simp; omega
  have HU : Hid (unsealR t = if (t.extract (t.size - 4) t.size).toList = (fourS (crcMore 0 (t.extract 0 (t.size - 4)).data.toList)).toList then (t.extract 0 (t.size - 4), 0) else (ByteArray.empty, 5)) := by
    unfold Hid unsealR; rw [if_neg h1, if_neg h2]
  obtain ⟨body, hbody⟩ : ∃ b, b = t.extract 0 (t.size - 4) := ⟨_, rfl⟩
  have hbs : body.size = t.size - 4 := by rw [hbody]; simp
  rw [← hbody] at HU
  have HB := Lib.hid hbody
  have HC := Lib.hid (crcMore_lt 0 body.data.toList)
  clear hbody
  by_cases hq : (t.extract (t.size - 4) t.size).toList = (fourS (crcMore 0 body.data.toList)).toList
  · have HP : Hid (unsealR t = (body, 0)) := by unfold Hid; rw [HU.out, if_pos hq]
    have hq1 : ((t.extract (t.size - 4) t.size).toList == (fourS (crcMore 0 body.data.toList)).toList) = true := by rw [hq]; simp
    clear hq HU
    go_enter Try.func15, Try.ntmps15
    go_wp2_with (go_at_call 37; refine (tooLong_calls _ (by omega) _).mono ?_; rintro e w' ⟨rfl, rfl⟩)
    rw [← HB.out]
    refine wp_region_quiet_below (by kernel_rfl) (by kernel_rfl) ?_
    repeat (quiet_step (exact Calls.regrown_of (sumOf_calls body (by omega) _)))
    refine wpQuiet_nil ?_
    rintro w2 ⟨⟨dq, osq⟩, hw2⟩
    have hb2 : Below (w.alloc (.cells #[.string ⟨#[]⟩, .int .i64 0, .int .i64 0] 27)).heap.size (w.alloc (.cells #[.string ⟨#[]⟩, .int .i64 0, .int .i64 0] 27)) w2 := by rw [hw2]; exact below_regrown _ _ _
    clear hw2
    have hblk := new_kept hb2
    have hz2 : w.heap.size < w2.heap.size := by have := hb2.size; simp at this; omega
    have hbw : Below w.heap.size w w2 := ((Below.refl _ _).alloc (Nat.le_refl _) _).trans (hb2.mono (by simp))
    go_wp2_with (go_at_call 38; refine (clone_calls _ (by omega) _).mono ?_; rintro e w3 ⟨rfl, hb3⟩; obtain ⟨k0, k1, k2, f0, f1, f2⟩ := three_cells ((hb3.block w.heap.size hz2).trans hblk))
    exact bodyPost_ret (v := .agg #[.string body, .int .i64 0, .int .i64 0]) (by simp [results, Try.results15, go_sem, k0, k1, k2]) rfl
      ⟨by rw [HP.out], (((hbw.trans (hb3.mono (by omega))).setCell (by simp) _).setCell (by simp) _).setCell (by simp) _⟩
  · have HP : Hid (unsealR t = (ByteArray.empty, 5)) := by unfold Hid; rw [HU.out, if_neg hq]
    have hq1 : ((t.extract (t.size - 4) t.size).toList == (fourS (crcMore 0 body.data.toList)).toList) = false := by simpa using hq
    clear hq HU
    go_enter Try.func15, Try.ntmps15
    go_wp2_with (go_at_call 37; refine (tooLong_calls _ (by omega) _).mono ?_; rintro e w' ⟨rfl, rfl⟩)
    rw [← HB.out]
    refine wp_region_quiet_below (by kernel_rfl) (by kernel_rfl) ?_
    repeat (quiet_step (exact Calls.regrown_of (sumOf_calls body (by omega) _)))
    refine wpQuiet_nil ?_
    rintro w2 ⟨⟨dq, osq⟩, hw2⟩
    have hb2 : Below (w.alloc (.cells #[.string ⟨#[]⟩, .int .i64 0, .int .i64 0] 27)).heap.size (w.alloc (.cells #[.string ⟨#[]⟩, .int .i64 0, .int .i64 0] 27)) w2 := by rw [hw2]; exact below_regrown _ _ _
    clear hw2
    have hblk := new_kept hb2
    have hz2 : w.heap.size < w2.heap.size := by have := hb2.size; simp at this; omega
    have hbw : Below w.heap.size w w2 := ((Below.refl _ _).alloc (Nat.le_refl _) _).trans (hb2.mono (by simp))
    obtain ⟨k0, k1, k2, f0, f1, f2⟩ := three_cells hblk
    go_wp2
    exact bodyPost_ret (v := .agg #[.string ByteArray.empty, .int .i64 0, .int .i64 5]) (by simp [results, Try.results15, go_sem, k0, k1, k2]; rfl) rfl
      ⟨by rw [HP.out], ((hbw.setCell (by simp) _).setCell (by simp) _).setCell (by simp) _⟩

theorem specUnseal_calls (t : ByteArray) (ht : t.size ≤ 9223372036854775807) (w : World) :
    Calls Try.prog 27 #[.string t] w fun e w' => e = .returned (.agg #[.string (unsealR t).1, .int .i64 0, .int .i64 (unsealR t).2]) ∧ Below w.heap.size w w' := by
  by_cases h1 : 8000 < t.size
  · have HP : Hid (unsealR t = (ByteArray.empty, 2)) := by unfold Hid unsealR; rw [if_pos h1]
    have d1 : decide ((8000 : Int) < t.size) = true := by simp; omega
    go_enter Try.func27, Try.ntmps27
    go_wp2_with fail
    exact bodyPost_ret (v := .agg #[.string ByteArray.empty, .int .i64 0, .int .i64 2]) (by simp [results, Try.results27, go_sem]; rfl) rfl ⟨by rw [HP.out], (Below.refl _ _).alloc (Nat.le_refl _) _⟩
  have d1 : decide ((8000 : Int) < t.size) = false := by simp; omega
  by_cases h2 : t.size < 4
  · have HP : Hid (unsealR t = (ByteArray.empty, 4)) := by unfold Hid unsealR; rw [if_neg h1, if_pos h2]
    have d2 : decide ((t.size : Int) < 4) = true := by simp; omega
    go_enter Try.func27, Try.ntmps27
    go_wp2_with fail
    exact bodyPost_ret (v := .agg #[.string ByteArray.empty, .int .i64 0, .int .i64 4]) (by simp [results, Try.results27, go_sem]; rfl) rfl ⟨by rw [HP.out], (Below.refl _ _).alloc (Nat.le_refl _) _⟩
  have d2 : decide ((t.size : Int) < 4) = false := by simp; omega
  have HU : Hid (unsealR t = if (t.extract (t.size - 4) t.size).toList = (fourS (crcMore 0 (t.extract 0 (t.size - 4)).data.toList)).toList then (t.extract 0 (t.size - 4), 0) else (ByteArray.empty, 5)) := by
    unfold Hid unsealR; rw [if_neg h1, if_neg h2]
  obtain ⟨body, hbody⟩ : ∃ b, b = t.extract 0 (t.size - 4) := ⟨_, rfl⟩
  have hbs : body.size = t.size - 4 := by rw [hbody]; simp
  rw [← hbody] at HU
  have HB := Lib.hid hbody
  have HC := Lib.hid (crcMore_lt 0 body.data.toList)
  clear hbody
  by_cases hq : (t.extract (t.size - 4) t.size).toList = (fourS (crcMore 0 body.data.toList)).toList
  · have HP : Hid (unsealR t = (body, 0)) := by unfold Hid; rw [HU.out, if_pos hq]
    have hq1 : ((fourS (crcMore 0 body.data.toList)).toList == (t.extract (t.size - 4) t.size).toList) = true := by rw [hq]; simp
    clear hq HU
    go_enter Try.func27, Try.ntmps27
    go_wp2_with fail
    rw [← HB.out]
    have hw4 : IntKind.i64.wrap ((t.size : Int) - 4) = ((t.size - 4 : Nat) : Int) := by rw [IntKind.wrap_i64]; omega
    refine wp_region_quiet_below (by kernel_rfl) (by kernel_rfl) ?_
    repeat (quiet_step (first | exact Calls.regrown_of (specFour_calls _ HC.out _) | exact Calls.regrown_of ((specL01Crc_calls 0 (by omega) body (by omega) _).mono fun e w' h => ⟨h.1, h.2 ▸ Below.refl _ _⟩)))
    refine wpQuiet_nil ?_
    clear hw4
    rintro w2 ⟨⟨dq, osq⟩, hw2⟩
    have hb2 : Below (w.alloc (.cells #[.string ⟨#[]⟩, .int .i64 0, .int .i64 0] 27)).heap.size (w.alloc (.cells #[.string ⟨#[]⟩, .int .i64 0, .int .i64 0] 27)) w2 := by rw [hw2]; exact below_regrown _ _ _
    clear hw2
    have hblk := new_kept hb2
    have hz2 : w.heap.size < w2.heap.size := by have := hb2.size; simp at this; omega
    have hbw : Below w.heap.size w w2 := ((Below.refl _ _).alloc (Nat.le_refl _) _).trans (hb2.mono (by simp))
    obtain ⟨k0, k1, k2, f0, f1, f2⟩ := three_cells hblk
    go_wp2
    exact bodyPost_ret (v := .agg #[.string body, .int .i64 0, .int .i64 0]) (by simp [results, Try.results27, go_sem, k0, k1, k2]) rfl
      ⟨by rw [HP.out], ((hbw.setCell (by simp) _).setCell (by simp) _).setCell (by simp) _⟩
  · have HP : Hid (unsealR t = (ByteArray.empty, 5)) := by unfold Hid; rw [HU.out, if_neg hq]
    have hq1 : ((fourS (crcMore 0 body.data.toList)).toList == (t.extract (t.size - 4) t.size).toList) = false := by simpa using fun e => hq e.symm
    clear hq HU
    go_enter Try.func27, Try.ntmps27
    go_wp2_with fail
    rw [← HB.out]
    have hw4 : IntKind.i64.wrap ((t.size : Int) - 4) = ((t.size - 4 : Nat) : Int) := by rw [IntKind.wrap_i64]; omega
    refine wp_region_quiet_below (by kernel_rfl) (by kernel_rfl) ?_
    repeat (quiet_step (first | exact Calls.regrown_of (specFour_calls _ HC.out _) | exact Calls.regrown_of ((specL01Crc_calls 0 (by omega) body (by omega) _).mono fun e w' h => ⟨h.1, h.2 ▸ Below.refl _ _⟩)))
    refine wpQuiet_nil ?_
    clear hw4
    rintro w2 ⟨⟨dq, osq⟩, hw2⟩
    have hb2 : Below (w.alloc (.cells #[.string ⟨#[]⟩, .int .i64 0, .int .i64 0] 27)).heap.size (w.alloc (.cells #[.string ⟨#[]⟩, .int .i64 0, .int .i64 0] 27)) w2 := by rw [hw2]; exact below_regrown _ _ _
    clear hw2
    have hblk := new_kept hb2
    have hz2 : w.heap.size < w2.heap.size := by have := hb2.size; simp at this; omega
    have hbw : Below w.heap.size w w2 := ((Below.refl _ _).alloc (Nat.le_refl _) _).trans (hb2.mono (by simp))
    obtain ⟨k0, k1, k2, f0, f1, f2⟩ := three_cells hblk
    go_wp2
    exact bodyPost_ret (v := .agg #[.string ByteArray.empty, .int .i64 0, .int .i64 5]) (by simp [results, Try.results27, go_sem, k0, k1, k2]; rfl) rfl
      ⟨by rw [HP.out], ((hbw.setCell (by simp) _).setCell (by simp) _).setCell (by simp) _⟩
end Go.Proofs.Ytbohfmnobhodcaa.clo
