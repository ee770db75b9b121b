/- Contracts of the functions behind Seal. -/
import Derived.Test.YtbohfmnobhodcaaCrc
import Derived.Test.YtbohfmnobhodcaaJoin
import Derived.LoopN
namespace Go.Proofs.Ytbohfmnobhodcaa.sea
open Go.RowKit Go.Proofs.Ytbohfmnobhodcaa.lib Go.Proofs.Ytbohfmnobhodcaa.crc Go.Proofs.Ytbohfmnobhodcaa.row
set_option linter.unusedVariables false

def four (c : Nat) : List UInt8 := [UInt8.ofNat c, UInt8.ofNat (c / 256), UInt8.ofNat (c / 65536), UInt8.ofNat (c / 16777216)]
def fourS (c : Nat) : ByteArray := ⟨(four c).toArray⟩
def seal_ (t : ByteArray) : ByteArray := if 7996 < t.size then ByteArray.empty else t ++ fourS (crcMore 0 t.data.toList)

theorem four_cells (c : Nat) (hc : c < 4294967296) (w : World) (t : TypeId) :
    ∀ i (h : i < (four c).length), (w.alloc (.cells #[.int .u8 ((c : Int) % 256), .int .u8 ((c : Int) / 256 % 256), .int .u8 ((c : Int) / 65536 % 256), .int .u8 ((c : Int) / 16777216)] t)).cell? ⟨w.heap.size, 0 + i, none⟩ =
      some (.int .u8 ((four c)[i].toNat)) := by
  intro i h
  have b0 : (c : Int) % 256 = ((UInt8.ofNat c).toNat : Int) := by rw [UInt8.toNat_ofNat']; omega
  have b1 : (c : Int) / 256 % 256 = ((UInt8.ofNat (c / 256)).toNat : Int) := by rw [UInt8.toNat_ofNat']; omega
  have b2 : (c : Int) / 65536 % 256 = ((UInt8.ofNat (c / 65536)).toNat : Int) := by rw [UInt8.toNat_ofNat']; omega
  have b3 : (c : Int) / 16777216 = ((UInt8.ofNat (c / 16777216)).toNat : Int) := by rw [UInt8.toNat_ofNat']; omega
  rw [b0, b1, b2, b3]
  have hl : (four c).length = 4 := rfl
  rw [hl] at h
  rw [cell_of_row _ w.heap.size (0 + i) _ t (0, 0) (heap_alloc_new w _)]
  match i, h with
  | 0, _ => rfl
  | 1, _ => rfl
  | 2, _ => rfl
  | 3, _ => rfl

theorem specFour_calls (c : Nat) (hc : c < 4294967296) (w : World) :
    Calls Try.prog 35 #[.int .i64 c] w fun e w' => e = .returned (.string (fourS c)) ∧ Below w.heap.size w w' := by
  have HC := Lib.hid hc
  go_enter Try.func35, Try.ntmps35
  go_wp2_with (refine wp_strAt (.tmp 14) w.heap.size 0 4 4 (four c) rfl rfl rfl rfl (four_cells c HC.out w _) ?_)
  go_ret
  exact ⟨rfl, (Below.refl _ _).alloc (Nat.le_refl _) _⟩

set_option maxRecDepth 100000 in
theorem sumOf_calls (t : ByteArray) (ht : t.size ≤ 7996) (w : World) :
    Calls Try.prog 34 #[.string t] w fun e w' => e = .returned (.string (fourS (crcMore 0 t.data.toList))) ∧ Below w.heap.size w w' := by
  have hc := crcMore_lt 0 t.data.toList
  have he : crcMoreI 0 t = crcMore 0 t.data.toList := by unfold crcMoreI; rw [if_neg (by omega)]; rfl
  obtain ⟨c, hcc⟩ : ∃ c, c = crcMore 0 t.data.toList := ⟨_, rfl⟩
  rw [← hcc] at hc he
  have HE := Lib.hid he
  have HH := Lib.hid hc
  have HC := Lib.hid hcc
  clear he hcc
  go_enter Try.func34, Try.ntmps34
  go_wp2_with (go_at_call 19; refine (implCrc_calls _ (by omega) _).mono ?_; rintro e w' ⟨rfl, rfl⟩; rw [HE.out])
  refine wp_loop_rounds 5 ?_
  rw [rounds_succ]
  go_wp2
  rw [rounds_succ]
  go_wp2
  rw [rounds_succ]
  go_wp2
  rw [rounds_succ]
  go_wp2
  rw [rounds_succ]
  go_wp2_with (refine wp_strAt (.tmp 19) w.heap.size 0 4 4 (four c) rfl rfl rfl rfl (four_cells c HH.out w _) ?_)
  go_ret
  exact ⟨ret_str (by rw [← HC.out]; rfl), (Below.refl _ _).alloc (Nat.le_refl _) _⟩

theorem fourS_size (c : Nat) : (fourS c).size = 4 := rfl

theorem specSeal_calls (t : ByteArray) (ht : t.size ≤ 9223372036854775807) (w : World) :
    Calls Try.prog 13 #[.string t] w fun e w' => e = .returned (.string (seal_ t)) ∧ Below w.heap.size w w' := by
  by_cases h : 7996 < t.size
  · have HP : Hid (seal_ t = ByteArray.empty) := by unfold Hid seal_; rw [if_pos h]
    go_enter Try.func13, Try.ntmps13
    go_wp2_with fail
    go_ret
    exact ⟨ret_str HP.out.symm, Below.refl _ _⟩
  · have HP : Hid (seal_ t = t ++ fourS (crcMore 0 t.data.toList)) := by unfold Hid seal_; rw [if_neg h]
    have h4 := fourS_size (crcMore 0 t.data.toList)
    have hc := Lib.hid (crcMore_lt 0 t.data.toList)
    go_enter Try.func13, Try.ntmps13
    go_wp2_with (first
      | (go_at_call 36; refine (specL01Crc_calls 0 (by omega) t ht _).mono ?_; rintro e w' ⟨rfl, rfl⟩)
      | (go_at_call 35; refine (specFour_calls _ hc.out _).mono ?_; rintro e w' ⟨rfl, hb⟩))
    go_ret
    exact ⟨ret_str HP.out.symm, by assumption⟩

theorem implSeal_calls (t : ByteArray) (ht : t.size ≤ 9223372036854775807) (w : World) :
    Calls Try.prog 12 #[.string t] w fun e w' => e = .returned (.string (seal_ t)) ∧ Below w.heap.size w w' := by
  by_cases h : 7996 < t.size
  · have HP : Hid (seal_ t = ByteArray.empty) := by unfold Hid seal_; rw [if_pos h]
    go_enter Try.func12, Try.ntmps12
    go_wp2_with fail
    go_ret
    exact ⟨ret_str HP.out.symm, Below.refl _ _⟩
  · have HP : Hid (seal_ t = t ++ fourS (crcMore 0 t.data.toList)) := by unfold Hid seal_; rw [if_neg h]
    have h4 := Lib.hid (fourS_size (crcMore 0 t.data.toList))
    go_enter Try.func12, Try.ntmps12
    go_wp2_with (first
      | (go_at_call 34; refine (sumOf_calls t (by omega) _).mono ?_; rintro e w1 ⟨rfl, hb1⟩)
      | (go_at_call 33; refine (join_calls _ _ (by omega) (by rw [h4.out]; omega) _).mono ?_; rintro e w2 ⟨rfl, hb2⟩))
    go_ret
    exact ⟨ret_str HP.out.symm, hb1.trans (hb2.mono hb1.size)⟩
end Go.Proofs.Ytbohfmnobhodcaa.sea
