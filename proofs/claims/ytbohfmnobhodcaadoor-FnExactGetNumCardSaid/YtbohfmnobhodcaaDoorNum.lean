/- Contracts of the functions behind PutNum. -/
import Derived.Test.YtbohfmnobhodcaaDoorLib
namespace Go.Proofs.YtbohfmnobhodcaaDoor.num
open Go.RowKit Go.Proofs.YtbohfmnobhodcaaDoor.lib
set_option linter.unusedVariables false

/-- The number from 0 to 2^64-1 that stands for n. -/
def fold (n : Int) : Int := if n < 0 then 2 * (-(n + 1)) + 1 else 2 * n
theorem fold_nn (n : Int) (h0 : -9223372036854775808 ≤ n) (h1 : n ≤ 9223372036854775807) : 0 ≤ fold n ∧ fold n < 18446744073709551616 := by unfold fold; split <;> omega

theorem bounds {n : Int} (h : (Lit.int .i64 n).wf = true) : -9223372036854775808 ≤ n ∧ n ≤ 9223372036854775807 := by
  simpa [Lit.wf, IntKind.min, IntKind.max, IntKind.signed, IntKind.bits] using h

theorem specFold_calls (n : Int) (h0 : -9223372036854775808 ≤ n) (h1 : n ≤ 9223372036854775807) (w : World) :
    Calls Tryd.prog 21 #[.int .i64 n] w fun e w' => e = .returned (.int .u64 (fold n)) ∧ w = w' := by
  by_cases h : n < 0
  · go_enter Tryd.func21, Tryd.ntmps21
    go_wp2
    go_ret
    exact ⟨ret_int (by simp [fold, h]), rfl⟩
  · go_enter Tryd.func21, Tryd.ntmps21
    go_wp2
    go_ret
    exact ⟨ret_int (by unfold fold; rw [if_neg (by omega)]), rfl⟩

theorem xor_ones (a : Nat) (h : a < 18446744073709551616) : a ^^^ 18446744073709551615 = 18446744073709551615 - a := by
  have e : (BitVec.ofNat 64 a ^^^ BitVec.allOnes 64).toNat = (~~~ BitVec.ofNat 64 a).toNat := by rw [BitVec.xor_allOnes]
  rw [BitVec.toNat_xor, BitVec.toNat_not, BitVec.toNat_allOnes, BitVec.toNat_ofNat, Nat.mod_eq_of_lt (by omega)] at e
  simpa using e

theorem xor_fold (n : Int) (h0 : -9223372036854775808 ≤ n) (h1 : n ≤ 9223372036854775807) :
    bits BinOp.xor IntKind.u64 (IntKind.u64.wrap (IntKind.u64.wrap n * 2)) (IntKind.u64.wrap (n / 9223372036854775808)) = fold n := by
  rw [IntKind.wrap_u64, IntKind.wrap_u64, IntKind.wrap_u64]
  unfold fold
  by_cases h : n < 0
  · rw [if_pos h]
    obtain ⟨m, hm⟩ := Int.eq_ofNat_of_zero_le (show (0 : Int) ≤ n % 18446744073709551616 * 2 % 18446744073709551616 by omega)
    have e2 : n / 9223372036854775808 % 18446744073709551616 = ((18446744073709551615 : Nat) : Int) := by omega
    rw [hm, e2, bits_xor_u64_nat m _ (by omega) (by omega), xor_ones m (by omega)]
    omega
  · rw [if_neg h]
    obtain ⟨m, hm⟩ := Int.eq_ofNat_of_zero_le (show (0 : Int) ≤ n % 18446744073709551616 * 2 % 18446744073709551616 by omega)
    have e2 : n / 9223372036854775808 % 18446744073709551616 = ((0 : Nat) : Int) := by omega
    rw [hm, e2, bits_xor_u64_nat m _ (by omega) (by omega), Nat.xor_zero]
    omega

theorem implFold_calls (n : Int) (h0 : -9223372036854775808 ≤ n) (h1 : n ≤ 9223372036854775807) (w : World) :
    Calls Tryd.prog 20 #[.int .i64 n] w fun e w' => e = .returned (.int .u64 (fold n)) ∧ w = w' := by
  have hx := xor_fold n h0 h1
  have HX := Lib.hid hx; clear hx
  go_enter Tryd.func20, Tryd.ntmps20
  go_wp2
  go_ret
  exact ⟨ret_int HX.out, rfl⟩

/-- The bytes of a number, seven bits a byte. -/
def vleF : Nat → Nat → List UInt8
  | 0, u => [UInt8.ofNat u]
  | f + 1, u => if u < 128 then [UInt8.ofNat u] else UInt8.ofNat (u % 128 + 128) :: vleF f (u / 128)
def vle (u : Nat) : List UInt8 := vleF 10 u

theorem vleF_more : ∀ f u, u < 128 ^ (f + 1) → vleF (f + 1) u = vleF f u
  | 0, u, h => by show (if u < 128 then _ else _) = _; rw [if_pos (by omega)]; rfl
  | f + 1, u, h => by
    rw [vleF]
    conv => rhs; rw [vleF]
    split
    · rfl
    · rw [vleF_more f (u / 128) (by rw [Nat.pow_succ] at h; omega)]

theorem vle_last (u : Nat) (h : u < 128) : vle u = [UInt8.ofNat u] := by simp [vle, vleF, h]
theorem vle_step (u : Nat) (h : ¬ u < 128) (hu : u < 18446744073709551616) : vle u = UInt8.ofNat (u % 128 + 128) :: vle (u / 128) := by
  unfold vle
  rw [vleF, if_neg h, ← vleF_more 9 (u / 128) (by omega)]

theorem vleF_len : ∀ f u, (vleF f u).length ≤ f + 1
  | 0, u => by simp [vleF]
  | f + 1, u => by
    rw [vleF]
    split
    · simp
    · have := vleF_len f (u / 128)
      simp
      omega
theorem vleF_pos : ∀ f u, 1 ≤ (vleF f u).length
  | 0, u => by simp [vleF]
  | f + 1, u => by rw [vleF]; split <;> simp
theorem vle_len (u : Nat) : (vle u).length ≤ 11 := vleF_len 10 u
theorem vle_pos (u : Nat) : 1 ≤ (vle u).length := vleF_pos 10 u

theorem or128 (x : Nat) (h : x < 256) : bits .or .u8 (x : Int) 128 = ((x % 128 + 128 : Nat) : Int) := by
  have e := (bits_nat .u8 8 (by decide) wraps_u8 x 128 (by omega) (by decide)).2
  have d : ∀ y : Fin 256, y.1 ||| 128 = y.1 % 128 + 128 := by decide +kernel
  rw [d ⟨x, h⟩] at e
  exact e

def U64 (k : Nat) : Prop := k < 18446744073709551616
def putNum (n : Int) : ByteArray := ⟨(vle (fold n).toNat).toArray⟩

set_option maxRecDepth 100000 in
theorem specPutNum_calls (n : Int) (h0 : -9223372036854775808 ≤ n) (h1 : n ≤ 9223372036854775807) (w : World) :
    Calls Tryd.prog 8 #[.int .i64 n] w fun e w' => e = .returned (.string (putNum n)) ∧ Below w.heap.size w w' := by
  obtain ⟨f0, f1⟩ := fold_nn n h0 h1
  obtain ⟨u0, hu0⟩ := Int.eq_ofNat_of_zero_le f0
  have HP : Hid (putNum n = ⟨(vle u0).toArray⟩) := by unfold putNum; rw [hu0]; rfl
  have HB : U64 u0 := by unfold U64; omega
  clear f0 f1
  have HU := Lib.hid hu0; clear hu0
  go_enter Tryd.func8, Tryd.ntmps8
  go_wp2_with (go_at_call 21; refine (specFold_calls n h0 h1 _).mono ?_; rintro e w' ⟨rfl, rfl⟩; rw [HU.out])
  clear h0 h1
  go_loopw [3, 4] (fun u v wr => ∃ (k : Nat) (l : List UInt8), u = .int .u64 k ∧ U64 k ∧ l ++ vle k = vle u0 ∧ l.length ≤ 20 ∧ B8 wr w.heap.size v l ∧ Below w.heap.size w wr)
    (fun u _ _ => (intOf u).toNat)
  case atStart => exact ⟨u0, [], rfl, HB, rfl, by simp, B8.empty _ _ (Nat.le_refl _), (Below.refl _ _).alloc (Nat.le_refl _) _⟩
  case round =>
    obtain ⟨k, l, rfl, hk, hl, hll, hown, hbel⟩ := hrel
    have HL := Lib.hid hl; clear hl
    have hsz := hbel.size
    by_cases hlt : 128 ≤ k
    · obtain ⟨b, hb, HX⟩ : ∃ b : UInt8, b = UInt8.ofNat (k % 128 + 128) ∧ Hid ((k : Int) % 128 + 128 = (b.toNat : Int)) := by
        refine ⟨_, rfl, ?_⟩
        unfold Hid
        rw [UInt8.toNat_ofNat']
        omega
      have HV : Hid ((l ++ [b]) ++ vle (k / 128) = vle u0) := by
        unfold Hid
        rw [← HL.out, vle_step k (by omega) hk, hb, List.append_assoc]
        rfl
      clear hb
      have HW : Hid (IntKind.u64.wrap ((k : Int) / 128) = ((k / 128 : Nat) : Int)) := by
        unfold Hid
        unfold U64 at hk
        rw [IntKind.wrap_u64]
        omega
      have hl2 : 128 ≤ k → l.length ≤ 9 := by
        intro _
        have := congrArg List.length HL.out
        rw [vle_step k (by omega) hk] at this
        have h2 := vle_len u0
        have h3 := vle_pos (k / 128)
        simp at this
        omega
      go_wp2_with (at_builtin; refine wp_put1 (.tmp 10) (.tmp 15) _ b w.heap.size _ l rfl rfl rfl hown rfl HX.out (by omega) hsz ?_; intro v' w' hown' hbel')
      go_roundw
      case rel =>
        exact ⟨k / 128, l ++ [b], by first | rw [HW.out] | go_num, by unfold U64 at hk ⊢; omega, HV.out, by simp; omega, hown', hbel.trans hbel'⟩
      case measure => first | (simp only [intOf, HW.out]; omega) | (simp [intOf]; omega)
    · obtain ⟨b, hb, HX⟩ : ∃ b : UInt8, b = UInt8.ofNat k ∧ Hid ((k : Int) = (b.toNat : Int)) := by
        refine ⟨_, rfl, ?_⟩
        unfold Hid
        rw [UInt8.toNat_ofNat']
        omega
      have HV : Hid (l ++ [b] = vle u0) := by
        unfold Hid
        rw [← HL.out, vle_last k (by omega), hb]
      clear hb
      go_wp2_with (first
        | (at_builtin; refine wp_put1 (.tmp 19) (.tmp 22) _ b w.heap.size _ l rfl rfl rfl hown rfl HX.out (by omega) hsz ?_; intro v' w' hown' hbel')
        | (refine wp_str (.tmp 23) w.heap.size _ (l ++ [b]) rfl rfl rfl (by assumption) ?_))
      go_ret
      refine ⟨ret_str ?_, ?_⟩
      · rw [HP.out, ← HV.out]
      · exact hbel.trans (by assumption)
set_option maxRecDepth 100000 in
theorem implPutNum_calls (n : Int) (h0 : -9223372036854775808 ≤ n) (h1 : n ≤ 9223372036854775807) (w : World) :
    Calls Tryd.prog 7 #[.int .i64 n] w fun e w' => e = .returned (.string (putNum n)) ∧ Below w.heap.size w w' := by
  obtain ⟨f0, f1⟩ := fold_nn n h0 h1
  obtain ⟨u0, hu0⟩ := Int.eq_ofNat_of_zero_le f0
  have HP : Hid (putNum n = ⟨(vle u0).toArray⟩) := by unfold putNum; rw [hu0]; rfl
  have HB : U64 u0 := by unfold U64; omega
  clear f0 f1
  have HU := Lib.hid hu0; clear hu0
  go_enter Tryd.func7, Tryd.ntmps7
  go_wp2_with (go_at_call 20; refine (implFold_calls n h0 h1 _).mono ?_; rintro e w' ⟨rfl, rfl⟩; rw [HU.out])
  clear h0 h1
  go_loopw [3, 4] (fun u v wr => ∃ (k : Nat) (l : List UInt8), u = .int .u64 k ∧ U64 k ∧ l ++ vle k = vle u0 ∧ l.length ≤ 20 ∧ B8 wr w.heap.size v l ∧ Below w.heap.size w wr)
    (fun u _ _ => (intOf u).toNat)
  case atStart => exact ⟨u0, [], rfl, HB, rfl, by simp, B8.nil _ _, Below.refl _ _⟩
  case round =>
    obtain ⟨k, l, rfl, hk, hl, hll, hown, hbel⟩ := hrel
    have HL := Lib.hid hl; clear hl
    have hsz := hbel.size
    by_cases hlt : 128 ≤ k
    · obtain ⟨b, hb, HX⟩ : ∃ b : UInt8, b = UInt8.ofNat (k % 128 + 128) ∧ Hid (bits BinOp.or IntKind.u8 (IntKind.u8.wrap (k : Int)) 128 = (b.toNat : Int)) := by
        refine ⟨_, rfl, ?_⟩
        unfold Hid
        have e := or128 (k % 256) (by omega)
        rw [UInt8.toNat_ofNat', IntKind.wrap_u8, show (k : Int) % 256 = ((k % 256 : Nat) : Int) from by omega, e]
        omega
      have HV : Hid ((l ++ [b]) ++ vle (k / 128) = vle u0) := by
        unfold Hid
        rw [← HL.out, vle_step k (by omega) hk, hb, List.append_assoc]
        rfl
      clear hb
      have HW : Hid (IntKind.u64.wrap ((k : Int) / 128) = ((k / 128 : Nat) : Int)) := by
        unfold Hid
        unfold U64 at hk
        rw [IntKind.wrap_u64]
        omega
      have hl2 : 128 ≤ k → l.length ≤ 9 := by
        intro _
        have := congrArg List.length HL.out
        rw [vle_step k (by omega) hk] at this
        have h2 := vle_len u0
        have h3 := vle_pos (k / 128)
        simp at this
        omega
      go_wp2_with (at_builtin; refine wp_put1 (.tmp 9) (.tmp 13) _ b w.heap.size _ l rfl rfl rfl hown rfl HX.out (by omega) hsz ?_; intro v' w' hown' hbel')
      go_roundw
      case rel =>
        exact ⟨k / 128, l ++ [b], by first | rw [HW.out] | go_num, by unfold U64 at hk ⊢; omega, HV.out, by simp; omega, hown', hbel.trans hbel'⟩
      case measure => first | (simp only [intOf, HW.out]; omega) | (simp [intOf]; omega)
    · obtain ⟨b, hb, HX⟩ : ∃ b : UInt8, b = UInt8.ofNat k ∧ Hid ((k : Int) = (b.toNat : Int)) := by
        refine ⟨_, rfl, ?_⟩
        unfold Hid
        rw [UInt8.toNat_ofNat']
        omega
      have HV : Hid (l ++ [b] = vle u0) := by
        unfold Hid
        rw [← HL.out, vle_last k (by omega), hb]
      clear hb
      go_wp2_with (first
        | (at_builtin; refine wp_put1 (.tmp 17) (.tmp 20) _ b w.heap.size _ l rfl rfl rfl hown rfl HX.out (by omega) hsz ?_; intro v' w' hown' hbel')
        | (refine wp_str (.tmp 21) w.heap.size _ (l ++ [b]) rfl rfl rfl (by assumption) ?_))
      go_ret
      refine ⟨ret_str ?_, ?_⟩
      · rw [HP.out, ← HV.out]
      · exact hbel.trans (by assumption)
end Go.Proofs.YtbohfmnobhodcaaDoor.num
