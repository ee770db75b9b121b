/- Plain mathematics behind FnNums: what was put is got back; of bytes that end too early nothing is got. -/
import Derived.Test.YtbohfmnobhodcaaDoorSTget
import Derived.Test.YtbohfmnobhodcaaDoorText
namespace Go.Proofs.YtbohfmnobhodcaaDoor.nmt
open Go.RowKit Go.Proofs.YtbohfmnobhodcaaDoor.lib Go.Proofs.YtbohfmnobhodcaaDoor.num Go.Proofs.YtbohfmnobhodcaaDoor.get Go.Proofs.YtbohfmnobhodcaaDoor.tget Go.Proofs.YtbohfmnobhodcaaDoor.sea
set_option linter.unusedVariables false

theorem drop_head {S : ByteArray} {p : Nat} {c : UInt8} {r : List UInt8} (h : S.data.toList.drop p = c :: r) : ∃ hp : p < S.size, S[p] = c ∧ S.data.toList.drop (p + 1) = r := by
  have hl : p < S.data.toList.length := by
    rcases Nat.lt_or_ge p S.data.toList.length with h1 | h1
    · exact h1
    · rw [List.drop_of_length_le h1] at h; cases h
  have hp : p < S.size := by simpa using hl
  rw [List.drop_eq_getElem_cons hl] at h
  injection h with h1 h2
  exact ⟨hp, h1, h2⟩

theorem vle_small (v : Nat) (h : v < 18446744073709551616) : (vle v).length ≤ 10 := by
  have : vle v = vleF 9 v := vleF_more 9 v (by omega)
  rw [this]
  exact vleF_len 9 v

theorem byte_last (v : Nat) (h : v < 128) : (UInt8.ofNat v).toNat = v := by rw [UInt8.toNat_ofNat']; omega
theorem byte_more (v : Nat) : (UInt8.ofNat (v % 128 + 128)).toNat = v % 128 + 128 := by rw [UInt8.toNat_ofNat']; omega

theorem pow_step (acc v i : Nat) : acc + v % 128 * 2 ^ (7 * i) + v / 128 * 2 ^ (7 * (i + 1)) = acc + v * 2 ^ (7 * i) := by
  have e : 2 ^ (7 * (i + 1)) = 128 * 2 ^ (7 * i) := by rw [show 7 * (i + 1) = 7 * i + 7 from by omega, Nat.pow_add, Nat.mul_comm]
  rw [e, ← Nat.mul_assoc, Nat.add_assoc, ← Nat.add_mul]
  congr 2
  omega

theorem gn_back : ∀ (f i : Nat) (S : ByteArray) (p acc v : Nat) (B : List UInt8), f + i = 10 → 1 ≤ f → S.data.toList.drop p = vle v ++ B → v < 2 ^ (64 - 7 * i) → (0 < i → v ≠ 0) →
    gn f S p i acc = (unfold_ (acc + v * 2 ^ (7 * i)), ((p + (vle v).length : Nat) : Int), 0)
  | 0, i, S, p, acc, v, B, hf, h1, hd, hv, hz => by omega
  | f + 1, i, S, p, acc, v, B, hf, h1, hd, hv, hz => by
    have hv64 : v < 18446744073709551616 := Nat.lt_of_lt_of_le hv (Nat.le_trans (Nat.pow_le_pow_right (by decide) (show 64 - 7 * i ≤ 64 by omega)) (by decide))
    by_cases hs : v < 128
    · rw [vle_last v hs] at hd ⊢
      obtain ⟨hp, hc, hr⟩ := drop_head hd
      have hcn : S[p].toNat = v := by rw [hc, byte_last v hs]
      rw [gn, dif_pos hp, hcn, if_neg, if_pos hs, if_neg]
      · rw [Nat.mod_eq_of_lt hs]; simp
      · intro h; exact hz h.2 h.1
      · rintro ⟨rfl, h⟩
        have e : 2 ^ (64 - 7 * 9) = 2 := by decide
        rw [e] at hv
        omega
    · have hi : i ≤ 8 := by
        rcases Nat.lt_or_ge i 9 with h | h
        · omega
        · have : 2 ^ (64 - 7 * i) ≤ 2 ^ 1 := Nat.pow_le_pow_right (by decide) (by omega)
          omega
      rw [vle_step v hs hv64] at hd ⊢
      obtain ⟨hp, hc, hr⟩ := drop_head hd
      have hcn : S[p].toNat = v % 128 + 128 := by rw [hc, byte_more v]
      have ep : 2 ^ (64 - 7 * i) = 2 ^ (64 - 7 * (i + 1)) * 128 := by rw [show 64 - 7 * i = (64 - 7 * (i + 1)) + 7 from by omega, Nat.pow_add]
      rw [gn, dif_pos hp, hcn, if_neg (by omega), if_neg (by omega), show (v % 128 + 128) % 128 = v % 128 from by omega,
        gn_back f (i + 1) S (p + 1) (acc + v % 128 * 2 ^ (7 * i)) (v / 128) B (by omega) (by omega) hr (by rw [ep] at hv; omega) (fun _ => by omega), pow_step]
      simp only [List.length_cons]
      congr 2
      omega

theorem gn_short : ∀ (f i : Nat) (S : ByteArray) (p acc v : Nat), f + i = 10 → 1 ≤ f → S.data.toList.drop p = (vle v).dropLast → v < 2 ^ (64 - 7 * i) → gn f S p i acc = (0, 0, 4)
  | 0, i, S, p, acc, v, hf, h1, hd, hv => by omega
  | f + 1, i, S, p, acc, v, hf, h1, hd, hv => by
    have hv64 : v < 18446744073709551616 := Nat.lt_of_lt_of_le hv (Nat.le_trans (Nat.pow_le_pow_right (by decide) (show 64 - 7 * i ≤ 64 by omega)) (by decide))
    by_cases hs : v < 128
    · rw [vle_last v hs] at hd
      have hp : ¬ p < S.size := by
        intro h
        have hl := congrArg List.length hd
        simp at hl
        omega
      rw [gn, dif_neg hp]
    · have hi : i ≤ 8 := by
        rcases Nat.lt_or_ge i 9 with h | h
        · omega
        · have : 2 ^ (64 - 7 * i) ≤ 2 ^ 1 := Nat.pow_le_pow_right (by decide) (by omega)
          omega
      have hne : vle (v / 128) ≠ [] := by
        intro h
        have := vle_pos (v / 128)
        rw [h] at this
        simp at this
      rw [vle_step v hs hv64, List.dropLast_cons_of_ne_nil hne] at hd
      obtain ⟨hp, hc, hr⟩ := drop_head hd
      have hcn : S[p].toNat = v % 128 + 128 := by rw [hc, byte_more v]
      have ep : 2 ^ (64 - 7 * i) = 2 ^ (64 - 7 * (i + 1)) * 128 := by rw [show 64 - 7 * i = (64 - 7 * (i + 1)) + 7 from by omega, Nat.pow_add]
      rw [gn, dif_pos hp, hcn, if_neg (by omega), if_neg (by omega)]
      exact gn_short f (i + 1) S (p + 1) _ (v / 128) (by omega) (by omega) hr (by rw [ep] at hv; omega)

theorem unfold_fold (n : Int) : unfold_ (fold n).toNat = n := by
  unfold unfold_ fold
  by_cases h : n < 0
  · rw [if_pos h, if_pos (by omega)]
    omega
  · rw [if_neg h, if_neg (by omega)]
    omega

theorem getNum_back (S : ByteArray) (p : Nat) (n : Int) (B : List UInt8) (h0 : -9223372036854775808 ≤ n) (h1 : n ≤ 9223372036854775807) (hS : S.size ≤ 8000) (hd : S.data.toList.drop p = (putNum n).data.toList ++ B) :
    getNum S (p : Int) = (n, ((p + (putNum n).size : Nat) : Int), 0) := by
  obtain ⟨f0, f1⟩ := fold_nn n h0 h1
  unfold getNum
  rw [if_neg (by omega), if_neg (by omega), Int.toNat_natCast, gn_back 10 0 S p 0 (fold n).toNat B rfl (by omega) hd (by omega) (by omega)]
  simp only [Nat.mul_zero, Nat.pow_zero, Nat.mul_one, Nat.zero_add, unfold_fold]
  rfl

theorem getNum_short (S : ByteArray) (n : Int) (h0 : -9223372036854775808 ≤ n) (h1 : n ≤ 9223372036854775807) (hS : S.size ≤ 8000) (hd : S.data.toList = (putNum n).data.toList.dropLast) :
    getNum S 0 = (0, 0, 4) := by
  obtain ⟨f0, f1⟩ := fold_nn n h0 h1
  unfold getNum
  rw [if_neg (by omega), if_neg (by omega)]
  exact gn_short 10 0 S 0 0 (fold n).toNat rfl (by omega) (by rw [List.drop_zero]; exact hd) (by omega)

theorem putNum_pos (n : Int) (h0 : -9223372036854775808 ≤ n) (h1 : n ≤ 9223372036854775807) : 1 ≤ (putNum n).size ∧ (putNum n).size ≤ 10 := by
  obtain ⟨f0, f1⟩ := fold_nn n h0 h1
  have a := vle_pos (fold n).toNat
  have b := vle_small (fold n).toNat (by omega)
  simpa [putNum, ByteArray.size] using ⟨a, b⟩

/-- A text is got back from its bytes behind one more. -/
theorem getText_back (S u : ByteArray) (hu : u.size ≤ 8000) (hS : S.size ≤ 8000) (c : UInt8) (hd : S.data.toList = c :: ((putNum u.size).data.toList ++ u.data.toList)) :
    getText S 1 = (u, (((putNum u.size).size + u.size + 1 : Nat) : Int), 0) := by
  have hn := getNum_back S 1 u.size u.data.toList (by omega) (by omega) hS (by rw [hd]; rfl)
  have hl : S.size = 1 + (putNum u.size).size + u.size := by
    have := congrArg List.length hd
    simp at this
    omega
  unfold getText
  rw [show ((1 : Nat) : Int) = 1 from rfl] at hn
  simp only [hn]
  rw [if_neg (by simp), if_neg (by omega), if_neg (by omega)]
  have e1 : (((1 + (putNum u.size).size : Nat) : Int)).toNat = 1 + (putNum u.size).size := by omega
  have e2 : ((((1 + (putNum u.size).size : Nat) : Int)) + (u.size : Int)).toNat = 1 + (putNum u.size).size + u.size := by omega
  rw [e1, e2]
  congr 1
  · apply ByteArray.ext
    apply Array.toList_inj.1
    rw [ByteArray.data_extract, Array.toList_extract, List.extract_eq_take_drop, hd]
    have hk : (c :: ((putNum u.size).data.toList ++ u.data.toList)).drop (1 + (putNum u.size).size) = u.data.toList := by
      rw [Nat.add_comm, List.drop_succ_cons]
      exact List.drop_left' (by simp)
    rw [hk, List.take_of_length_le (by simp)]
  · congr 1
    omega

/-- Of a text's bytes without the last one nothing is got. -/
theorem getText_short (S u : ByteArray) (hu : u.size ≤ 8000) (hS : S.size ≤ 8000) (hd : S.data.toList = ((putNum u.size).data.toList ++ u.data.toList).dropLast) :
    (getText S 0).2.2 = 4 := by
  by_cases hz : u.data.toList = []
  · rw [hz, List.append_nil] at hd
    have hn := getNum_short S u.size (by omega) (by omega) hS hd
    unfold getText
    simp only [hn]
    rw [if_pos (by decide)]
  · rw [List.dropLast_append_of_ne_nil hz] at hd
    have hn := getNum_back S 0 u.size u.data.toList.dropLast (by omega) (by omega) hS (by rw [List.drop_zero]; exact hd)
    have hl : S.size = (putNum u.size).size + (u.size - 1) := by
      have := congrArg List.length hd
      simp at this
      omega
    have hup : 1 ≤ u.size := by
      rcases Nat.eq_zero_or_pos u.size with h | h
      · exact absurd (List.eq_nil_of_length_eq_zero (by simpa using h)) hz
      · exact h
    unfold getText
    rw [show ((0 : Nat) : Int) = 0 from rfl] at hn
    simp only [hn]
    rw [if_neg (by simp), if_neg (by omega), if_pos (by omega)]
end Go.Proofs.YtbohfmnobhodcaaDoor.nmt
