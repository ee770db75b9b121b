/- Plain mathematics behind FnSeal: a CRC goes on from text to text; a byte turned is refused. -/
import Derived.Test.YtbohfmnobhodcaaUns
namespace Go.Proofs.Ytbohfmnobhodcaa.smt
open Go.RowKit Go.Proofs.Ytbohfmnobhodcaa.lib Go.Proofs.Ytbohfmnobhodcaa.crc Go.Proofs.Ytbohfmnobhodcaa.sea Go.Proofs.Ytbohfmnobhodcaa.clo
set_option linter.unusedVariables false

theorem xor_big (a : Nat) (h : a < 2147483648) : 2147483648 ≤ a ^^^ 3988292384 := by
  by_cases hc : 2147483648 ≤ a ^^^ 3988292384
  · exact hc
  · exfalso
    have h1 : a ^^^ (a ^^^ 3988292384) < 2 ^ 31 := Nat.xor_lt_two_pow (by omega) (by omega)
    rw [← Nat.xor_assoc, Nat.xor_self, Nat.zero_xor] at h1
    omega

theorem bitS_inj (p q : Nat) (hp : p < 4294967296) (hq : q < 4294967296) (h : bitS p = bitS q) : p = q := by
  have b1 := xor_big (p / 2) (by omega)
  have b2 := xor_big (q / 2) (by omega)
  unfold bitS at h
  by_cases h1 : p % 2 = 1 <;> by_cases h2 : q % 2 = 1
  · rw [if_pos h1, if_pos h2] at h
    have := congrArg (· ^^^ 3988292384) h
    simp only [Nat.xor_assoc, Nat.xor_self, Nat.xor_zero] at this
    omega
  · rw [if_pos h1, if_neg h2] at h
    omega
  · rw [if_neg h1, if_pos h2] at h
    omega
  · rw [if_neg h1, if_neg h2] at h
    omega

theorem bitN_inj : ∀ k p q, p < 4294967296 → q < 4294967296 → bitN k p = bitN k q → p = q
  | 0, _, _, _, _, h => h
  | k + 1, p, q, hp, hq, h => bitN_inj k p q hp hq (bitS_inj _ _ (bitN_lt k p hp) (bitN_lt k q hq) h)

theorem xor_lt32 (r c : Nat) (hr : r < 4294967296) (hc : c < 256) : r ^^^ c < 4294967296 := Nat.xor_lt_two_pow (n := 32) (by omega) (by omega)

theorem byteS_inj (p q c : Nat) (hp : p < 4294967296) (hq : q < 4294967296) (hc : c < 256) (h : byteS p c = byteS q c) : p = q := by
  have := bitN_inj 8 _ _ (xor_lt32 p c hp hc) (xor_lt32 q c hq hc) h
  have := congrArg (· ^^^ c) this
  simpa only [Nat.xor_assoc, Nat.xor_self, Nat.xor_zero] using this

theorem byteS_inj2 (p c d : Nat) (hp : p < 4294967296) (hc : c < 256) (hd : d < 256) (h : byteS p c = byteS p d) : c = d := by
  have := bitN_inj 8 _ _ (xor_lt32 p c hp hc) (xor_lt32 p d hp hd) h
  have := congrArg (p ^^^ ·) this
  simpa only [← Nat.xor_assoc, Nat.xor_self, Nat.zero_xor] using this

theorem reg_inj (l : List UInt8) : ∀ p q, p < 4294967296 → q < 4294967296 → reg p l = reg q l → p = q := by
  induction l with
  | nil => exact fun p q _ _ h => h
  | cons c l ih => exact fun p q hp hq h => byteS_inj p q c.toNat hp hq c.toNat_lt (ih _ _ (byteS_lt p _ hp c.toNat_lt) (byteS_lt q _ hq c.toNat_lt) h)

theorem reg_append (r : Nat) (x y : List UInt8) : reg r (x ++ y) = reg (reg r x) y := by simp [reg, List.foldl_append]

theorem reg_ne (r : Nat) (hr : r < 4294967296) (x y : List UInt8) (c d : UInt8) (h : c ≠ d) : reg r (x ++ c :: y) ≠ reg r (x ++ d :: y) := by
  intro e
  rw [reg_append, reg_append] at e
  have h1 := reg_lt r x hr
  have h2 := reg_inj y _ _ (byteS_lt _ _ h1 c.toNat_lt) (byteS_lt _ _ h1 d.toNat_lt) e
  have h3 := byteS_inj2 _ _ _ h1 c.toNat_lt d.toNat_lt h2
  exact h (UInt8.toNat_inj.1 h3)

theorem crcMore_more (crc : Nat) (hc : crc < 4294967296) (x y : List UInt8) : crcMore (crcMore crc x) y = crcMore crc (x ++ y) := by
  have h1 := reg_lt (4294967295 - crc) x (by omega)
  unfold crcMore
  rw [reg_append, show 4294967295 - (4294967295 - reg (4294967295 - crc) x) = reg (4294967295 - crc) x from by omega]

theorem crcMore_ne (crc : Nat) (hc : crc < 4294967296) (x y : List UInt8) (c d : UInt8) (h : c ≠ d) : crcMore crc (x ++ c :: y) ≠ crcMore crc (x ++ d :: y) := by
  have h0 := reg_ne (4294967295 - crc) (by omega) x y c d h
  have h1 := reg_lt (4294967295 - crc) (x ++ c :: y) (by omega)
  have h2 := reg_lt (4294967295 - crc) (x ++ d :: y) (by omega)
  unfold crcMore
  omega

theorem four_inj (a b : Nat) (ha : a < 4294967296) (hb : b < 4294967296) (h : four a = four b) : a = b := by
  unfold four at h
  simp only [List.cons.injEq] at h
  obtain ⟨h0, h1, h2, h3, _⟩ := h
  have e := fun (x y : UInt8) (h : x = y) => congrArg UInt8.toNat h
  have g0 := e _ _ h0
  have g1 := e _ _ h1
  have g2 := e _ _ h2
  have g3 := e _ _ h3
  simp only [UInt8.toNat_ofNat'] at g0 g1 g2 g3
  omega

theorem crc_goes_on (t u : ByteArray) (h : t.size + u.size ≤ 8000) : crcMoreI (crcMoreI 0 t) u = crcMoreI 0 (t ++ u) := by
  have e1 : crcMoreI 0 t = (crcMore 0 t.data.toList : Nat) := by unfold crcMoreI; rw [if_neg (by omega)]; rfl
  have hl := crcMore_lt 0 t.data.toList
  have e2 : crcMoreI 0 (t ++ u) = (crcMore 0 (t ++ u).data.toList : Nat) := by unfold crcMoreI; rw [if_neg (by simp; omega)]; rfl
  rw [e1, e2]
  unfold crcMoreI
  rw [if_neg (by omega), Int.toNat_natCast, crcMore_more 0 (by omega)]
  simp

/-- The list form of Unseal's test. -/
def unsealL (l : List UInt8) : List UInt8 × Int :=
  if 8000 < l.length then ([], 2) else if l.length < 4 then ([], 4)
  else if l.drop (l.length - 4) = four (crcMore 0 (l.take (l.length - 4))) then (l.take (l.length - 4), 0) else ([], 5)

theorem unsealR_eq (t : ByteArray) : unsealR t = (⟨(unsealL t.data.toList).1.toArray⟩, (unsealL t.data.toList).2) := by
  have hl : t.data.toList.length = t.size := by simp
  have h1 : (t.extract (t.size - 4) t.size).data.toList = t.data.toList.drop (t.size - 4) := by
    simp [ByteArray.data_extract, Array.toList_extract, List.extract_eq_take_drop, List.take_of_length_le]
  have h2 : (t.extract 0 (t.size - 4)).data.toList = t.data.toList.take (t.size - 4) := by
    simp [ByteArray.data_extract, Array.toList_extract, List.extract_eq_take_drop]
  unfold unsealR unsealL
  rw [hl]
  split
  · rfl
  · split
    · rfl
    · rw [ByteArray.toList_eq, ByteArray.toList_eq, h1, h2]
      have h3 : (fourS (crcMore 0 (List.take (t.size - 4) t.data.toList))).data.toList = four (crcMore 0 (List.take (t.size - 4) t.data.toList)) := rfl
      rw [h3]
      split
      · congr 1
        apply ByteArray.ext
        apply Array.toList_inj.1
        rw [h2]
      · rfl

theorem unsealL_seal (l : List UInt8) (h : l.length ≤ 7996) : unsealL (l ++ four (crcMore 0 l)) = (l, 0) := by
  have hf : (four (crcMore 0 l)).length = 4 := rfl
  unfold unsealL
  rw [List.length_append, hf, if_neg (by omega), if_neg (by omega), Nat.add_sub_cancel, List.drop_left' rfl, List.take_left' rfl, if_pos rfl]

theorem unsealL_turned (l : List UInt8) (h : l.length ≤ 7996) (k : Nat) (hk : k < l.length + 4) (d : UInt8) (hd : (l ++ four (crcMore 0 l))[k]'(by simp [four]; omega) ≠ d) :
    (unsealL ((l ++ four (crcMore 0 l)).set k d)).2 = 5 := by
  have hf : (four (crcMore 0 l)).length = 4 := rfl
  unfold unsealL
  rw [List.length_set, List.length_append, hf, if_neg (by omega), if_neg (by omega), Nat.add_sub_cancel]
  rw [if_neg]
  intro e
  by_cases hkl : k < l.length
  · rw [List.set_append_left _ _ hkl, List.drop_left' (by simp), List.take_left' (by simp)] at e
    have e2 := four_inj _ _ (crcMore_lt 0 l) (crcMore_lt 0 _) e
    have hs : l = l.take k ++ l[k] :: l.drop (k + 1) := by simp
    have hs2 : l.set k d = l.take k ++ d :: l.drop (k + 1) := List.set_eq_take_append_cons_drop ▸ by simp [hkl]
    have hne : l[k] ≠ d := by simpa [List.getElem_append_left, hkl] using hd
    have := crcMore_ne 0 (by omega) (l.take k) (l.drop (k + 1)) l[k] d hne
    rw [← hs, ← hs2] at this
    exact this e2
  · rw [List.set_append_right _ _ (by omega), List.drop_left' rfl, List.take_left' rfl] at e
    have : ((four (crcMore 0 l)).set (k - l.length) d)[k - l.length]'(by rw [List.length_set]; omega) = (four (crcMore 0 l))[k - l.length]'(by omega) := by simp only [e]
    rw [List.getElem_set_self] at this
    apply hd
    rw [List.getElem_append_right (by omega)]
    exact this.symm
end Go.Proofs.Ytbohfmnobhodcaa.smt
