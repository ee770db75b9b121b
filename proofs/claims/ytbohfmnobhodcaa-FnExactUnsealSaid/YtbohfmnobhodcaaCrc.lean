/- Contracts of the functions behind Crc and CrcMore: the register as a natural number. -/
import Derived.Test.YtbohfmnobhodcaaLong
namespace Go.Proofs.Ytbohfmnobhodcaa.crc
open Go.RowKit Go.Proofs.Ytbohfmnobhodcaa.lib
set_option linter.unusedVariables false

theorem xor32 (a b : Nat) (ha : a < 4294967296) (hb : b < 4294967296) : bits .xor .u32 (a : Int) (b : Int) = ((a ^^^ b : Nat) : Int) := by
  have hx : a ^^^ b < 2 ^ 32 := Nat.xor_lt_two_pow (by omega) (by omega)
  have h1 : (BitVec.ofInt 32 (a : Int)).toNat = a := by
    rw [BitVec.ofInt_natCast, BitVec.toNat_ofNat]; exact Nat.mod_eq_of_lt (by omega)
  have h2 : (BitVec.ofInt 32 (b : Int)).toNat = b := by
    rw [BitVec.ofInt_natCast, BitVec.toNat_ofNat]; exact Nat.mod_eq_of_lt (by omega)
  show IntKind.u32.wrap ((BitVec.ofInt 32 (a : Int) ^^^ BitVec.ofInt 32 (b : Int)).toNat : Int) = _
  rw [BitVec.toNat_xor, h1, h2, IntKind.wrap_u32]
  omega

theorem and32 (a : Nat) (ha : a < 4294967296) : bits .and .u32 (a : Int) 1 = (a : Int) % 2 := by
  have h1 : (BitVec.ofInt 32 (a : Int)).toNat = a := by
    rw [BitVec.ofInt_natCast, BitVec.toNat_ofNat]; exact Nat.mod_eq_of_lt (by omega)
  have h2 : (BitVec.ofInt 32 (1 : Int)).toNat = 1 := by decide
  show IntKind.u32.wrap ((BitVec.ofInt 32 (a : Int) &&& BitVec.ofInt 32 (1 : Int)).toNat : Int) = _
  rw [BitVec.toNat_and, h1, h2, IntKind.wrap_u32, Nat.and_one_is_mod]
  omega

theorem ones32 (a : Nat) (h : a < 4294967296) : a ^^^ 4294967295 = 4294967295 - a := by
  have e : (BitVec.ofNat 32 a ^^^ BitVec.allOnes 32).toNat = (~~~ BitVec.ofNat 32 a).toNat := by rw [BitVec.xor_allOnes]
  rw [BitVec.toNat_xor, BitVec.toNat_not, BitVec.toNat_allOnes, BitVec.toNat_ofNat, Nat.mod_eq_of_lt (by omega)] at e
  simpa using e

def bitS (q : Nat) : Nat := if q % 2 = 1 then q / 2 ^^^ 3988292384 else q / 2
def bitN : Nat → Nat → Nat
  | 0, q => q
  | k + 1, q => bitS (bitN k q)
def byteS (r c : Nat) : Nat := bitN 8 (r ^^^ c)
def reg (r : Nat) (l : List UInt8) : Nat := l.foldl (fun q c => byteS q c.toNat) r
def crcMore (crc : Nat) (l : List UInt8) : Nat := 4294967295 - reg (4294967295 - crc) l

theorem bitS_lt (q : Nat) (h : q < 4294967296) : bitS q < 4294967296 := by
  unfold bitS
  split
  · exact Nat.xor_lt_two_pow (n := 32) (by omega) (by omega)
  · omega
theorem bitN_lt : ∀ k q, q < 4294967296 → bitN k q < 4294967296
  | 0, q, h => h
  | k + 1, q, h => bitS_lt _ (bitN_lt k q h)
theorem byteS_lt (r c : Nat) (hr : r < 4294967296) (hc : c < 256) : byteS r c < 4294967296 :=
  bitN_lt 8 _ (Nat.xor_lt_two_pow (n := 32) (by omega) (by omega))
theorem reg_lt (r : Nat) (l : List UInt8) (hr : r < 4294967296) : reg r l < 4294967296 := by
  induction l generalizing r with
  | nil => exact hr
  | cons c l ih => exact ih _ (byteS_lt r _ hr c.toNat_lt)
theorem reg_snoc (r : Nat) (l : List UInt8) (c : UInt8) : reg r (l ++ [c]) = byteS (reg r l) c.toNat := by
  unfold reg
  rw [List.foldl_append]
  rfl
theorem take_snoc (s : ByteArray) (k : Nat) (h : k < s.size) : s.data.toList.take (k + 1) = s.data.toList.take k ++ [s[k]] := by
  rw [List.take_succ_eq_append_getElem (by simpa using h)]; rfl

/-- One bit: what the walk computes, in its own spelling. -/
theorem bit_facts (q : Nat) (h : q < 4294967296) : ∃ q', q' = bitS q ∧ q' < 4294967296 ∧
    (q % 2 = 1 → bits BinOp.xor IntKind.u32 ((q : Int) / 2) 3988292384 = (q' : Int)) ∧ (q % 2 ≠ 1 → (q : Int) / 2 = (q' : Int)) := by
  refine ⟨_, rfl, bitS_lt q h, fun e => ?_, fun e => ?_⟩
  · have := xor32 (q / 2) 3988292384 (by omega) (by omega)
    rw [show ((q / 2 : Nat) : Int) = (q : Int) / 2 from by omega] at this
    rw [show bitS q = q / 2 ^^^ 3988292384 from by unfold bitS; rw [if_pos e]]
    exact this
  · rw [show bitS q = q / 2 from by unfold bitS; rw [if_neg e]]
    omega

set_option maxRecDepth 100000 in
theorem crcByte_calls (r c : Nat) (hr : r < 4294967296) (hc : c < 256) (w : World) :
    Calls Try.prog 40 #[.int .u32 r, .int .u8 c] w fun e w' => e = .returned (.int .u32 (byteS r c)) ∧ w = w' := by
  have hx := xor32 r c hr (by omega)
  obtain ⟨x, hxe⟩ : ∃ x, x = r ^^^ c := ⟨_, rfl⟩
  have hxl : x < 4294967296 := by rw [hxe]; exact Nat.xor_lt_two_pow (n := 32) (by omega) (by omega)
  rw [← hxe] at hx
  have HP : Hid (byteS r c = bitN 8 x) := by rw [hxe]; rfl
  clear hxe
  go_enter Try.func40, Try.ntmps40
  go_wp2
  clear hx hr hc
  go_loop [0, 10] (fun a i => ∃ k q : Nat, k ≤ 8 ∧ i = .int .i64 k ∧ a = .int .u32 q ∧ Hid (q = bitN k x) ∧ Hid (q < 4294967296)) (fun _ i => 8 - (intOf i).toNat)
  case atStart => exact ⟨0, x, by omega, rfl, rfl, rfl, hxl⟩
  case round =>
    obtain ⟨k, q, hk, rfl, rfl, HQ, HL⟩ := hrel
    obtain ⟨q', hq', hl', f1, f2⟩ := bit_facts q HL.out
    have ha := and32 q HL.out
    have HN : Hid (q' = bitN (k + 1) x) := by unfold Hid; rw [hq', HQ.out]; rfl
    have HM : Hid (q' < 4294967296) := hl'
    clear hl' hq' hxl
    by_cases hlt : k < 8
    · by_cases hb : q % 2 = 1
      · have t := f1 hb
        have hb1 : ((q : Int) % 2 == 1) = true := by rw [beq_iff_eq]; omega
        clear f1 f2 hb
        go_wp2
        go_round
        case rel => exact ⟨k + 1, q', by omega, by go_num, rfl, HN, HM⟩
        case measure => simp [intOf]; omega
      · have t := f2 hb
        have hb1 : ((q : Int) % 2 == 1) = false := by rw [beq_eq_false_iff_ne]; omega
        clear f1 f2 hb
        go_wp2
        go_round
        case rel => exact ⟨k + 1, q', by omega, by go_num, rfl, HN, HM⟩
        case measure => simp [intOf]; omega
    · go_wp2
      go_ret
      have e : k = 8 := by omega
      exact ⟨ret_int (by rw [HP.out, HQ.out, e]), rfl⟩

theorem not32 (q : Nat) (h : q < 4294967296) : bits BinOp.xor IntKind.u32 IntKind.u32.max (q : Int) = ((4294967295 - q : Nat) : Int) := by
  have e : IntKind.u32.max = ((4294967295 : Nat) : Int) := by decide
  rw [e, xor32 _ q (by omega) h, Nat.xor_comm, ones32 q h]
theorem not32' (q : Nat) (h : q < 4294967296) : bits BinOp.xor IntKind.u32 (q : Int) 4294967295 = ((4294967295 - q : Nat) : Int) := by
  have e : (4294967295 : Int) = ((4294967295 : Nat) : Int) := by decide
  rw [e, xor32 q _ h (by omega), ones32 q h]

def crcMoreI (crc : Int) (s : ByteArray) : Int :=
  if 8000 < s.size ∨ crc < 0 ∨ 4294967295 < crc then 0 else ((crcMore crc.toNat s.data.toList : Nat) : Int)

theorem crcMore_lt (c : Nat) (l : List UInt8) : crcMore c l < 4294967296 := by unfold crcMore; omega

set_option maxRecDepth 100000 in
theorem implCrcMore_yes (crc : Nat) (hc : crc < 4294967296) (s : ByteArray) (hs : s.size ≤ 8000) (w : World) :
    Calls Try.prog 17 #[.int .i64 crc, .string s] w fun e w' => e = .returned (.int .i64 (crcMore crc s.data.toList)) ∧ w = w' := by
  have d1 : decide ((8000 : Int) < s.size) = false := by simp; omega
  have hn := not32 crc hc
  obtain ⟨r0, hr0⟩ : ∃ r0, r0 = 4294967295 - crc := ⟨_, rfl⟩
  rw [← hr0] at hn
  have H0 : Hid (r0 < 4294967296) := by unfold Hid; omega
  have HP : Hid (crcMore crc s.data.toList = 4294967295 - reg r0 s.data.toList) := by unfold Hid; rw [hr0]; rfl
  clear hr0
  go_enter Try.func17, Try.ntmps17
  go_wp2_with (go_at_call 37; refine (tooLong_calls _ (by omega) _).mono ?_; rintro e w' ⟨rfl, rfl⟩)
  clear hn d1
  go_loop [5, 22] (fun a i => ∃ k q : Nat, k ≤ s.size ∧ i = .int .i64 k ∧ a = .int .u32 q ∧ Hid (q = reg r0 (s.data.toList.take k)) ∧ Hid (q < 4294967296)) (fun _ i => s.size - (intOf i).toNat)
  case atStart => exact ⟨0, r0, by omega, rfl, rfl, rfl, H0⟩
  case round =>
    obtain ⟨k, q, hk, rfl, rfl, HQ, HL⟩ := hrel
    by_cases hlt : k < s.size
    · have HN : Hid (byteS q s[k].toNat = reg r0 (s.data.toList.take (k + 1))) := by
        unfold Hid; rw [take_snoc s k hlt, reg_snoc, HQ.out]
      have HM : Hid (byteS q s[k].toNat < 4294967296) := byteS_lt _ _ HL.out s[k].toNat_lt
      obtain ⟨q', hq'⟩ : ∃ q', q' = byteS q s[k].toNat := ⟨_, rfl⟩
      rw [← hq'] at HN HM
      have HE := Lib.hid hq'; clear hq'
      go_wp2_with (go_at_call 40; refine (crcByte_calls _ _ HL.out s[k].toNat_lt _).mono ?_; rintro e w' ⟨rfl, rfl⟩; rw [← HE.out])
      go_round
      case rel => exact ⟨k + 1, q', by omega, by go_num, rfl, HN, HM⟩
      case measure => simp [intOf]; omega
    · have e : k = s.size := by omega
      have HT : Hid (q = reg r0 s.data.toList) := by
        unfold Hid; rw [HQ.out, List.take_of_length_le (by simp; omega)]
      have hn2 := not32 q HL.out
      obtain ⟨r1, hr1⟩ : ∃ r1, r1 = 4294967295 - q := ⟨_, rfl⟩
      rw [← hr1] at hn2
      have HR := Lib.hid hr1; clear hr1
      have hr2 : r1 ≤ 4294967295 := by have := HR.out; omega
      clear e
      go_wp2
      go_ret
      exact ⟨ret_int (by rw [HP.out, ← HT.out, ← HR.out]), rfl⟩

theorem implCrcMore_calls (crc : Int) (s : ByteArray) (hs : s.size ≤ 9223372036854775807) (w : World) :
    Calls Try.prog 17 #[.int .i64 crc, .string s] w fun e w' => e = .returned (.int .i64 (crcMoreI crc s)) ∧ w = w' := by
  by_cases h : 8000 < s.size ∨ crc < 0 ∨ 4294967295 < crc
  · have HP : Hid (crcMoreI crc s = 0) := by unfold Hid crcMoreI; rw [if_pos h]
    by_cases h1 : 8000 < s.size
    · have d1 : decide ((8000 : Int) < s.size) = true := by simp; omega
      clear h
      go_enter Try.func17, Try.ntmps17
      go_wp2_with (go_at_call 37; refine (tooLong_calls _ (by omega) _).mono ?_; rintro e w' ⟨rfl, rfl⟩)
      go_ret
      exact ⟨ret_int HP.out.symm, rfl⟩
    · have d1 : decide ((8000 : Int) < s.size) = false := by simp; omega
      by_cases h2 : crc < 0
      · clear h
        go_enter Try.func17, Try.ntmps17
        go_wp2_with (go_at_call 37; refine (tooLong_calls _ (by omega) _).mono ?_; rintro e w' ⟨rfl, rfl⟩)
        go_ret
        exact ⟨ret_int HP.out.symm, rfl⟩
      · have h3 : 4294967295 < crc := by omega
        clear h
        go_enter Try.func17, Try.ntmps17
        go_wp2_with (go_at_call 37; refine (tooLong_calls _ (by omega) _).mono ?_; rintro e w' ⟨rfl, rfl⟩)
        go_ret
        exact ⟨ret_int HP.out.symm, rfl⟩
  · obtain ⟨c, rfl⟩ := Int.eq_ofNat_of_zero_le (show 0 ≤ crc by omega)
    refine (implCrcMore_yes c (by omega) s (by omega) w).mono ?_
    rintro e w' ⟨rfl, rfl⟩
    exact ⟨ret_int (by unfold crcMoreI; rw [if_neg h]; simp), rfl⟩

theorem implCrc_calls (s : ByteArray) (hs : s.size ≤ 9223372036854775807) (w : World) :
    Calls Try.prog 19 #[.string s] w fun e w' => e = .returned (.int .i64 (crcMoreI 0 s)) ∧ w = w' := by
  go_enter Try.func19, Try.ntmps19
  go_wp2_with (go_at_call 17; refine (implCrcMore_calls _ _ hs _).mono ?_; rintro e w' ⟨rfl, rfl⟩)
  go_ret
  exact ⟨rfl, rfl⟩

set_option maxRecDepth 100000 in
theorem specL01Crc_calls (crc : Nat) (hc : crc < 4294967296) (s : ByteArray) (hs : s.size ≤ 9223372036854775807) (w : World) :
    Calls Try.prog 36 #[.int .i64 crc, .string s] w fun e w' => e = .returned (.int .i64 (crcMore crc s.data.toList)) ∧ w = w' := by
  have hn := not32' crc hc
  obtain ⟨r0, hr0⟩ : ∃ r0, r0 = 4294967295 - crc := ⟨_, rfl⟩
  rw [← hr0] at hn
  have H0 : Hid (r0 < 4294967296) := by unfold Hid; omega
  have HP : Hid (crcMore crc s.data.toList = 4294967295 - reg r0 s.data.toList) := by unfold Hid; rw [hr0]; rfl
  clear hr0
  go_enter Try.func36, Try.ntmps36
  go_wp2
  clear hn hc
  go_loop [5, 6, 7] (fun a i _ => ∃ k q : Nat, k ≤ s.size ∧ i = .int .i64 k ∧ a = .int .u32 q ∧ Hid (q = reg r0 (s.data.toList.take k)) ∧ Hid (q < 4294967296)) (fun _ i _ => s.size - (intOf i).toNat)
  case atStart => exact ⟨0, r0, by omega, rfl, rfl, rfl, H0⟩
  case round =>
    obtain ⟨k, q, hk, rfl, rfl, HQ, HL⟩ := hrel
    by_cases hlt : k < s.size
    · have HN : Hid (byteS q s[k].toNat = reg r0 (s.data.toList.take (k + 1))) := by
        unfold Hid; rw [take_snoc s k hlt, reg_snoc, HQ.out]
      have HM : Hid (byteS q s[k].toNat < 4294967296) := byteS_lt _ _ HL.out s[k].toNat_lt
      have hx := xor32 q s[k].toNat HL.out (by have := s[k].toNat_lt; omega)
      obtain ⟨x, hxe⟩ : ∃ x, x = q ^^^ s[k].toNat := ⟨_, rfl⟩
      have HX : Hid (x < 4294967296) := by unfold Hid; rw [hxe]; exact Nat.xor_lt_two_pow (n := 32) HL.out (by have := s[k].toNat_lt; omega)
      rw [← hxe, show ((s[k].toNat : Nat) : Int) = (s[k].toNat : Int) % 4294967296 from by have := s[k].toNat_lt; omega] at hx
      have HE : Hid (byteS q s[k].toNat = bitN 8 x) := by unfold Hid; rw [hxe]; rfl
      clear hxe
      go_wp2
      clear hx
      go_loop [5, 7] (fun a i => ∃ j y : Nat, j ≤ 8 ∧ i = .int .i64 j ∧ a = .int .u32 y ∧ Hid (y = bitN j x) ∧ Hid (y < 4294967296)) (fun _ i => 8 - (intOf i).toNat)
      case atStart => exact ⟨0, x, by omega, rfl, rfl, rfl, HX⟩
      case round =>
        obtain ⟨j, y, hj, rfl, rfl, HQ2, HL2⟩ := hrel
        obtain ⟨q', hq', hl', f1, f2⟩ := bit_facts y HL2.out
        have ha := and32 y HL2.out
        have HN2 : Hid (q' = bitN (j + 1) x) := by unfold Hid; rw [hq', HQ2.out]; rfl
        have HM2 : Hid (q' < 4294967296) := hl'
        clear hl' hq'
        by_cases hlt2 : j < 8
        · by_cases hb : y % 2 = 1
          · have t := f1 hb
            have hb1 : ((y : Int) % 2 == 1) = true := by rw [beq_iff_eq]; omega
            clear f1 f2 hb
            go_wp2
            go_round
            case rel => exact ⟨j + 1, q', by omega, by go_num, rfl, HN2, HM2⟩
            case measure => simp [intOf]; omega
          · have t := f2 hb
            have hb1 : ((y : Int) % 2 == 1) = false := by rw [beq_eq_false_iff_ne]; omega
            clear f1 f2 hb
            go_wp2
            go_round
            case rel => exact ⟨j + 1, q', by omega, by go_num, rfl, HN2, HM2⟩
            case measure => simp [intOf]; omega
        · have e : j = 8 := by omega
          have HY : Hid (y = reg r0 (s.data.toList.take (k + 1))) := by
            unfold Hid; rw [← HN.out, HE.out, HQ2.out, e]
          clear e ha f1 f2
          go_wp2
          go_round
          case rel => exact ⟨k + 1, y, by omega, by go_num, rfl, HY, HL2⟩
          case measure => simp [intOf]; omega
    · have e : k = s.size := by omega
      have HT : Hid (q = reg r0 s.data.toList) := by
        unfold Hid; rw [HQ.out, List.take_of_length_le (by simp; omega)]
      have hn2 := not32' q HL.out
      obtain ⟨r1, hr1⟩ : ∃ r1, r1 = 4294967295 - q := ⟨_, rfl⟩
      rw [← hr1] at hn2
      have HR := Lib.hid hr1; clear hr1
      have hr2 : r1 ≤ 4294967295 := by have := HR.out; omega
      clear e
      go_wp2
      go_ret
      exact ⟨ret_int (by rw [HP.out, ← HT.out, ← HR.out]), rfl⟩

theorem specCrcMore_calls (crc : Int) (s : ByteArray) (hs : s.size ≤ 9223372036854775807) (w : World) :
    Calls Try.prog 18 #[.int .i64 crc, .string s] w fun e w' => e = .returned (.int .i64 (crcMoreI crc s)) ∧ w = w' := by
  by_cases h : 8000 < s.size ∨ crc < 0 ∨ 4294967295 < crc
  · have HP : Hid (crcMoreI crc s = 0) := by unfold Hid crcMoreI; rw [if_pos h]
    by_cases h1 : 8000 < s.size
    · clear h
      go_enter Try.func18, Try.ntmps18
      go_wp2_with fail
      all_goals go_ret
      all_goals exact ⟨ret_int HP.out.symm, rfl⟩
    · by_cases h2 : crc < 0
      · clear h
        go_enter Try.func18, Try.ntmps18
        go_wp2_with fail
        all_goals go_ret
        all_goals exact ⟨ret_int HP.out.symm, rfl⟩
      · have h3 : 4294967295 < crc := by omega
        clear h
        go_enter Try.func18, Try.ntmps18
        go_wp2_with fail
        all_goals go_ret
        all_goals exact ⟨ret_int HP.out.symm, rfl⟩
  · obtain ⟨c, rfl⟩ := Int.eq_ofNat_of_zero_le (show 0 ≤ crc by omega)
    have HP : Hid (crcMoreI (c : Int) s = crcMore c s.data.toList) := by unfold Hid crcMoreI; rw [if_neg h]; simp
    have d1 : decide ((8000 : Int) < s.size) = false := by simp; omega
    have d3 : decide (4294967295 < (c : Int)) = false := by simp; omega
    have hc : c < 4294967296 := by omega
    clear h
    go_enter Try.func18, Try.ntmps18
    go_wp2_with (go_at_call 36; refine (specL01Crc_calls c hc s hs _).mono ?_; rintro e w' ⟨rfl, rfl⟩)
    go_ret
    exact ⟨ret_int HP.out.symm, rfl⟩

theorem specCrc_calls (s : ByteArray) (hs : s.size ≤ 9223372036854775807) (w : World) :
    Calls Try.prog 26 #[.string s] w fun e w' => e = .returned (.int .i64 (crcMoreI 0 s)) ∧ w = w' := by
  by_cases h1 : 8000 < s.size
  · have HP : Hid (crcMoreI 0 s = 0) := by unfold Hid crcMoreI; rw [if_pos (.inl h1)]
    go_enter Try.func26, Try.ntmps26
    go_wp2_with fail
    all_goals go_ret
    all_goals exact ⟨ret_int HP.out.symm, rfl⟩
  · have HP : Hid (crcMoreI 0 s = crcMore 0 s.data.toList) := by unfold Hid crcMoreI; rw [if_neg (by omega)]; rfl
    go_enter Try.func26, Try.ntmps26
    go_wp2_with (go_at_call 36; refine (specL01Crc_calls 0 (by omega) s hs _).mono ?_; rintro e w' ⟨rfl, rfl⟩)
    go_ret
    exact ⟨ret_int HP.out.symm, rfl⟩
end Go.Proofs.Ytbohfmnobhodcaa.crc
