/- Contracts of the functions behind GetNum. -/
import Derived.Test.YtbohfmnobhodcaaDoorNum
import Derived.Test.YtbohfmnobhodcaaDoorLong
import Derived.Test.YtbohfmnobhodcaaDoorAs
import Derived.Test.YtbohfmnobhodcaaDoorJump
namespace Go.Proofs.YtbohfmnobhodcaaDoor.get
open Go.RowKit Go.Proofs.YtbohfmnobhodcaaDoor.lib Go.Proofs.YtbohfmnobhodcaaDoor.num Go.Proofs.YtbohfmnobhodcaaDoor.jmp Go.Proofs.YtbohfmnobhodcaaDoor.crc
set_option linter.unusedVariables false

/-- The number that stands for n, back. -/
def unfold_ (u : Nat) : Int := if u % 2 = 1 then -((u / 2 : Nat) : Int) - 1 else ((u / 2 : Nat) : Int)

/-- From byte i of a number on, that lies at place p: the number, the place behind it, the code. -/
def gn : Nat → ByteArray → Nat → Nat → Nat → Int × Int × Int
  | 0, _, _, _, _ => (0, 0, 3)
  | f + 1, s, p, i, u =>
    if h : p < s.size then
      if i = 9 ∧ 1 < s[p].toNat then (0, 0, 3)
      else if s[p].toNat < 128 then
        if s[p].toNat = 0 ∧ 0 < i then (0, 0, 3) else (unfold_ (u + s[p].toNat % 128 * 2 ^ (7 * i)), p + 1, 0)
      else gn f s (p + 1) (i + 1) (u + s[p].toNat % 128 * 2 ^ (7 * i))
    else (0, 0, 4)

def J1 (s : ByteArray) (R : Int × Int × Int) (n : Nat) (a : Act) : Prop :=
  ∃ p i u : Nat, i ≤ 9 ∧ n = 12 - i ∧ p ≤ 9223372036854775807 ∧ u < 2 ^ (7 * i) ∧ gn (10 - i) s p i u = R ∧ ∃ u9 u11 u12 u13 u14 u15 u16 u17 u18 u19 u20 u21 u22 u23 u24 u25 u26 u27 u28 u29 u30 u31 u32 u33 u34 u35 u36 u37 u38 u39 u40 u41 u42 u43 u44 u45 u46 u47 u48 u49 u50 u51 u52 u53 : Value,  a = { tmps := #[.string s, .int .i64 p, undef, undef, .int .i64 0, .int .i64 0, .nilIface, .int .u64 u, .int .u64 (7 * (i : Int)), u9, .int .i64 0, u11, u12, u13, u14, u15, u16, u17, u18, u19, u20, u21, u22, u23, u24, u25, u26, u27, u28, u29, u30, u31, u32, u33, u34, u35, u36, u37, u38, u39, u40, u41, u42, u43, u44, u45, u46, u47, u48, u49, u50, u51, u52, u53], defers := [] }
def J2 (s : ByteArray) (R : Int × Int × Int) (n : Nat) (a : Act) : Prop :=
  ∃ p i u c : Nat, i ≤ 9 ∧ n = 1 ∧ c < 128 ∧ p ≤ 9223372036854775000 ∧ U64 u ∧ (if c = 0 ∧ 0 < i then (0, 0, 3) else (unfold_ u, (p : Int) + 1, 0)) = R ∧ ∃ u10 u11 u12 u13 u14 u15 u16 u17 u18 u19 u20 u21 u22 u23 u24 u25 u26 u27 u28 u29 u30 u31 u32 u33 u34 u35 u36 u37 u38 u39 u40 u41 u42 u43 u44 u45 u46 u47 u48 u49 u50 u51 u52 u53 : Value,  a = { tmps := #[.string s, .int .i64 ((p : Int) + 1), undef, undef, .int .i64 0, .int .i64 0, .nilIface, .int .u64 u, .int .u64 (7 * (i : Int)), .int .u8 c, u10, u11, u12, u13, u14, u15, u16, u17, u18, u19, u20, u21, u22, u23, u24, u25, u26, u27, u28, u29, u30, u31, u32, u33, u34, u35, u36, u37, u38, u39, u40, u41, u42, u43, u44, u45, u46, u47, u48, u49, u50, u51, u52, u53], defers := [] }
def J0 (s : ByteArray) (R : Int × Int × Int) (n : Nat) (a : Act) : Prop :=
  ∃ code : Int, code ≠ 0 ∧ n = 0 ∧ (0, 0, code) = R ∧ ∃ u1 u7 u8 u9 u11 u12 u13 u14 u15 u16 u17 u18 u19 u20 u21 u22 u23 u24 u25 u26 u27 u28 u29 u30 u31 u32 u33 u34 u35 u36 u37 u38 u39 u40 u41 u42 u43 u44 u45 u46 u47 u48 u49 u50 u51 u52 u53 : Value,  a = { tmps := #[.string s, u1, undef, undef, .int .i64 0, .int .i64 0, .nilIface, u7, u8, u9, .int .i64 code, u11, u12, u13, u14, u15, u16, u17, u18, u19, u20, u21, u22, u23, u24, u25, u26, u27, u28, u29, u30, u31, u32, u33, u34, u35, u36, u37, u38, u39, u40, u41, u42, u43, u44, u45, u46, u47, u48, u49, u50, u51, u52, u53], defers := [] }
def J (s : ByteArray) (R : Int × Int × Int) (l : Nat) (n : Nat) (a : Act) : Prop :=
  match l with
  | 0 => J0 s R n a
  | 1 => J1 s R n a
  | 2 => J2 s R n a
  | _ => False

/-- What readNum hands back. -/
def NumEnd (R : Int × Int × Int) (e : Ending) : Prop :=
  (R.2.2 = 0 ∧ e = .returned (.tuple #[.int .i64 R.1, .int .i64 R.2.1, .nilIface])) ∨
  (R.2.2 ≠ 0 ∧ e = .returned (.tuple #[.int .i64 0, .int .i64 0, .iface 48 (.agg #[.int .i64 R.2.2])]))

def getNum (s : ByteArray) (at_ : Int) : Int × Int × Int :=
  if 8000 < s.size then (0, 0, 2) else if at_ < 0 then (0, 0, 1) else gn 10 s at_.toNat 0 0

def placeC (s : ByteArray) (at_ : Int) : Int := if 8000 < s.size then 2 else if at_ < 0 then 1 else 0

theorem placeCode_calls (s : ByteArray) (hs : s.size ≤ 9223372036854775807) (at_ : Int) (w : World) :
    Calls Tryd.prog 31 #[.string s, .int .i64 at_] w fun e w' => e = .returned (.int .i64 (placeC s at_)) ∧ w = w' := by
  by_cases h1 : 8000 < s.size
  · have d1 : decide ((8000 : Int) < s.size) = true := by simp; omega
    go_enter Tryd.func31, Tryd.ntmps31
    go_wp2_with (go_at_call 27; refine (tooLong_calls _ hs _).mono ?_; rintro e w' ⟨rfl, rfl⟩)
    go_ret
    exact ⟨ret_int (by unfold placeC; rw [if_pos h1]), rfl⟩
  · have d1 : decide ((8000 : Int) < s.size) = false := by simp; omega
    by_cases h2 : at_ < 0
    · go_enter Tryd.func31, Tryd.ntmps31
      go_wp2_with (go_at_call 27; refine (tooLong_calls _ hs _).mono ?_; rintro e w' ⟨rfl, rfl⟩)
      go_ret
      exact ⟨ret_int (by unfold placeC; rw [if_neg h1, if_pos h2]), rfl⟩
    · go_enter Tryd.func31, Tryd.ntmps31
      go_wp2_with (go_at_call 27; refine (tooLong_calls _ hs _).mono ?_; rintro e w' ⟨rfl, rfl⟩)
      go_ret
      exact ⟨ret_int (by unfold placeC; rw [if_neg h1, if_neg (by omega)]), rfl⟩

theorem and127 (c : UInt8) : ∃ m : Nat, m = c.toNat % 128 ∧ (m : Int) ≤ 127 ∧ bits .and .u8 (c.toNat : Int) 127 = (m : Int) := by
  have hc := c.toNat_lt
  refine ⟨_, rfl, by omega, ?_⟩
  have e := bits_mask .u8 8 (by decide) wraps_u8 7 (by decide) (c.toNat : Int) (by omega) (by omega)
  rw [show ((2 : Int) ^ 7 - 1) = 127 from by decide, show ((2 : Int) ^ 7) = 128 from by decide] at e
  rw [e]
  omega

theorem or_comm64 (a b : Int) : bits .or .u64 a b = bits .or .u64 b a := by
  show IntKind.u64.wrap ((BitVec.ofInt 64 a ||| BitVec.ofInt 64 b).toNat : Int) = IntKind.u64.wrap ((BitVec.ofInt 64 b ||| BitVec.ofInt 64 a).toNat : Int)
  rw [BitVec.or_comm]

theorem wraps_u64 (n : Int) (h0 : 0 ≤ n) (h1 : n < 2 ^ 64) : IntKind.u64.wrap n = n := by rw [IntKind.wrap_u64]; omega

theorem grow_lt (u m i : Nat) (hi : i ≤ 9) (hu : u < 2 ^ (7 * i)) (hm : m ≤ 127) (h9 : i = 9 → m ≤ 1) : u + m * 2 ^ (7 * i) < 18446744073709551616 ∧ (i < 9 → u + m * 2 ^ (7 * i) < 2 ^ (7 * (i + 1))) ∧ m * 2 ^ (7 * i) < 18446744073709551616 := by
  by_cases h : i = 9
  · subst h
    have := h9 rfl
    have e : (2 : Nat) ^ (7 * 9) = 9223372036854775808 := by decide
    rw [e] at hu ⊢
    refine ⟨by omega, fun h => absurd h (by omega), by omega⟩
  · have e : 2 ^ (7 * (i + 1)) = 2 ^ (7 * i) * 128 := by rw [show 7 * (i + 1) = 7 * i + 7 from by omega, Nat.pow_add]
    have h1 : m * 2 ^ (7 * i) ≤ 127 * 2 ^ (7 * i) := Nat.mul_le_mul_right _ hm
    have h2 : 2 ^ (7 * i) ≤ 2 ^ 56 := Nat.pow_le_pow_right (by decide) (by omega)
    have e2 : (2 : Nat) ^ 56 = 72057594037927936 := by decide
    rw [e]
    omega

theorem or_facts (u m i : Nat) (hi : i ≤ 9) (hu : u < 2 ^ (7 * i)) (hm : m ≤ 127) (h9 : i = 9 → m ≤ 1) :
    ∃ u', u' = u + m * 2 ^ (7 * i) ∧ U64 u' ∧ (i < 9 → u' < 2 ^ (7 * (i + 1))) ∧ bits .or .u64 (u : Int) (IntKind.u64.wrap ((m : Int) * 2 ^ (7 * i))) = (u' : Int) := by
  obtain ⟨g1, g2, g3⟩ := grow_lt u m i hi hu hm h9
  refine ⟨_, rfl, g1, g2, ?_⟩
  have ew : IntKind.u64.wrap ((m : Int) * 2 ^ (7 * i)) = ((m * 2 ^ (7 * i) : Nat) : Int) := by
    have : ((m : Int) * 2 ^ (7 * i)) = ((m * 2 ^ (7 * i) : Nat) : Int) := by simp
    rw [this, wraps_u64 _ (by omega) (by omega)]
  rw [ew, or_comm64]
  have hub : u < 18446744073709551616 := by omega
  have hcast : ((2 : Int) ^ (7 * i)) = ((2 ^ (7 * i) : Nat) : Int) := by simp
  rw [bits_join .u64 64 (by decide) wraps_u64 (7 * i) ((m * 2 ^ (7 * i) : Nat) : Int) (u : Int) (by omega) (by rw [hcast, ← Int.natCast_emod, Nat.mul_mod_left]; rfl) (by omega) (by omega) (by rw [hcast]; omega) (by omega)]
  omega

theorem and64_1 (a : Nat) (ha : a < 18446744073709551616) : bits .and .u64 (a : Int) 1 = ((a % 2 : Nat) : Int) := by
  have h1 : (BitVec.ofInt 64 (a : Int)).toNat = a := by
    rw [BitVec.ofInt_natCast, BitVec.toNat_ofNat]; exact Nat.mod_eq_of_lt (by omega)
  have h2 : (BitVec.ofInt 64 (1 : Int)).toNat = 1 := by decide
  show IntKind.u64.wrap ((BitVec.ofInt 64 (a : Int) &&& BitVec.ofInt 64 (1 : Int)).toNat : Int) = _
  rw [BitVec.toNat_and, h1, h2, IntKind.wrap_u64, Nat.and_one_is_mod]
  omega

theorem xorI (a b : Int) : bits .xor .i64 a b = IntKind.i64.wrap (((BitVec.ofInt 64 a ^^^ BitVec.ofInt 64 b).toNat : Nat) : Int) := rfl

theorem unfold_eq (u : Nat) (hu : u < 18446744073709551616) : bits BinOp.xor IntKind.i64 (wrap64 ((u : Int) / 2)) (wrap64 (-wrap64 (bits BinOp.and IntKind.u64 (u : Int) 1))) = unfold_ u := by
  rw [and64_1 u hu, xorI]
  have e1 : wrap64 ((u : Int) / 2) = ((u / 2 : Nat) : Int) := IntWalk.wrap64_in _ ⟨by omega, by omega⟩
  have e2 : wrap64 ((u % 2 : Nat) : Int) = ((u % 2 : Nat) : Int) := IntWalk.wrap64_in _ ⟨by omega, by omega⟩
  have e3 : wrap64 (-((u % 2 : Nat) : Int)) = -((u % 2 : Nat) : Int) := IntWalk.wrap64_in _ ⟨by omega, by omega⟩
  rw [e1, e2, e3]
  unfold unfold_
  have ha : (BitVec.ofInt 64 ((u / 2 : Nat) : Int)) = BitVec.ofNat 64 (u / 2) := by rw [BitVec.ofInt_natCast]
  rw [ha]
  by_cases h : u % 2 = 1
  · rw [if_pos h, h]
    have hb : BitVec.ofInt 64 (-((1 : Nat) : Int)) = BitVec.allOnes 64 := by decide
    rw [hb, BitVec.xor_allOnes, BitVec.toNat_not, BitVec.toNat_ofNat, Nat.mod_eq_of_lt (by omega), IntKind.wrap_i64]
    omega
  · have h0 : u % 2 = 0 := by omega
    rw [if_neg h, h0]
    have hb : BitVec.ofInt 64 (-((0 : Nat) : Int)) = 0#64 := by decide
    rw [hb, BitVec.xor_zero, BitVec.toNat_ofNat, Nat.mod_eq_of_lt (by omega), IntKind.wrap_i64]
    omega

theorem unfoldSign_calls (u : Nat) (hu : U64 u) (w : World) :
    Calls Tryd.prog 32 #[.int .u64 u] w fun e w' => e = .returned (.int .i64 (unfold_ u)) ∧ w = w' := by
  have HE := Lib.hid (unfold_eq u hu)
  go_enter Tryd.func32, Tryd.ntmps32
  go_wp2
  go_ret
  exact ⟨ret_int HE.out, rfl⟩

set_option maxRecDepth 100000 in
theorem readNum_calls (s : ByteArray) (hs : s.size ≤ 9223372036854775000) (at_ : Int) (hat : at_ ≤ 9223372036854775807) (w : World) :
    Calls Tryd.prog 22 #[.string s, .int .i64 at_] w fun e w' => NumEnd (getNum s at_) e ∧ w = w' := by
  obtain ⟨R, hR⟩ : ∃ R, R = getNum s at_ := ⟨_, rfl⟩
  rw [← hR]
  go_enter Tryd.func22, Tryd.ntmps22
  go_wp2
  refine wp_scope_first (fun l n a' w' => w = w' ∧ J s R l n a') ?_ fun hL => ?_
  · clear hR
    rintro l n a w' ⟨rfl, hJ⟩
    match l, hJ with
    | 0, hJ =>
      obtain ⟨code, h0, rfl, HRR, u1, u7, u8, u9, u11, u12, u13, u14, u15, u16, u17, u18, u19, u20, u21, u22, u23, u24, u25, u26, u27, u28, u29, u30, u31, u32, u33, u34, u35, u36, u37, u38, u39, u40, u41, u42, u43, u44, u45, u46, u47, u48, u49, u50, u51, u52, u53, rfl⟩ := (show J0 s R n a from hJ)
      have HR := Lib.hid HRR; clear HRR
      refine ⟨_, rfl, ?_⟩
      go_wp2
      rw [jumps_ret]
      go_ret3
      exact ⟨by rw [← HR.out]; exact .inr ⟨h0, rfl⟩, rfl⟩
    | 1, hJ =>
      obtain ⟨p, i, u, hi, rfl, hp, hu, HG, u9, u11, u12, u13, u14, u15, u16, u17, u18, u19, u20, u21, u22, u23, u24, u25, u26, u27, u28, u29, u30, u31, u32, u33, u34, u35, u36, u37, u38, u39, u40, u41, u42, u43, u44, u45, u46, u47, u48, u49, u50, u51, u52, u53, rfl⟩ := (show J1 s R n a from hJ)
      refine ⟨_, rfl, ?_⟩
      have HGG := Lib.hid HG
      have HUU := Lib.hid hu
      clear HG hu hJ
      by_cases hlt : p < s.size
      · obtain ⟨m, hm, hm7, h127⟩ := and127 s[p]
        have HM := Lib.hid hm
        clear hm hJ
        have hcb : (s[p].toNat : Int) < 256 := by have := s[p].toNat_lt; omega
        by_cases hbad : i = 9 ∧ 1 < s[p].toNat
        · obtain ⟨h9, hc1⟩ := hbad
          have HC : Hid ((0, 0, 3) = R) := by
            unfold Hid; rw [← HGG.out, show 10 - i = (9 - i) + 1 from by omega, gn, dif_pos hlt, if_pos ⟨h9, hc1⟩]
          subst h9
          go_wp2
          all_goals go_step3
          all_goals show ∃ n', n' < 12 - 9 ∧ w = w ∧ J s R 0 n' _
          all_goals refine ⟨0, by omega, rfl, ?_⟩
          all_goals show J0 s R 0 _
          all_goals unfold J0
          all_goals exact ⟨3, by decide, rfl, HC.out, _, _, _, _, _, _, _, _, _, _, _, _, _, _, _, _, _, _, _, _, _, _, _, _, _, _, _, _, _, _, _, _, _, _, _, _, _, _, _, _, _, _, _, _, _, _, _, rfl⟩
        · obtain ⟨u', hu', hU, hU2, hor⟩ := or_facts u m i hi HUU.out (by omega) (fun h => by have := HM.out; omega)
          have HU' : Hid (u' = u + s[p].toNat % 128 * 2 ^ (7 * i)) := by unfold Hid; rw [hu', HM.out]
          have HG2 : Hid ((if s[p].toNat < 128 then if s[p].toNat = 0 ∧ 0 < i then (0, 0, 3) else (unfold_ u', (p : Int) + 1, 0) else gn (9 - i) s (p + 1) (i + 1) u') = R) := by
            unfold Hid; rw [← HGG.out, show 10 - i = (9 - i) + 1 from by omega, gn, dif_pos hlt, if_neg hbad, HU'.out]
          have HB := Lib.hid hbad
          have HV2 := Lib.hid hU2
          clear hbad hu' hU2
          by_cases hsm : s[p].toNat < 128
          · have HG3 : Hid ((if s[p].toNat = 0 ∧ 0 < i then (0, 0, 3) else (unfold_ u', (p : Int) + 1, 0)) = R) := by
              unfold Hid; rw [← HG2.out, if_pos hsm]
            by_cases h9 : i = 9
            · subst h9
              have hle : (s[p].toNat : Int) ≤ 1 := by have := HB.out; omega
              rw [show ((m : Int) * 2 ^ (7 * 9)) = (m : Int) * 9223372036854775808 from by rw [show ((2 : Int) ^ (7 * 9)) = 9223372036854775808 from by decide]] at hor
              go_wp2
              all_goals go_step3
              all_goals show ∃ n', n' < 12 - 9 ∧ w = w ∧ J s R 2 n' _
              all_goals refine ⟨1, by omega, rfl, ?_⟩
              all_goals show J2 s R 1 _
              all_goals unfold J2
              all_goals exact ⟨p, 9, u', s[p].toNat, by omega, rfl, hsm, by omega, hU, HG3.out, _, _, _, _, _, _, _, _, _, _, _, _, _, _, _, _, _, _, _, _, _, _, _, _, _, _, _, _, _, _, _, _, _, _, _, _, _, _, _, _, _, _, _, _, rfl⟩
            · go_wp2
              all_goals go_step3
              all_goals show ∃ n', n' < 12 - i ∧ w = w ∧ J s R 2 n' _
              all_goals refine ⟨1, by omega, rfl, ?_⟩
              all_goals show J2 s R 1 _
              all_goals unfold J2
              all_goals exact ⟨p, i, u', s[p].toNat, hi, rfl, hsm, by omega, hU, HG3.out, _, _, _, _, _, _, _, _, _, _, _, _, _, _, _, _, _, _, _, _, _, _, _, _, _, _, _, _, _, _, _, _, _, _, _, _, _, _, _, _, _, _, _, _, rfl⟩
          · have HG3 : Hid (gn (10 - (i + 1)) s (p + 1) (i + 1) u' = R) := by
              unfold Hid; rw [← HG2.out, if_neg hsm, show 10 - (i + 1) = 9 - i from by omega]
            have hi9 : i < 9 := by have := HB.out; omega
            have hne : ¬ i = 9 := by omega
            go_wp2
            go_step3
            show ∃ n', n' < 12 - i ∧ w = w ∧ J s R 1 n' _
            refine ⟨12 - (i + 1), by omega, rfl, ?_⟩
            show J1 s R (12 - (i + 1)) _
            unfold J1
            exact ⟨p + 1, i + 1, u', by omega, rfl, by omega, HV2.out hi9, HG3.out, _, _, _, _, _, _, _, _, _, _, _, _, _, _, _, _, _, _, _, _, _, _, _, _, _, _, _, _, _, _, _, _, _, _, _, _, _, _, _, _, _, _, _, _, rfl⟩
      · have HC : Hid ((0, 0, 4) = R) := by
          unfold Hid; rw [← HGG.out, show 10 - i = (9 - i) + 1 from by omega, gn, dif_neg hlt]
        go_wp2
        go_step3
        show ∃ n', n' < 12 - i ∧ w = w ∧ J s R 0 n' _
        refine ⟨0, by omega, rfl, ?_⟩
        show J0 s R 0 _
        unfold J0
        exact ⟨4, by decide, rfl, HC.out, _, _, _, _, _, _, _, _, _, _, _, _, _, _, _, _, _, _, _, _, _, _, _, _, _, _, _, _, _, _, _, _, _, _, _, _, _, _, _, _, _, _, _, _, _, _, _, rfl⟩
    | 2, hJ =>
      obtain ⟨p, i, u, c, hi, rfl, hc, hp, hu, HG, u10, u11, u12, u13, u14, u15, u16, u17, u18, u19, u20, u21, u22, u23, u24, u25, u26, u27, u28, u29, u30, u31, u32, u33, u34, u35, u36, u37, u38, u39, u40, u41, u42, u43, u44, u45, u46, u47, u48, u49, u50, u51, u52, u53, rfl⟩ := (show J2 s R n a from hJ)
      refine ⟨_, rfl, ?_⟩
      have HGG := Lib.hid HG
      clear HG hJ
      by_cases h0 : c = 0 ∧ 0 < i
      · obtain ⟨rfl, hi0⟩ := h0
        have HC : Hid ((0, 0, 3) = R) := by unfold Hid; rw [← HGG.out, if_pos ⟨rfl, hi0⟩]
        go_wp2
        all_goals go_step3
        all_goals show ∃ n', n' < 1 ∧ w = w ∧ J s R 0 n' _
        all_goals refine ⟨0, by omega, rfl, ?_⟩
        all_goals show J0 s R 0 _
        all_goals unfold J0
        all_goals exact ⟨3, by decide, rfl, HC.out, _, _, _, _, _, _, _, _, _, _, _, _, _, _, _, _, _, _, _, _, _, _, _, _, _, _, _, _, _, _, _, _, _, _, _, _, _, _, _, _, _, _, _, _, _, _, _, rfl⟩
      · have HC : Hid (R = (unfold_ u, (p : Int) + 1, 0)) := by unfold Hid; rw [← HGG.out, if_neg h0]
        have hcase : c ≠ 0 ∨ i = 0 := by omega
        clear h0
        rcases hcase with h1 | h1
        all_goals
          go_wp2_with (go_at_call 32; refine (unfoldSign_calls _ hu _).mono ?_; rintro e w' ⟨rfl, rfl⟩)
          all_goals rw [jumps_ret]
          all_goals go_ret3
          all_goals exact ⟨by rw [HC.out]; exact .inl ⟨rfl, rfl⟩, rfl⟩
  · by_cases h0 : placeC s at_ = 0
    · have hb : (placeC s at_ != 0) = false := by rw [h0]; rfl
      have HR : Hid (8000 ≥ s.size ∧ 0 ≤ at_ ∧ R = gn 10 s at_.toNat 0 0) := by
        unfold Hid; rw [hR]; unfold placeC at h0; unfold getNum
        split at h0
        · omega
        · split at h0
          · omega
          · rename_i h1 h2; rw [if_neg h1, if_neg h2]; exact ⟨by omega, by omega, rfl⟩
      have HH := Lib.hid h0
      have HL := Lib.hid hL
      clear h0 hR hL
      go_wp2_with (go_at_call 31; refine (placeCode_calls _ (by omega) _ _).mono ?_; rintro e w' ⟨rfl, rfl⟩)
      go_step3
      refine ‹∀ (a : Act) (w : World), Code.wp _ _ _ a w → _› _ _ ?_
      refine HL.out 1 _ rfl 12 _ _ ⟨rfl, ?_⟩
      show J1 s R 12 _
      unfold J1
      obtain ⟨g1, g2, g3⟩ := HR.out
      obtain ⟨p, rfl⟩ := Int.eq_ofNat_of_zero_le g2
      exact ⟨p, 0, 0, by omega, rfl, by omega, by decide, g3.symm, _, _, _, _, _, _, _, _, _, _, _, _, _, _, _, _, _, _, _, _, _, _, _, _, _, _, _, _, _, _, _, _, _, _, _, _, _, _, _, _, _, _, _, _, by rw [HH.out]; rfl⟩
    · have hb : (placeC s at_ != 0) = true := by rw [bne_iff_ne]; exact h0
      have HJ : Hid ((0, 0, placeC s at_) = R) := by
        unfold Hid; rw [hR]; unfold placeC at h0 ⊢; unfold getNum
        split at h0
        · rename_i h1; rw [if_pos h1, if_pos h1]
        · rename_i h1
          rw [if_neg h1, if_neg h1]
          split at h0
          · rename_i h2; rw [if_pos h2, if_pos h2]
          · omega
      have H0 := Lib.hid h0
      clear h0 hR hL
      go_wp2_with (go_at_call 31; refine (placeCode_calls _ (by omega) _ _).mono ?_; rintro e w' ⟨rfl, rfl⟩)
      go_step3
      show ∃ n, w = w ∧ J s R 0 n _
      refine ⟨0, rfl, ?_⟩
      show J0 s R 0 _
      unfold J0
      exact ⟨_, H0.out, rfl, HJ.out, _, _, _, _, _, _, _, _, _, _, _, _, _, _, _, _, _, _, _, _, _, _, _, _, _, _, _, _, _, _, _, _, _, _, _, _, _, _, _, _, _, _, _, _, _, _, _, rfl⟩

def numVal (R : Int × Int × Int) : Value := if R.2.2 = 0 then .agg #[.int .i64 R.1, .int .i64 R.2.1, .int .i64 0] else .agg #[.int .i64 0, .int .i64 0, .int .i64 R.2.2]

theorem three {w : World} {g : Nat} {x y z : Value} {t : TypeId} (h : w.heap[g]? = some (.cells #[x, y, z] t (0, 0))) :
    w.cell? ⟨g, 0, none⟩ = some x ∧ w.cell? ⟨g, 1, none⟩ = some y ∧ w.cell? ⟨g, 2, none⟩ = some z ∧ w.frozen? ⟨g, 0, none⟩ = false ∧ w.frozen? ⟨g, 1, none⟩ = false ∧ w.frozen? ⟨g, 2, none⟩ = false :=
  ⟨by rw [cell_of_row w g 0 _ t (0, 0) h]; rfl, by rw [cell_of_row w g 1 _ t (0, 0) h]; rfl, by rw [cell_of_row w g 2 _ t (0, 0) h]; rfl,
    frozen_of_row w g 0 _ t h, frozen_of_row w g 1 _ t h, frozen_of_row w g 2 _ t h⟩

theorem new_kept {w w2 : World} {o : Obj} (h : Below (w.alloc o).heap.size (w.alloc o) w2) : w2.heap[w.heap.size]? = some o := by
  rw [h.block w.heap.size (by simp)]
  exact heap_alloc_new w o

/-- The variable errors.errorType holds the handle of the type error. -/
def Handle (w : World) : Prop := w.cell? ⟨0, 0, none⟩ = some (.iface 76 (.agg #[.pointer (some ⟨1, 44, none⟩)]))
theorem Handle.pos {w : World} (h : Handle w) : 0 < w.heap.size := by
  rcases Nat.eq_zero_or_pos w.heap.size with h0 | h1
  · simp [Handle, World.cell?, h0] at h
  · exact h1
theorem Handle.below {w w' : World} {B : Nat} (h : Handle w) (hb : Below B w w') (hB : 0 < B) : Handle w' := (hb.cell (p := ⟨0, 0, none⟩) hB).trans h

/-- What is known behind errors.As: the target holds the code, the answer's block is as it was. -/
theorem as_after {w w1 : World} {c : Int} {o : Obj} {t : TypeId} {ts : TypeId} (ho : o = .cells #[.int .i64 0, .int .i64 0, .int .i64 0] ts) (hb : Below ((w.alloc o).alloc (.cells #[.int .i64 0] t)).heap.size ((w.alloc o).alloc (.cells #[.int .i64 0] t)) w1) :
    (w1.setCell ⟨w.heap.size + 1, 0, none⟩ (.int .i64 c)).cell? ⟨w.heap.size + 1, 0, none⟩ = some (.int .i64 c) ∧
    (w1.setCell ⟨w.heap.size + 1, 0, none⟩ (.int .i64 c)).heap[w.heap.size]? = some (.cells #[.int .i64 0, .int .i64 0, .int .i64 0] ts (0, 0)) ∧
    Below w.heap.size w (w1.setCell ⟨w.heap.size + 1, 0, none⟩ (.int .i64 c)) := by
  have h1 : w1.heap[w.heap.size + 1]? = some (.cells #[.int .i64 0] t (0, 0)) := by
    rw [hb.block _ (by simp)]
    have := heap_alloc_new (w.alloc o) (.cells #[.int .i64 0] t)
    simpa using this
  have h2 : w1.heap[w.heap.size]? = some o := by
    rw [hb.block _ (by simp; omega), Below.heap_alloc _ _ _ (by simp)]
    exact heap_alloc_new w o
  refine ⟨World.cell?_setCell_same w1 _ _ (by rw [cell_of_row w1 _ 0 _ t (0, 0) h1]; rfl), ?_, ?_⟩
  · rw [Below.heap_setCell _ _ _ _ (by simp), h2, ho]
  · exact (((Below.refl _ _).alloc (Nat.le_refl _) _).alloc (by simp) _).trans ((hb.mono (by simp; omega)).setCell (by simp) _)

set_option maxRecDepth 100000 in
/-- GetNum of the program. -/
theorem implGetNum_calls (s : ByteArray) (hs : s.size ≤ 9223372036854775000) (at_ : Int) (hat : at_ ≤ 9223372036854775807) (w : World) (hg : Handle w) :
    Calls Tryd.prog 9 #[.string s, .int .i64 at_] w fun e w' => e = .returned (numVal (getNum s at_)) ∧ Below w.heap.size w w' := by
  obtain ⟨R, hRR⟩ : ∃ R, R = getNum s at_ := ⟨_, rfl⟩
  have HR := Lib.hid hRR
  rw [← hRR]
  clear hRR
  go_enter Tryd.func9, Tryd.ntmps9
  go_wp2_with fail
  refine (readNum_calls s hs at_ hat _).mono ?_
  rintro e w' ⟨hR, rfl⟩
  rw [← HR.out] at hR
  rcases hR with ⟨h0, rfl⟩ | ⟨h0, rfl⟩
  · have HV : Hid (numVal R = .agg #[.int .i64 R.1, .int .i64 R.2.1, .int .i64 0]) := by unfold Hid numVal; rw [if_pos h0]
    clear h0
    go_wp2_with (go_at_call 23; refine (eas.as_nil _ _).mono ?_; rintro e w' ⟨rfl, rfl⟩)
    exact bodyPost_ret (v := .agg #[.int .i64 R.1, .int .i64 R.2.1, .int .i64 0]) (by simp [results, Tryd.results9, go_sem]) rfl
      ⟨by rw [HV.out], ((Below.refl _ _).alloc (Nat.le_refl _) _).alloc (by simp) _⟩
  · have HV : Hid (numVal R = .agg #[.int .i64 0, .int .i64 0, .int .i64 R.2.2]) := by unfold Hid numVal; rw [if_neg h0]
    clear h0
    have hlt := hg.pos
    go_wp2_with (go_at_call 23; refine (eas.as_hit R.2.2 ⟨w.heap.size + 1, 0, none⟩ (.int .i64 0) _ ?_ ?_ ?_).mono ?_)
    · exact Handle.below hg (((Below.refl _ _).alloc (Nat.le_refl _) _).alloc (by simp) _) hlt
    · simp
    · simp
    · rintro e w' ⟨rfl, w1, hb, rfl⟩
      obtain ⟨k0, h2, hbel⟩ := as_after (c := R.2.2) rfl hb
      obtain ⟨W, hW⟩ : ∃ W, W = w1.setCell ⟨w.heap.size + 1, 0, none⟩ (.int .i64 R.2.2) := ⟨_, rfl⟩
      rw [← hW] at k0 h2 hbel
      simp only [← hW]
      clear hW hb
      obtain ⟨c0, c1, c2, f0, f1, f2⟩ := three h2
      go_wp2
      exact bodyPost_ret (v := .agg #[.int .i64 0, .int .i64 0, .int .i64 R.2.2]) (by simp [results, Tryd.results9, go_sem, c0, c1, c2]) rfl
        ⟨by rw [HV.out], ((hbel.setCell (by simp) _).setCell (by simp) _).setCell (by simp) _⟩
end Go.Proofs.YtbohfmnobhodcaaDoor.get
