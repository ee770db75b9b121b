/- Contracts: GetNum of the model; eqNumOut, of one and the same answer. -/
import Derived.Test.YtbohfmnobhodcaaDoorGet
namespace Go.Proofs.YtbohfmnobhodcaaDoor.sget
open Go.RowKit Go.Proofs.YtbohfmnobhodcaaDoor.lib Go.Proofs.YtbohfmnobhodcaaDoor.num Go.Proofs.YtbohfmnobhodcaaDoor.get
set_option linter.unusedVariables false

theorem numVal_ok (R : Int × Int × Int) (n a : Int) (h : R = (n, a, 0)) : numVal R = .agg #[.int .i64 n, .int .i64 a, .int .i64 0] := by rw [h]; rfl
theorem numVal_bad (R : Int × Int × Int) (c : Int) (h : R = (0, 0, c)) (hc : c ≠ 0) : numVal R = .agg #[.int .i64 0, .int .i64 0, .int .i64 c] := by rw [h]; unfold numVal; rw [if_neg hc]

theorem add_facts (u m i : Nat) (hi : i ≤ 9) (hu : u < 2 ^ (7 * i)) (hm : m ≤ 127) (h9 : i = 9 → m ≤ 1) :
    ∃ u', u' = u + m * 2 ^ (7 * i) ∧ U64 u' ∧ (i < 9 → u' < 2 ^ (7 * (i + 1))) ∧ IntKind.u64.wrap ((u : Int) + IntKind.u64.wrap ((m : Int) * 2 ^ (7 * i))) = (u' : Int) := by
  obtain ⟨g1, g2, g3⟩ := grow_lt u m i hi hu hm h9
  refine ⟨_, rfl, g1, g2, ?_⟩
  have ew : IntKind.u64.wrap ((m : Int) * 2 ^ (7 * i)) = ((m * 2 ^ (7 * i) : Nat) : Int) := by
    have : ((m : Int) * 2 ^ (7 * i)) = ((m * 2 ^ (7 * i) : Nat) : Int) := by simp
    rw [this, wraps_u64 _ (by omega) (by omega)]
  rw [ew, wraps_u64 _ (by omega) (by omega)]
  omega

theorem add_nine {u u' m : Nat} (h : IntKind.u64.wrap ((u : Int) + IntKind.u64.wrap ((m : Int) * 2 ^ (7 * 9))) = (u' : Int)) (hm : (m : Int) ≤ 1) (h0 : 0 ≤ (m : Int)) :
    IntKind.u64.wrap ((u : Int) + (m : Int) * 9223372036854775808) = (u' : Int) := by
  rw [show ((2 : Int) ^ (7 * 9)) = 9223372036854775808 from by decide, show IntKind.u64.wrap ((m : Int) * 9223372036854775808) = (m : Int) * 9223372036854775808 from by rw [IntKind.wrap_u64]; omega] at h
  exact h

set_option maxHeartbeats 8000000 in
set_option maxRecDepth 100000 in
theorem specGetNum_calls (s : ByteArray) (hs : s.size ≤ 9223372036854775000) (at_ : Int) (hat : at_ ≤ 9223372036854775807) (w : World) :
    Calls Tryd.prog 14 #[.string s, .int .i64 at_] w fun e w' => e = .returned (numVal (getNum s at_)) ∧ Below w.heap.size w w' := by
  by_cases h1 : 8000 < s.size
  · have HV := Lib.hid (numVal_bad (getNum s at_) 2 (by unfold getNum; rw [if_pos h1]) (by omega))
    go_enter Tryd.func14, Tryd.ntmps14
    go_wp2
    exact bodyPost_ret (v := .agg #[.int .i64 0, .int .i64 0, .int .i64 2]) (by simp [results, Tryd.results14, go_sem]) rfl ⟨by rw [HV.out], (Below.refl _ _).alloc (Nat.le_refl _) _⟩
  by_cases h2 : at_ < 0
  · have HV := Lib.hid (numVal_bad (getNum s at_) 1 (by unfold getNum; rw [if_neg h1, if_pos h2]) (by omega))
    go_enter Tryd.func14, Tryd.ntmps14
    go_wp2
    exact bodyPost_ret (v := .agg #[.int .i64 0, .int .i64 0, .int .i64 1]) (by simp [results, Tryd.results14, go_sem]) rfl ⟨by rw [HV.out], (Below.refl _ _).alloc (Nat.le_refl _) _⟩
  obtain ⟨p, rfl⟩ := Int.eq_ofNat_of_zero_le (show 0 ≤ at_ by omega)
  have HE : Hid (getNum s (p : Int) = gn 10 s p 0 0) := by unfold Hid getNum; rw [if_neg h1, if_neg h2]; rfl
  obtain ⟨R, hR⟩ : ∃ R, R = gn 10 s p 0 0 := ⟨_, rfl⟩
  rw [← hR] at HE
  have HRR := Lib.hid hR
  clear hR h2
  go_enter Tryd.func14, Tryd.ntmps14
  go_wp2
  go_loop [5, 6, 7, 8] (fun uu ii _ _ => ∃ i u : Nat, i ≤ 10 ∧ ii = .int .i64 i ∧ uu = .int .u64 u ∧ Hid (i < 10 → u < 2 ^ (7 * i)) ∧ Hid (gn (10 - i) s (p + i) i u = R)) (fun _ ii _ _ => 10 - (intOf ii).toNat)
  case atStart => exact ⟨0, 0, by omega, rfl, rfl, fun _ => by decide, HRR.out.symm⟩
  case round =>
    obtain ⟨i, u, hi, rfl, rfl, HU, HG⟩ := hrel
    by_cases hten : i = 10
    · subst hten
      have HV := Lib.hid (numVal_bad R 3 (by rw [← HG.out]; rfl) (by omega))
      go_wp2
      exact bodyPost_ret (v := .agg #[.int .i64 0, .int .i64 0, .int .i64 3]) (by simp [results, Tryd.results14, go_sem]) rfl ⟨by rw [HE.out, HV.out], (Below.refl _ _).alloc (Nat.le_refl _) _⟩
    have hi9 : i ≤ 9 := by omega
    by_cases hlt : p + i < s.size
    · have hcb : (s[p + i].toNat : Int) < 256 := by have := s[p + i].toNat_lt; omega
      by_cases hbad : i = 9 ∧ 1 < s[p + i].toNat
      · obtain ⟨h9, hc1⟩ := hbad
        have HV := Lib.hid (numVal_bad R 3 (by rw [← HG.out, show 10 - i = (9 - i) + 1 from by omega, gn, dif_pos hlt, if_pos ⟨h9, hc1⟩]) (by omega))
        subst h9
        go_wp2
        exact bodyPost_ret (v := .agg #[.int .i64 0, .int .i64 0, .int .i64 3]) (by simp [results, Tryd.results14, go_sem]) rfl ⟨by rw [HE.out, HV.out], (Below.refl _ _).alloc (Nat.le_refl _) _⟩
      · obtain ⟨m, hm⟩ : ∃ m, m = s[p + i].toNat % 128 := ⟨_, rfl⟩
        have hm7 : (m : Int) ≤ 127 := by omega
        have hme : (s[p + i].toNat : Int) % 128 = (m : Int) := by omega
        obtain ⟨u', hu', hU, hU2, hadd⟩ := add_facts u m i hi9 (HU.out (by omega)) (by omega) (fun h => by omega)
        have HU' : Hid (u' = u + s[p + i].toNat % 128 * 2 ^ (7 * i)) := by unfold Hid; rw [hu', hm]
        have HG2 : Hid ((if s[p + i].toNat < 128 then if s[p + i].toNat = 0 ∧ 0 < i then (0, 0, 3) else (unfold_ u', ((p + i : Nat) : Int) + 1, 0) else gn (9 - i) s (p + i + 1) (i + 1) u') = R) := by
          unfold Hid; rw [← HG.out, show 10 - i = (9 - i) + 1 from by omega, gn, dif_pos hlt, if_neg hbad, HU'.out]
        have HB := Lib.hid hbad
        have HV2 := Lib.hid hU2
        have HM := Lib.hid hm
        clear hbad hu' hU2 hm
        by_cases hsm : s[p + i].toNat < 128
        · by_cases hz : s[p + i].toNat = 0 ∧ 0 < i
          · obtain ⟨hz0, hz1⟩ := hz
            have HV := Lib.hid (numVal_bad R 3 (by rw [← HG2.out, if_pos hsm, if_pos ⟨hz0, hz1⟩]) (by omega))
            have hz0' : ((s[p + i].toNat : Int) == 0) = true := by rw [beq_iff_eq]; omega
            have hle : (s[p + i].toNat : Int) ≤ 0 := by omega
            clear hz0
            by_cases h9 : i = 9
            · subst h9
              rw [show ((m : Int) * 2 ^ (7 * 9)) = (m : Int) * 9223372036854775808 from by rw [show ((2 : Int) ^ (7 * 9)) = 9223372036854775808 from by decide]] at hadd
              go_wp2
              exact bodyPost_ret (v := .agg #[.int .i64 0, .int .i64 0, .int .i64 3]) (by simp [results, Tryd.results14, go_sem]) rfl ⟨by rw [HE.out, HV.out], (Below.refl _ _).alloc (Nat.le_refl _) _⟩
            · go_wp2
              exact bodyPost_ret (v := .agg #[.int .i64 0, .int .i64 0, .int .i64 3]) (by simp [results, Tryd.results14, go_sem]) rfl ⟨by rw [HE.out, HV.out], (Below.refl _ _).alloc (Nat.le_refl _) _⟩
          · have hN : R = (unfold_ u', ((p + i : Nat) : Int) + 1, 0) := by rw [← HG2.out, if_pos hsm, if_neg hz]
            have hcase : s[p + i].toNat ≠ 0 ∨ i = 0 := by omega
            have hub : (u' : Int) / 2 ≤ 9223372036854775807 := by unfold U64 at hU; omega
            clear hz
            by_cases hodd : u' % 2 = 1
            · have hod : ((u' : Int) % 2 == 1) = true := by rw [beq_iff_eq]; omega
              have HV := Lib.hid (numVal_ok R (-((u' : Int) / 2) - 1) ((p : Int) + i + 1) (by rw [hN]; unfold unfold_; rw [if_pos hodd]; simp))
              clear hN hodd
              by_cases h9 : i = 9
              · subst h9
                have hle : (s[p + 9].toNat : Int) ≤ 1 := by have := HB.out; omega
                have hadd2 := add_nine hadd (show (m : Int) ≤ 1 from by omega) (by omega)
                clear hadd
                rcases hcase with h1 | h1
                · have hb0 : ((s[p + 9].toNat : Int) == 0) = false := by rw [beq_eq_false_iff_ne]; omega
                  go_wp2
                  exact bodyPost_ret (v := .agg #[.int .i64 (-((u' : Int) / 2) - 1), .int .i64 ((p : Int) + 9 + 1), .int .i64 0]) (by simp [results, Tryd.results14, go_sem]) rfl ⟨by rw [HE.out, HV.out]; rfl, (Below.refl _ _).alloc (Nat.le_refl _) _⟩
                · omega
              · rcases hcase with h1 | h1
                · go_wp2
                  exact bodyPost_ret (v := .agg #[.int .i64 (-((u' : Int) / 2) - 1), .int .i64 ((p : Int) + i + 1), .int .i64 0]) (by simp [results, Tryd.results14, go_sem]) rfl ⟨by rw [HE.out, HV.out], (Below.refl _ _).alloc (Nat.le_refl _) _⟩
                · have hi0 : (i : Int) ≤ 0 := by omega
                  clear h1
                  go_wp2
                  all_goals exact bodyPost_ret (v := .agg #[.int .i64 (-((u' : Int) / 2) - 1), .int .i64 ((p : Int) + i + 1), .int .i64 0]) (by simp [results, Tryd.results14, go_sem]) rfl ⟨by rw [HE.out, HV.out], (Below.refl _ _).alloc (Nat.le_refl _) _⟩
            · have hod : ((u' : Int) % 2 == 1) = false := by rw [beq_eq_false_iff_ne]; omega
              have HV := Lib.hid (numVal_ok R ((u' : Int) / 2) ((p : Int) + i + 1) (by rw [hN]; unfold unfold_; rw [if_neg hodd]; simp))
              clear hN hodd
              by_cases h9 : i = 9
              · subst h9
                have hle : (s[p + 9].toNat : Int) ≤ 1 := by have := HB.out; omega
                have hadd2 := add_nine hadd (show (m : Int) ≤ 1 from by omega) (by omega)
                clear hadd
                rcases hcase with h1 | h1
                · have hb0 : ((s[p + 9].toNat : Int) == 0) = false := by rw [beq_eq_false_iff_ne]; omega
                  go_wp2
                  exact bodyPost_ret (v := .agg #[.int .i64 ((u' : Int) / 2), .int .i64 ((p : Int) + 9 + 1), .int .i64 0]) (by simp [results, Tryd.results14, go_sem]) rfl ⟨by rw [HE.out, HV.out]; rfl, (Below.refl _ _).alloc (Nat.le_refl _) _⟩
                · omega
              · rcases hcase with h1 | h1
                · go_wp2
                  exact bodyPost_ret (v := .agg #[.int .i64 ((u' : Int) / 2), .int .i64 ((p : Int) + i + 1), .int .i64 0]) (by simp [results, Tryd.results14, go_sem]) rfl ⟨by rw [HE.out, HV.out], (Below.refl _ _).alloc (Nat.le_refl _) _⟩
                · have hi0 : (i : Int) ≤ 0 := by omega
                  clear h1
                  go_wp2
                  all_goals exact bodyPost_ret (v := .agg #[.int .i64 ((u' : Int) / 2), .int .i64 ((p : Int) + i + 1), .int .i64 0]) (by simp [results, Tryd.results14, go_sem]) rfl ⟨by rw [HE.out, HV.out], (Below.refl _ _).alloc (Nat.le_refl _) _⟩
        · have HG3 : Hid (gn (10 - (i + 1)) s (p + (i + 1)) (i + 1) u' = R) := by
            unfold Hid; rw [← HG2.out, if_neg hsm, show 10 - (i + 1) = 9 - i from by omega]; rfl
          have hi8 : i < 9 := by have := HB.out; omega
          have hne : ¬ i = 9 := by omega
          go_wp2
          go_round
          case rel => exact ⟨i + 1, u', by omega, by go_num, rfl, fun _ => HV2.out hi8, HG3.out⟩
          case measure => simp [intOf]; omega
    · have HV := Lib.hid (numVal_bad R 4 (by rw [← HG.out, show 10 - i = (9 - i) + 1 from by omega, gn, dif_neg hlt]) (by omega))
      go_wp2
      exact bodyPost_ret (v := .agg #[.int .i64 0, .int .i64 0, .int .i64 4]) (by simp [results, Tryd.results14, go_sem]) rfl ⟨by rw [HE.out, HV.out], (Below.refl _ _).alloc (Nat.le_refl _) _⟩

theorem numVal_form (R : Int × Int × Int) : ∃ n a c : Int, numVal R = .agg #[.int .i64 n, .int .i64 a, .int .i64 c] := by
  unfold numVal
  split
  · exact ⟨_, _, _, rfl⟩
  · exact ⟨_, _, _, rfl⟩
end Go.Proofs.YtbohfmnobhodcaaDoor.sget
