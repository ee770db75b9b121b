/- Contracts of the model's drawing functions: n at any bound, one, spoil. Of the text only a bound of its length is told. -/
import Derived.Test.YtnlinlodgpbnlaaGreatDrt
namespace Go.Proofs.YtnlinlodgpbnlaaGreat.drs
open Go.RowKit Go.Proofs.YtnlinlodgpbnlaaGreat.tm Go.Proofs.YtnlinlodgpbnlaaGreat.lib Go.Proofs.YtnlinlodgpbnlaaGreat.rdr Go.Proofs.YtnlinlodgpbnlaaGreat.bld Go.Proofs.YtnlinlodgpbnlaaGreat.drw Go.Proofs.YtnlinlodgpbnlaaGreat.drp Go.Proofs.YtnlinlodgpbnlaaGreat.drt
set_option linter.unusedVariables false

theorem n_le (g : Nat) (a0 : Option Addr) (len cap B : Nat) (most : Int) (hm : 1 ≤ most) (hM : most ≤ 1000000000) (w : World) (h : Sd w g a0 len cap B) :
    Calls Tryz.prog 63 #[.pointer (some ⟨g, 0, none⟩), .int .i64 most] w fun e w' => (∃ k : Nat, (k : Int) < most ∧ e = .returned (.int .i64 (k : Nat))) ∧ Sd w' g a0 len cap B ∧ Only g w w' := by
  by_cases h1 : most ≤ 1
  · refine (n_small g most h1 w).mono ?_
    rintro e w' ⟨rfl, rfl⟩
    exact ⟨⟨0, by omega, rfl⟩, h, Only.refl _ _⟩
  · refine (n_calls g a0 len cap most (by omega) (by omega) B w h.le h.src h.rd).mono ?_
    rintro e w' ⟨⟨r, r0, r1, rfl⟩, hs, hg⟩
    obtain ⟨j, rfl⟩ := Int.eq_ofNat_of_zero_le r0
    exact ⟨⟨j, r1, rfl⟩, h.only (Only.of_grown hg) hs, Only.of_grown hg⟩

theorem one_le (g : Nat) (a0 : Option Addr) (len cap B : Nat) (most : Int) (hm : 1 < most) (hM : most ≤ 1000000000) (w : World) (h : Sd w g a0 len cap B) :
    Calls Tryz.prog 62 #[.pointer (some ⟨g, 0, none⟩), .int .i64 most] w fun e w' => (∃ b : Bool, e = .returned (.bool b)) ∧ Sd w' g a0 len cap B ∧ Only g w w' := by
  refine (one_calls g a0 len cap most hm (by omega) B w h.le h.src h.rd).mono ?_
  rintro e w' ⟨⟨b, rfl⟩, hs, hg⟩
  exact ⟨⟨b, rfl⟩, h.only (Only.of_grown hg) hs, Only.of_grown hg⟩

theorem tld_of {n g : Nat} {a0 : Option Addr} {len cap B : Nat} {w w' : World} (x : ByteArray) (hx : x.size ≤ n) (h : Sd w' g a0 len cap B) (k : Only g w w') : Tld n g a0 len cap w (.returned (.string x)) w' :=
  ⟨x.data.toList, hx, rfl, h.src, k⟩

theorem size1 (b : UInt8) : (⟨#[b]⟩ : ByteArray).size = 1 := rfl

theorem drew_b (w : World) : Below w.heap.size w w.drew := ⟨rfl, rfl, rfl, Nat.le_refl _, fun _ _ => rfl⟩

set_option maxHeartbeats 1000000 in
set_option maxRecDepth 100000 in
theorem spoil_calls (g : Nat) (a0 : Option Addr) (len cap B : Nat) (t : Bs) (ht : t.length ≤ 1000000) (w : World) (h : Sd w g a0 len cap B) :
    Calls Tryz.prog 118 #[.pointer (some ⟨g, 0, none⟩), str t] w (Tld (t.length + 1) g a0 len cap w) := by
  obtain ⟨s, hs⟩ : ∃ s : ByteArray, s = ⟨t.toArray⟩ := ⟨_, rfl⟩
  have hsz : s.size = t.length := by rw [hs]; show t.toArray.size = _; simp
  have e0 : str t = .string s := by rw [hs]
  rw [e0]
  have HT := Lib.hid hs
  have H := Lib.hid h
  have HZ := Lib.hid hsz
  have hz1 : s.size ≤ 1000000 := by omega
  clear h hs e0 hsz
  go_enter Tryz.func118, Tryz.ntmps118
  go_wp2_with fail
  refine (n_le g a0 len cap B _ (by omega) (by omega) w H.out).mono ?_
  rintro e w1 ⟨⟨k, hk, rfl⟩, hd, ho⟩
  have HD := Lib.hid hd
  have HO := Lib.hid ho
  clear hd ho
  go_wp2_with fail
  refine (n_le g a0 len cap B 17 (by omega) (by omega) w1 HD.out).mono ?_
  rintro e w2 ⟨⟨j, hj, rfl⟩, hd, ho⟩
  have HD2 := Lib.hid hd
  have HO2 := Lib.hid (HO.out.trans ho)
  clear hd ho
  have hcv : ∀ (b : UInt8), (convert 22 9 (.slice (some ⟨w2.heap.size, 0, none⟩) 1 1)).run Tryz.prog (w2.alloc (.cells #[.int .u8 (b.toNat : Nat)] 5)) = .ok (.string ⟨#[b]⟩) (w2.alloc (.cells #[.int .u8 (b.toNat : Nat)] 5)) := fun b =>
    run_strAt w2.heap.size 0 1 1 [b] rfl fun i hi => by
      have hi0 : i = 0 := by simpa using hi
      subst hi0
      simp [go_sem]
  have hz2 := HD2.out.lt
  have HA := Lib.hid (Only.alloc' w2 (.cells #[.int .u8 ((⟨#[32, 10, 48, 97, 45, 110, 44, 58, 93, 255, 40, 120, 126, 49, 128, 225, 59]⟩ : ByteArray)[j]'(by show j < 17; omega)).toNat] 5) g)
  have e1 : (s.extract 0 k).size = k := by rw [ByteArray.size_extract]; omega
  have e2 : (s.extract k s.size).size = s.size - k := by rw [ByteArray.size_extract]; omega
  have e3 : (s.extract (k + 1) s.size).size = s.size - (k + 1) := by rw [ByteArray.size_extract]; omega
  have hb2 : ∀ o, Below w2.heap.size w2 (w2.alloc o) := fun o => (Below.refl _ _).alloc (Nat.le_refl _) _
  have HB := Lib.hid hb2
  clear hb2
  by_cases hk2 : k = s.size
  · go_wp2_with fail
    go_region
    go_wp2_with fail
    go_ret
    exact tld_of _ (by rw [← HZ.out]; simp [ByteArray.size_append, size1]; try omega) (drt.Sd.below HD2.out ((HB.out _).drew)) (HO2.out.trans (Only.of_below ((HB.out _).drew)))
  · have hk3 : k < s.size := by omega
    go_wp2_with fail
    refine (one_le g a0 len cap B 3 (by omega) (by omega) _ (drt.Sd.below HD2.out (HB.out _))).mono ?_
    rintro e w3 ⟨⟨b, rfl⟩, hd, ho⟩
    have HD3 := Lib.hid hd
    have HO3 := Lib.hid ((HO2.out.trans (Only.of_below (HB.out _))).trans ho)
    clear hd ho
    cases b with
    | true =>
      go_wp2_with fail
      go_region
      go_wp2_with fail
      go_ret
      exact tld_of _ (by rw [← HZ.out]; simp [ByteArray.size_append, size1]; try omega) (drt.Sd.below HD3.out (drew_b _)) (HO3.out.trans (Only.of_below (drew_b _)))
    | false =>
      go_wp2_with fail
      refine (one_le g a0 len cap B 2 (by omega) (by omega) _ HD3.out).mono ?_
      rintro e w4 ⟨⟨b, rfl⟩, hd, ho⟩
      have HD4 := Lib.hid hd
      have HO4 := Lib.hid (HO3.out.trans ho)
      clear hd ho
      cases b with
      | true =>
        go_wp2_with fail
        go_region
        go_wp2_with fail
        go_ret
        exact tld_of _ (by rw [← HZ.out]; simp [ByteArray.size_append]; try omega) (drt.Sd.below HD4.out (drew_b _)) (HO4.out.trans (Only.of_below (drew_b _)))
      | false =>
        go_wp2_with fail
        go_region
        go_wp2_with fail
        go_ret
        exact tld_of _ (by rw [← HZ.out]; simp [ByteArray.size_append, size1]; try omega) (drt.Sd.below HD4.out (drew_b _)) (HO4.out.trans (Only.of_below (drew_b _)))

#print axioms spoil_calls
end Go.Proofs.YtnlinlodgpbnlaaGreat.drs
