/- Contracts: GetText of the model. -/
import Derived.Test.YtbohfmnobhodcaaDoorTget
import Derived.BigQuiet
namespace Go.Proofs.YtbohfmnobhodcaaDoor.stget
open Go.RowKit Go.Proofs.YtbohfmnobhodcaaDoor.lib Go.Proofs.YtbohfmnobhodcaaDoor.num Go.Proofs.YtbohfmnobhodcaaDoor.get Go.Proofs.YtbohfmnobhodcaaDoor.sget Go.Proofs.YtbohfmnobhodcaaDoor.tget
set_option linter.unusedVariables false

theorem numVal_of (R : Int × Int × Int) : numVal R = .agg #[.int .i64 (if R.2.2 = 0 then R.1 else 0), .int .i64 (if R.2.2 = 0 then R.2.1 else 0), .int .i64 R.2.2] := by
  unfold numVal
  split
  · rename_i h; rw [h]
  · rfl

set_option maxRecDepth 100000 in
theorem specGetText_calls (s : ByteArray) (hs : s.size ≤ 9223372036854775000) (at_ : Int) (hat : at_ ≤ 9223372036854775807) (w : World) :
    Calls Tryd.prog 16 #[.string s, .int .i64 at_] w fun e w' => e = .returned (textVal (getText s at_)) ∧ Below w.heap.size w w' := by
  rcases cases_ s at_ with ⟨hc, hT⟩ | ⟨hc, n, q, hn, hq, hqs, h8, hT⟩
  · have HV := Lib.hid (textVal_bad _ _ hT hc)
    have hnv : numVal (getNum s at_) = .agg #[.int .i64 0, .int .i64 0, .int .i64 (getNum s at_).2.2] := by unfold numVal; rw [if_neg hc]
    obtain ⟨c, hcc⟩ : ∃ c, c = (getNum s at_).2.2 := ⟨_, rfl⟩
    rw [← hcc] at hnv HV hc
    have hb : (c != 0) = true := by rw [bne_iff_ne]; exact hc
    have HN := Lib.hid hnv
    clear hnv hcc hT hc
    go_enter Tryd.func16, Tryd.ntmps16
    go_wp2_with fail
    refine (specGetNum_calls s hs at_ hat _).mono ?_
    rintro e w2 ⟨rfl, hb2⟩
    rw [HN.out]
    have hblk := get.new_kept hb2
    obtain ⟨k0, k1, k2, f0, f1, f2⟩ := three hblk
    have hz : w.heap.size < w2.heap.size := by have := hb2.size; simp at this; omega
    go_wp2
    exact bodyPost_ret (v := .agg #[.string ByteArray.empty, .int .i64 0, .int .i64 c]) (by simp [results, Tryd.results16, go_sem, k0, k1, k2, hz]; rfl) rfl
      ⟨by rw [HV.out], ((((((Below.refl _ _).alloc (Nat.le_refl _) _).trans (hb2.mono (by simp))).setCell (by simp) _).setCell (by simp) _).setCell (by simp) _).alloc (by simp; omega) _⟩
  · have hnv : numVal (getNum s at_) = .agg #[.int .i64 n, .int .i64 q, .int .i64 0] := by unfold numVal; rw [if_pos hc, hn, hq]
    have HN := Lib.hid hnv
    clear hnv hc hn hq
    rcases hT with ⟨hb, hT⟩ | ⟨g0, g1, g2, hT⟩ | ⟨m, rfl, g1, g2, hT⟩
    · have HV := Lib.hid (textVal_bad _ 3 hT (by omega))
      clear hT
      have hb2 : (decide (n < 0) = true) ∨ (decide (n < 0) = false ∧ decide (8000 < n) = true) := by
        rcases hb with hb | hb
        · exact .inl (by simpa using hb)
        · exact .inr ⟨by simp; omega, by simpa using hb⟩
      clear hb
      rcases hb2 with d1 | ⟨d1, d2⟩
      all_goals
        go_enter Tryd.func16, Tryd.ntmps16
        go_wp2_with fail
        refine (specGetNum_calls s hs at_ hat _).mono ?_
        rintro e w2 ⟨rfl, hb2⟩
        rw [HN.out]
        have hblk := get.new_kept hb2
        obtain ⟨k0, k1, k2, f0, f1, f2⟩ := three hblk
        have hz : w.heap.size < w2.heap.size := by have := hb2.size; simp at this; omega
        go_wp2
        exact bodyPost_ret (v := .agg #[.string ByteArray.empty, .int .i64 0, .int .i64 3]) (by simp [results, Tryd.results16, go_sem, k0, k1, k2, hz]; rfl) rfl
          ⟨by rw [HV.out], ((((((Below.refl _ _).alloc (Nat.le_refl _) _).trans (hb2.mono (by simp))).setCell (by simp) _).setCell (by simp) _).setCell (by simp) _).alloc (by simp; omega) _⟩
    · have HV := Lib.hid (textVal_bad _ 4 hT (by omega))
      clear hT
      have d1 : decide (n < 0) = false := by simp; omega
      have d2 : decide (8000 < n) = false := by simp; omega
      go_enter Tryd.func16, Tryd.ntmps16
      go_wp2_with fail
      refine (specGetNum_calls s hs at_ hat _).mono ?_
      rintro e w2 ⟨rfl, hb2⟩
      rw [HN.out]
      have hblk := get.new_kept hb2
      obtain ⟨k0, k1, k2, f0, f1, f2⟩ := three hblk
      have hz : w.heap.size < w2.heap.size := by have := hb2.size; simp at this; omega
      go_wp2
      exact bodyPost_ret (v := .agg #[.string ByteArray.empty, .int .i64 0, .int .i64 4]) (by simp [results, Tryd.results16, go_sem, k0, k1, k2, hz]; rfl) rfl
        ⟨by rw [HV.out], ((((((Below.refl _ _).alloc (Nat.le_refl _) _).trans (hb2.mono (by simp))).setCell (by simp) _).setCell (by simp) _).setCell (by simp) _).alloc (by simp; omega) _⟩
    · have HV := Lib.hid (textVal_ok _ _ _ hT)
      clear hT
      have d1 : decide ((m : Int) < 0) = false := by simp
      have d2 : decide (8000 < (m : Int)) = false := by simp; omega
      go_enter Tryd.func16, Tryd.ntmps16
      go_wp2_with fail
      refine (specGetNum_calls s hs at_ hat _).mono ?_
      rintro e w2 ⟨rfl, hb2⟩
      rw [HN.out]
      have hblk := get.new_kept hb2
      obtain ⟨k0, k1, k2, f0, f1, f2⟩ := three hblk
      have hz : w.heap.size < w2.heap.size := by have := hb2.size; simp at this; omega
      have hcut := run_cut s q m g2
      go_wp2
      go_region
      go_wp2
      exact bodyPost_ret (v := .agg #[.string (s.extract q (q + m)), .int .i64 ((q : Int) + m), .int .i64 0]) (by simp [results, Tryd.results16, go_sem, k0, k1, k2, hz]) rfl
        ⟨by rw [HV.out], (((((((Below.refl _ _).alloc (Nat.le_refl _) _).trans (hb2.mono (by simp))).setCell (by simp) _).setCell (by simp) _).setCell (by simp) _).alloc (by simp; omega) _).drew⟩
end Go.Proofs.YtbohfmnobhodcaaDoor.stget
