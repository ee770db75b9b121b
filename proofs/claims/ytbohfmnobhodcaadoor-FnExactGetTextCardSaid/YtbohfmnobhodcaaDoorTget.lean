/- Contracts of the functions behind GetText. -/
import Derived.Test.YtbohfmnobhodcaaDoorSGet
import Derived.Test.YtbohfmnobhodcaaDoorClo
import Derived.BigRegion
import Derived.RegionTactic
namespace Go.Proofs.YtbohfmnobhodcaaDoor.tget
open Go.RowKit Go.Proofs.YtbohfmnobhodcaaDoor.lib Go.Proofs.YtbohfmnobhodcaaDoor.num Go.Proofs.YtbohfmnobhodcaaDoor.get Go.Proofs.YtbohfmnobhodcaaDoor.sget Go.Proofs.YtbohfmnobhodcaaDoor.clo
set_option linter.unusedVariables false

def getText (s : ByteArray) (at_ : Int) : ByteArray × Int × Int :=
  let R := getNum s at_
  if R.2.2 ≠ 0 then (ByteArray.empty, 0, R.2.2)
  else if R.1 < 0 ∨ 8000 < R.1 then (ByteArray.empty, 0, 3)
  else if (s.size : Int) - R.2.1 < R.1 then (ByteArray.empty, 0, 4)
  else (s.extract R.2.1.toNat (R.2.1 + R.1).toNat, R.2.1 + R.1, 0)

theorem gn_place : ∀ f (s : ByteArray) (p i u : Nat), (gn f s p i u).2.2 = 0 → ∃ q : Nat, (gn f s p i u).2.1 = (q : Int) ∧ q ≤ s.size
  | 0, s, p, i, u, h => by simp [gn] at h
  | f + 1, s, p, i, u, h => by
    rw [gn] at h ⊢
    by_cases h1 : p < s.size
    · rw [dif_pos h1] at h ⊢
      split at h
      · simp at h
      · rename_i h2
        rw [if_neg h2]
        split at h
        · rename_i h3
          rw [if_pos h3]
          split at h
          · simp at h
          · rename_i h4
            rw [if_neg h4]
            exact ⟨p + 1, by simp, by omega⟩
        · rename_i h3
          rw [if_neg h3]
          exact gn_place f s (p + 1) (i + 1) _ h
    · rw [dif_neg h1] at h
      simp at h

theorem getNum_place (s : ByteArray) (at_ : Int) (h : (getNum s at_).2.2 = 0) : ∃ q : Nat, (getNum s at_).2.1 = (q : Int) ∧ q ≤ s.size ∧ s.size ≤ 8000 := by
  unfold getNum at h ⊢
  split at h
  · simp at h
  · rename_i h1
    rw [if_neg h1]
    split at h
    · simp at h
    · rename_i h2
      rw [if_neg h2]
      obtain ⟨q, e, hq⟩ := gn_place _ _ _ _ _ h
      exact ⟨q, e, hq, by omega⟩

/-- What readText hands back. -/
def TextEnd (R : ByteArray × Int × Int) (e : Ending) : Prop :=
  (R.2.2 = 0 ∧ e = .returned (.tuple #[.string R.1, .int .i64 R.2.1, .nilIface])) ∨
  (R.2.2 ≠ 0 ∧ e = .returned (.tuple #[.string ByteArray.empty, .int .i64 0, .iface 48 (.agg #[.int .i64 R.2.2])]))

/-- The cases of GetText, told once. -/
theorem cases_ (s : ByteArray) (at_ : Int) :
    ((getNum s at_).2.2 ≠ 0 ∧ getText s at_ = (ByteArray.empty, 0, (getNum s at_).2.2)) ∨
    ((getNum s at_).2.2 = 0 ∧ ∃ (n : Int) (q : Nat), (getNum s at_).1 = n ∧ (getNum s at_).2.1 = (q : Int) ∧ q ≤ s.size ∧ s.size ≤ 8000 ∧
      (((n < 0 ∨ 8000 < n) ∧ getText s at_ = (ByteArray.empty, 0, 3)) ∨
       (0 ≤ n ∧ n ≤ 8000 ∧ (s.size : Int) - q < n ∧ getText s at_ = (ByteArray.empty, 0, 4)) ∨
       (∃ m : Nat, n = (m : Int) ∧ m ≤ 8000 ∧ q + m ≤ s.size ∧ getText s at_ = (s.extract q (q + m), (q : Int) + m, 0)))) := by
  by_cases h : (getNum s at_).2.2 = 0
  · right
    obtain ⟨q, e, hq, hs⟩ := getNum_place s at_ h
    refine ⟨h, _, q, rfl, e, hq, hs, ?_⟩
    unfold getText
    simp only [h, e]
    by_cases h1 : (getNum s at_).1 < 0 ∨ 8000 < (getNum s at_).1
    · left
      exact ⟨h1, by simp [h1]⟩
    · right
      by_cases h2 : (s.size : Int) - q < (getNum s at_).1
      · left
        exact ⟨by omega, by omega, h2, by simp [h1, h2]⟩
      · right
        obtain ⟨m, hm⟩ := Int.eq_ofNat_of_zero_le (show 0 ≤ (getNum s at_).1 by omega)
        refine ⟨m, hm, by omega, by omega, ?_⟩
        rw [if_neg (by omega), if_neg h1, if_neg h2, hm]
        congr 2
  · left
    refine ⟨h, ?_⟩
    unfold getText
    simp [h]

set_option maxRecDepth 100000 in
theorem readText_calls (s : ByteArray) (hs : s.size ≤ 9223372036854775000) (at_ : Int) (hat : at_ ≤ 9223372036854775807) (w : World) :
    Calls Tryd.prog 29 #[.string s, .int .i64 at_] w fun e w' => TextEnd (getText s at_) e ∧ Below w.heap.size w w' := by
  rcases cases_ s at_ with ⟨hc, hT⟩ | ⟨hc, n, q, hn, hq, hqs, h8, hT⟩
  · have HC := Lib.hid hc
    have HT := Lib.hid hT
    clear hc hT
    go_enter Tryd.func29, Tryd.ntmps29
    go_wp2_with fail
    refine (readNum_calls s hs at_ hat _).mono ?_
    rintro e w' ⟨hR, rfl⟩
    rcases hR with ⟨h0, rfl⟩ | ⟨h0, rfl⟩
    · exact absurd h0 HC.out
    · clear h0
      go_wp2_with fail
      go_ret3
      exact ⟨by rw [HT.out]; exact .inr ⟨HC.out, rfl⟩, Below.refl _ _⟩
  · have HC := Lib.hid hc
    have HN := Lib.hid hn
    have HQ := Lib.hid hq
    have HT := Lib.hid hT
    clear hc hn hq hT
    go_enter Tryd.func29, Tryd.ntmps29
    go_wp2_with fail
    refine (readNum_calls s hs at_ hat _).mono ?_
    rintro e w' ⟨hR, rfl⟩
    rcases hR with ⟨h0, rfl⟩ | ⟨h0, rfl⟩
    · clear h0
      rw [HN.out, HQ.out]
      rcases HT.out with ⟨hb, hT⟩ | ⟨g0, g1, g2, hT⟩ | ⟨m, rfl, g1, g2, hT⟩
      · have HT2 := Lib.hid hT
        clear hT HT
        rcases hb with hb | hb
        all_goals
          go_wp2_with fail
          all_goals go_ret3
          all_goals exact ⟨by rw [HT2.out]; exact .inr ⟨by decide, rfl⟩, Below.refl _ _⟩
      · have HT2 := Lib.hid hT
        clear hT HT
        have d1 : decide (n < 0) = false := by simp; omega
        have d2 : decide (8000 < n) = false := by simp; omega
        go_wp2_with fail
        all_goals go_ret3
        all_goals exact ⟨by rw [HT2.out]; exact .inr ⟨by decide, rfl⟩, Below.refl _ _⟩
      · have HT2 := Lib.hid hT
        clear hT HT
        have d1 : decide ((m : Int) < 0) = false := by simp
        have d2 : decide (8000 < (m : Int)) = false := by simp; omega
        have hcut := run_cut s q m g2
        go_wp2_with (go_at_call 37; refine (clone_calls _ (by simp; omega) _).mono ?_; rintro e w2 ⟨rfl, hb2⟩)
        go_ret3
        exact ⟨by rw [HT2.out]; exact .inl ⟨rfl, rfl⟩, hb2⟩
    · exact absurd HC.out h0

def textVal (R : ByteArray × Int × Int) : Value := if R.2.2 = 0 then .agg #[.string R.1, .int .i64 R.2.1, .int .i64 0] else .agg #[.string ByteArray.empty, .int .i64 0, .int .i64 R.2.2]

theorem textVal_form (R : ByteArray × Int × Int) : ∃ (t : ByteArray) (a c : Int), textVal R = .agg #[.string t, .int .i64 a, .int .i64 c] := by
  unfold textVal
  split
  · exact ⟨_, _, _, rfl⟩
  · exact ⟨_, _, _, rfl⟩
theorem textVal_ok (R : ByteArray × Int × Int) (t : ByteArray) (a : Int) (h : R = (t, a, 0)) : textVal R = .agg #[.string t, .int .i64 a, .int .i64 0] := by rw [h]; rfl
theorem textVal_bad (R : ByteArray × Int × Int) (c : Int) (h : R = (ByteArray.empty, 0, c)) (hc : c ≠ 0) : textVal R = .agg #[.string ByteArray.empty, .int .i64 0, .int .i64 c] := by rw [h]; unfold textVal; rw [if_neg hc]

/-- What is known behind errors.As: the target holds the code, the answer's block is as it was. -/
theorem as_after2 {w w0 w1 : World} {c : Int} {o : Obj} {t ts : TypeId} {x : ByteArray} (ho : o = .cells #[.string x, .int .i64 0, .int .i64 0] ts) (h0 : Below (w.alloc o).heap.size (w.alloc o) w0)
    (hb : Below (w0.alloc (.cells #[.int .i64 0] t)).heap.size (w0.alloc (.cells #[.int .i64 0] t)) w1) :
    (w1.setCell ⟨w0.heap.size, 0, none⟩ (.int .i64 c)).cell? ⟨w0.heap.size, 0, none⟩ = some (.int .i64 c) ∧
    (w1.setCell ⟨w0.heap.size, 0, none⟩ (.int .i64 c)).heap[w.heap.size]? = some (.cells #[.string x, .int .i64 0, .int .i64 0] ts (0, 0)) ∧
    Below w.heap.size w (w1.setCell ⟨w0.heap.size, 0, none⟩ (.int .i64 c)) := by
  have hz : w.heap.size < w0.heap.size := by have := h0.size; simp at this; omega
  have h1 : w1.heap[w0.heap.size]? = some (.cells #[.int .i64 0] t (0, 0)) := by
    rw [hb.block _ (by simp)]
    exact heap_alloc_new w0 _
  have h2 : w1.heap[w.heap.size]? = some o := by
    rw [hb.block _ (by simp; omega), Below.heap_alloc _ _ _ hz, h0.block _ (by simp)]
    exact heap_alloc_new w o
  refine ⟨World.cell?_setCell_same w1 _ _ (by rw [cell_of_row w1 _ 0 _ t (0, 0) h1]; rfl), ?_, ?_⟩
  · rw [Below.heap_setCell _ _ _ _ (show w.heap.size ≠ w0.heap.size by omega), h2, ho]
  · exact ((((Below.refl _ _).alloc (Nat.le_refl _) _).trans (h0.mono (by simp))).alloc (by omega) _).trans ((hb.mono (by simp; omega)).setCell (by simp; omega) _)

set_option maxRecDepth 100000 in
theorem implGetText_calls (s : ByteArray) (hs : s.size ≤ 9223372036854775000) (at_ : Int) (hat : at_ ≤ 9223372036854775807) (w : World) (hg : Handle w) :
    Calls Tryd.prog 13 #[.string s, .int .i64 at_] w fun e w' => e = .returned (textVal (getText s at_)) ∧ Below w.heap.size w w' := by
  obtain ⟨R, hRR⟩ : ∃ R, R = getText s at_ := ⟨_, rfl⟩
  have HR := Lib.hid hRR
  rw [← hRR]
  clear hRR
  have hlt := hg.pos
  go_enter Tryd.func13, Tryd.ntmps13
  go_wp2_with fail
  refine (readText_calls s hs at_ hat _).mono ?_
  rintro e w0 ⟨hR, hb0⟩
  rw [← HR.out] at hR
  have hz0 : w.heap.size < w0.heap.size := by have := hb0.size; simp at this; omega
  rcases hR with ⟨h0, rfl⟩ | ⟨h0, rfl⟩
  · have HV : Hid (textVal R = .agg #[.string R.1, .int .i64 R.2.1, .int .i64 0]) := by unfold Hid textVal; rw [if_pos h0]
    clear h0
    have hblk := get.new_kept hb0
    obtain ⟨c0, c1, c2, f0, f1, f2⟩ := three hblk
    go_wp2_with (go_at_call 23; refine (eas.as_nil _ _).mono ?_; rintro e w' ⟨rfl, rfl⟩)
    exact bodyPost_ret (v := .agg #[.string R.1, .int .i64 R.2.1, .int .i64 0]) (by simp [results, Tryd.results13, go_sem, c0, c1, c2, hz0]) rfl
      ⟨by rw [HV.out], (((((((Below.refl _ _).alloc (Nat.le_refl _) _).trans (hb0.mono (by simp))).setCell (by simp) _).setCell (by simp) _).setCell (by simp) _).alloc (by simp; omega) _)⟩
  · have HV : Hid (textVal R = .agg #[.string ByteArray.empty, .int .i64 0, .int .i64 R.2.2]) := by unfold Hid textVal; rw [if_neg h0]
    clear h0
    go_wp2_with (go_at_call 23; refine (eas.as_hit R.2.2 ⟨w0.heap.size, 0, none⟩ (.int .i64 0) _ ?_ ?_ ?_).mono ?_)
    · exact Handle.below hg ((((Below.refl _ _).alloc (Nat.le_refl _) _).trans (hb0.mono (by simp))).alloc (by omega) _) hlt
    · simp
    · simp
    · rintro e w' ⟨rfl, w1, hb, rfl⟩
      obtain ⟨k0, h2, hbel⟩ := as_after2 (c := R.2.2) rfl hb0 hb
      obtain ⟨W, hW⟩ : ∃ W, W = w1.setCell ⟨w0.heap.size, 0, none⟩ (.int .i64 R.2.2) := ⟨_, rfl⟩
      rw [← hW] at k0 h2 hbel
      simp only [← hW]
      clear hW hb
      obtain ⟨c0, c1, c2, f0, f1, f2⟩ := three h2
      go_wp2
      exact bodyPost_ret (v := .agg #[.string ByteArray.empty, .int .i64 0, .int .i64 R.2.2]) (by simp [results, Tryd.results13, go_sem, c0, c1, c2]; rfl) rfl
        ⟨by rw [HV.out], ((hbel.setCell (by simp) _).setCell (by simp) _).setCell (by simp) _⟩
end Go.Proofs.YtbohfmnobhodcaaDoor.tget
