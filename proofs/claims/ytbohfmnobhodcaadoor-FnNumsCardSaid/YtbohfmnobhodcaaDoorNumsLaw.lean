/- The walk of FnNums. -/
import Derived.Test.YtbohfmnobhodcaaDoorNumsM
import Derived.Test.YtbohfmnobhodcaaDoorNumsDraw
namespace Go.Proofs.YtbohfmnobhodcaaDoor.nlw
open Go.RowKit Go.Proofs.YtbohfmnobhodcaaDoor.lib Go.Proofs.YtbohfmnobhodcaaDoor.num Go.Proofs.YtbohfmnobhodcaaDoor.get Go.Proofs.YtbohfmnobhodcaaDoor.tget Go.Proofs.YtbohfmnobhodcaaDoor.sea Go.Proofs.YtbohfmnobhodcaaDoor.drw Go.Proofs.YtbohfmnobhodcaaDoor.row
set_option linter.unusedVariables false

/-- s[:m], as an equation. -/
theorem run_to (s : ByteArray) (m : Nat) (h : m ≤ s.size) (x : Int) (hx : x = (m : Int)) (W : World) :
    (Instr.slice 9 (.string s) none (some (.int .i64 x)) none).run Tryd.prog W = .ok (.string (s.extract 0 m)) W := by
  rw [run_slice_string_to_if W 9 s .i64 x Tryd.underlying9, if_pos (by omega), hx, Int.toNat_natCast]

theorem cut_last (T : ByteArray) : (T.extract 0 (T.size - 1)).data.toList = T.data.toList.dropLast := by
  rw [ByteArray.data_extract, Array.toList_extract, List.extract_eq_take_drop, List.drop_zero, List.dropLast_eq_take]
  simp

theorem sz2 (T : ByteArray) : (⟨#[120, 121]⟩ ++ T ++ ⟨#[122]⟩ : ByteArray).size = T.size + 3 := by
  rw [ByteArray.size_append, ByteArray.size_append]
  show 2 + T.size + 1 = _
  omega
theorem sz1 (T : ByteArray) : (⟨#[120]⟩ ++ T : ByteArray).size = T.size + 1 := by
  rw [ByteArray.size_append]
  show 1 + T.size = _
  omega

theorem num_back (n : Int) (h0 : -9223372036854775808 ≤ n) (h1 : n ≤ 9223372036854775807) :
    numVal (getNum (⟨#[120, 121]⟩ ++ putNum n ++ ⟨#[122]⟩) 2) = .agg #[.int .i64 n, .int .i64 ((putNum n).size + 2), .int .i64 0] := by
  obtain ⟨p1, p2⟩ := nmt.putNum_pos n h0 h1
  have := nmt.getNum_back (⟨#[120, 121]⟩ ++ putNum n ++ ⟨#[122]⟩) 2 n [122] h0 h1 (by rw [sz2]; omega) (by simp)
  rw [show (((2 : Nat) : Int)) = 2 from rfl] at this
  rw [this]
  unfold numVal
  rw [if_pos rfl]
  congr 3
  simp only [Value.int.injEq, true_and, List.cons.injEq, and_true]
  omega

theorem num_short (n : Int) (h0 : -9223372036854775808 ≤ n) (h1 : n ≤ 9223372036854775807) :
    numVal (getNum ((putNum n).extract 0 ((putNum n).size - 1)) 0) = .agg #[.int .i64 0, .int .i64 0, .int .i64 4] := by
  obtain ⟨p1, p2⟩ := nmt.putNum_pos n h0 h1
  rw [nmt.getNum_short _ n h0 h1 (by simp; omega) (cut_last _)]
  rfl

theorem text_back (u : ByteArray) (hu : u.size ≤ 8000) (h : (putText u).size + 1 ≤ 8000) :
    textVal (getText (⟨#[120]⟩ ++ putText u) 1) = .agg #[.string u, .int .i64 ((putText u).size + 1), .int .i64 0] := by
  have e : putText u = putNum u.size ++ u := by unfold putText; rw [if_neg (by omega)]
  rw [e] at h ⊢
  have := nmt.getText_back (⟨#[120]⟩ ++ (putNum u.size ++ u)) u hu (by rw [sz1]; omega) 120 (by simp)
  rw [this]
  unfold textVal
  rw [if_pos rfl]
  congr 3
  simp only [Value.int.injEq, true_and, List.cons.injEq, and_true]
  simp

theorem text_short (u : ByteArray) (hu : u.size ≤ 8000) (h : (putText u).size + 1 ≤ 8000) :
    textVal (getText ((putText u).extract 0 ((putText u).size - 1)) 0) = .agg #[.string ByteArray.empty, .int .i64 0, .int .i64 4] := by
  have e : putText u = putNum u.size ++ u := by unfold putText; rw [if_neg (by omega)]
  have := nmt.getText_short ((putText u).extract 0 ((putText u).size - 1)) u hu (by simp; omega) (by rw [cut_last, e]; simp)
  unfold textVal
  rw [if_neg (by rw [this]; decide), this]

theorem putText_pos (u : ByteArray) (hu : u.size ≤ 8000) : 1 ≤ (putText u).size ∧ (putText u).size ≤ 8011 := by
  have e : putText u = putNum u.size ++ u := by unfold putText; rw [if_neg (by omega)]
  obtain ⟨p1, p2⟩ := nmt.putNum_pos u.size (by omega) (by omega)
  rw [e, ByteArray.size_append]
  omega

set_option maxRecDepth 100000 in
theorem fnNums_calls (a0 : Option Addr) (len0 cap0 : Nat) (a1 : Option Addr) (len1 cap1 : Nat) (w : World) (hh : Handle w) (r0 : len0 ≤ 9223372036854775807 → Rd w w.heap.size a0 len0) (r1 : len1 ≤ 9223372036854775807 → Rd w w.heap.size a1 len1) :
    Calls Tryd.prog 3 #[.slice a0 len0 cap0, .slice a1 len1 cap1] w fun e w' => e = .returned (.bool true) ∧ Below w.heap.size w w' := by
  by_cases hc0 : 1048576 < len0
  · have d0 : decide ((1048576 : Int) < len0) = true := by simp; omega
    go_enter Tryd.func3, Tryd.ntmps3
    go_wp2_with fail
    all_goals go_ret
    all_goals exact ⟨rfl, Below.refl _ _⟩
  by_cases hc1 : 1048576 < len1
  · have d0 : decide ((1048576 : Int) < len0) = false := by simp; omega
    have d1 : decide ((1048576 : Int) < len1) = true := by simp; omega
    go_enter Tryd.func3, Tryd.ntmps3
    go_wp2_with fail
    all_goals go_ret
    all_goals exact ⟨rfl, Below.refl _ _⟩
  have d0 : decide ((1048576 : Int) < len0) = false := by simp; omega
  have d1 : decide ((1048576 : Int) < len1) = false := by simp; omega
  have R0 := r0 (by omega)
  have R1 := r1 (by omega)
  have hpos := hh.pos
  clear r0 r1
  go_enter Tryd.func3, Tryd.ntmps3
  go_wp2_with fail
  refine (ndr.drawPutNum_calls a0 len0 cap0 _ R0).mono ?_
  rintro e wA ⟨⟨n, n0, n1, rfl⟩, hbA⟩
  have hzA := hbA.size
  obtain ⟨p1, p2⟩ := nmt.putNum_pos n n0 n1
  have HG := Lib.hid (num_back n n0 n1)
  have HS := Lib.hid (num_short n n0 n1)
  go_wp2_with fail
  refine (implPutNum_calls n n0 n1 _).mono ?_
  rintro e wB ⟨rfl, hbB⟩
  have hzB := hbB.size
  go_wp2_with fail
  refine (specPutNum_calls n n0 n1 _).mono ?_
  rintro e wC ⟨rfl, hbC⟩
  have hzC := hbC.size
  have HB : Hid (Below w.heap.size w wC) := hbA.trans ((hbB.mono hzA).trans (hbC.mono (by omega)))
  clear hbA hbB hbC
  generalize putNum n = T at p1 p2 HG HS ⊢
  have q1 : decide ((T.size : Int) < 1) = false := by simp; omega
  have q2 : decide ((10 : Int) < T.size) = false := by simp; omega
  go_wp2_with fail
  refine (implGetNum_calls _ (by rw [sz2]; omega) 2 (by omega) _ (hh.below HB.out hpos)).mono ?_
  rintro e wD ⟨rfl, hbD⟩
  rw [HG.out]
  have hzD := hbD.size
  have HB2 : Hid (Below w.heap.size w wD) := HB.out.trans (hbD.mono (by omega))
  clear hbD
  have hcut := run_to T (T.size - 1) (by omega) ((T.size : Int) - 1) (by omega)
  have hfd : ∀ (x i j : Int) (W : World), (Instr.field 26 (.agg #[.int .i64 x, .int .i64 i, .int .i64 j]) 2).run Tryd.prog W = .ok (.int .i64 j) W := fun _ _ _ _ => by kernel_rfl
  go_wp2_with fail
  refine (implGetNum_calls _ (by simp; omega) 0 (by omega) _ (hh.below (HB2.out.alloc (by omega) _) hpos)).mono ?_
  rintro e wE ⟨rfl, hbE⟩
  rw [HS.out]
  have hzE : wD.heap.size ≤ wE.heap.size := by have := hbE.size; simp at this; omega
  have HB3 : Hid (Below w.heap.size w wE) := (HB2.out.alloc (by omega) _).trans (hbE.mono (by simp; omega))
  clear hbE hcut
  go_wp2_with fail
  refine (ndr.drawPutText_calls a1 len1 cap1 _ ((R1.below HB3.out).mono (by omega))).mono ?_
  rintro e wF ⟨⟨u, hu, rfl⟩, hbF⟩
  have hzF := hbF.size
  have HB4 : Hid (Below w.heap.size w wF) := HB3.out.trans (hbF.mono (by omega))
  clear hbF hfd
  by_cases hbig : 8000 < u.size
  · have he : (putText u).toList.isEmpty = true := by
      rw [lib.isEmpty_eq, show putText u = ByteArray.empty from by unfold putText; rw [if_pos hbig]]
      rfl
    go_wp2_with fail
    refine (implPutText_calls u (by omega) _).mono ?_
    rintro e wG ⟨rfl, hbG⟩
    have hzG := hbG.size
    go_wp2_with fail
    refine (specPutText_calls u (by omega) _).mono ?_
    rintro e wH ⟨rfl, hbH⟩
    have hzH := hbH.size
    go_wp2_with fail
    refine (specPutText_calls u (by omega) _).mono ?_
    rintro e wI ⟨rfl, hbI⟩
    have HB5 : Hid (Below w.heap.size w wI) := HB4.out.trans ((hbG.mono (by omega)).trans ((hbH.mono (by omega)).trans (hbI.mono (by omega))))
    clear hbG hbH hbI
    go_wp2_with fail
    go_ret
    exact ⟨rfl, HB5.out⟩
  · obtain ⟨p3, p4⟩ := putText_pos u (by omega)
    have he : (putText u).toList.isEmpty = false := by rw [lib.isEmpty_eq]; exact decide_eq_false (by omega)
    have HTB := Lib.hid (text_back u (by omega))
    have HTS := Lib.hid (text_short u (by omega))
    go_wp2_with fail
    refine (implPutText_calls u (by omega) _).mono ?_
    rintro e wG ⟨rfl, hbG⟩
    have hzG := hbG.size
    go_wp2_with fail
    refine (specPutText_calls u (by omega) _).mono ?_
    rintro e wH ⟨rfl, hbH⟩
    have hzH := hbH.size
    have HB5 : Hid (Below w.heap.size w wH) := HB4.out.trans ((hbG.mono (by omega)).trans (hbH.mono (by omega)))
    clear hbG hbH
    generalize putText u = P at p3 p4 he HTB HTS ⊢
    by_cases hmax : 8000 < P.size + 1
    · have hm : decide ((8000 : Int) < (P.size : Int) + 1) = true := by simp; omega
      go_wp2_with fail
      go_ret
      exact ⟨rfl, HB5.out⟩
    · have hm : decide ((8000 : Int) < (P.size : Int) + 1) = false := by simp; omega
      have HTB2 := Lib.hid (HTB.out (by omega))
      have HTS2 := Lib.hid (HTS.out (by omega))
      clear HTB HTS
      go_wp2_with fail
      refine (implGetText_calls _ (by rw [sz1]; omega) 1 (by omega) _ (hh.below HB5.out hpos)).mono ?_
      rintro e wJ ⟨rfl, hbJ⟩
      have hzJ := hbJ.size
      rw [HTB2.out]
      have HB6 : Hid (Below w.heap.size w wJ) := HB5.out.trans (hbJ.mono (by omega))
      clear hbJ
      have hcut := run_to P (P.size - 1) (by omega) ((P.size : Int) - 1) (by omega)
      have hfd : ∀ (x : ByteArray) (i j : Int) (W : World), (Instr.field 31 (.agg #[.string x, .int .i64 i, .int .i64 j]) 2).run Tryd.prog W = .ok (.int .i64 j) W := fun _ _ _ _ => by kernel_rfl
      go_wp2_with fail
      refine (implGetText_calls _ (by simp; omega) 0 (by omega) _ (hh.below HB6.out hpos)).mono ?_
      rintro e wK ⟨rfl, hbK⟩
      rw [HTS2.out]
      have HB7 : Hid (Below w.heap.size w wK) := HB6.out.trans (hbK.mono (by omega))
      clear hbK
      go_wp2_with fail
      go_ret
      exact ⟨rfl, HB7.out⟩
end Go.Proofs.YtbohfmnobhodcaaDoor.nlw
