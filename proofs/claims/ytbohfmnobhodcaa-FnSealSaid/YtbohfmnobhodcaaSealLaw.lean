/- The walk of FnSeal. -/
import Derived.Test.YtbohfmnobhodcaaSealDraw
import Derived.StillTailTactics
namespace Go.Proofs.Ytbohfmnobhodcaa.slw
open Go.RowKit Go.Proofs.Ytbohfmnobhodcaa.lib Go.Proofs.Ytbohfmnobhodcaa.crc Go.Proofs.Ytbohfmnobhodcaa.sea Go.Proofs.Ytbohfmnobhodcaa.clo Go.Proofs.Ytbohfmnobhodcaa.drw Go.Proofs.Ytbohfmnobhodcaa.row
set_option linter.unusedVariables false

theorem fnSeal_calls (a0 : Option Addr) (len0 cap0 : Nat) (a1 : Option Addr) (len1 cap1 : Nat) (w : World) (r0 : len0 ≤ 9223372036854775807 → Rd w w.heap.size a0 len0) (r1 : len1 ≤ 9223372036854775807 → Rd w w.heap.size a1 len1) :
    Calls Try.prog 3 #[.slice a0 len0 cap0, .slice a1 len1 cap1] w fun e w' => e = .returned (.bool true) ∧ Below w.heap.size w w' := by
  by_cases hc0 : 1048576 < len0
  · have d0 : decide ((1048576 : Int) < len0) = true := by simp; omega
    go_enter Try.func3, Try.ntmps3
    go_wp2_with fail
    all_goals go_ret
    all_goals exact ⟨rfl, Below.refl _ _⟩
  by_cases hc1 : 1048576 < len1
  · have d0 : decide ((1048576 : Int) < len0) = false := by simp; omega
    have d1 : decide ((1048576 : Int) < len1) = true := by simp; omega
    go_enter Try.func3, Try.ntmps3
    go_wp2_with fail
    all_goals go_ret
    all_goals exact ⟨rfl, Below.refl _ _⟩
  have d0 : decide ((1048576 : Int) < len0) = false := by simp; omega
  have d1 : decide ((1048576 : Int) < len1) = false := by simp; omega
  have R0 := r0 (by omega)
  have R1 := r1 (by omega)
  clear r0 r1
  go_enter Try.func3, Try.ntmps3
  go_wp2_with fail
  refine (sdr.drawSeal_calls a0 len0 cap0 _ R0).mono ?_
  rintro e wA ⟨⟨t, ht, rfl⟩, hbA⟩
  by_cases hbig : 7996 < t.size
  · have he : (!(sea.seal_ t).toList.isEmpty) = false := by
      rw [show sea.seal_ t = ByteArray.empty from by unfold sea.seal_; rw [if_pos hbig], lib.isEmpty_eq]
      rfl
    go_wp2_with fail
    refine (sea.implSeal_calls t (by omega) _).mono ?_
    rintro e wB ⟨rfl, hbB⟩
    go_wp2_with fail
    refine (sea.specSeal_calls t (by omega) _).mono ?_
    rintro e wC ⟨rfl, hbC⟩
    have HB : Hid (Below w.heap.size w wC) := hbA.trans ((hbB.mono hbA.size).trans (hbC.mono (Nat.le_trans hbA.size hbB.size)))
    clear hbA hbB hbC R0
    go_wp2_with fail
    refine (sdr.drawCrcMore_calls a1 len1 cap1 _ ((R1.below HB.out).mono HB.out.size)).mono ?_
    rintro e wD ⟨⟨c, u, q0, q1, hu, rfl⟩, hbD⟩
    have hfin := Lib.hid (smt.crc_goes_on t u)
    by_cases hsum : 8000 < t.size + u.size
    · go_wp2_with fail
      go_ret
      exact ⟨rfl, HB.out.trans (hbD.mono HB.out.size)⟩
    · have HS : Hid (crc.crcMoreI (crc.crcMoreI 0 t) u = crc.crcMoreI 0 (t ++ u)) := hfin.out (by omega)
      clear hfin
      go_wp2_with (first
        | (go_at_call 17; refine (crc.implCrcMore_calls _ _ (by omega) _).mono ?_; rintro e w' ⟨rfl, rfl⟩)
        | (go_at_call 18; refine (crc.specCrcMore_calls _ _ (by omega) _).mono ?_; rintro e w' ⟨rfl, rfl⟩)
        | (go_at_call 19; refine (crc.implCrc_calls _ (by first | omega | (simp; omega)) _).mono ?_; rintro e w' ⟨rfl, rfl⟩))
      go_ret
      exact ⟨lib.ret_bool (by rw [HS.out]; simp), HB.out.trans (hbD.mono HB.out.size)⟩
  · have hnm : (sea.seal_ t).data.toList = t.data.toList ++ sea.four (crc.crcMore 0 t.data.toList) := by
      unfold sea.seal_
      rw [if_neg hbig]
      simp [sea.fourS]
    have hsz : (sea.seal_ t).size = t.size + 4 := by
      have := congrArg List.length hnm
      simpa [sea.four] using this
    have he : (!(sea.seal_ t).toList.isEmpty) = true := by
      rw [lib.isEmpty_eq, decide_eq_false (by omega)]
      rfl
    have HN := Lib.hid hnm
    have HZ := Lib.hid hsz
    clear hnm hsz
    go_wp2_with fail
    refine (sea.implSeal_calls t (by omega) _).mono ?_
    rintro e wB ⟨rfl, hbB⟩
    go_wp2_with fail
    refine (sea.specSeal_calls t (by omega) _).mono ?_
    rintro e wC ⟨rfl, hbC⟩
    have HB : Hid (Below w.heap.size w wC) := hbA.trans ((hbB.mono hbA.size).trans (hbC.mono (Nat.le_trans hbA.size hbB.size)))
    clear hbA hbB hbC R0
    have hz := HZ.out
    generalize sea.seal_ t = s at he HN HZ hz ⊢
    go_wp2_with (first
      | (refine sdr.wp_bytes (.tmp 29) s rfl rfl rfl ?_; intro w1 cap hcs hfs hb1 hz1 hcap)
      | (go_at_call 14; refine (sdr.lwAt_calls a1 len1 cap1 0 (by omega) _ (by omega) (by omega) w.heap.size _ (R1.below (HB.out.trans (hb1.mono HB.out.size)))).mono ?_; rintro e w' ⟨⟨r, r0, r1, rfl⟩, rfl⟩))
    obtain ⟨k, rfl⟩ := Int.eq_ofNat_of_zero_le r0
    have hks : k < s.size := by omega
    obtain ⟨c, hc⟩ : ∃ c : UInt8, c = s.data.toList[k]'(by simpa using hks) := ⟨_, rfl⟩
    have kc := hcs k (by simpa using hks)
    have kf := hfs k (by simpa using hks)
    rw [← hc] at kc
    have HC := Lib.hid hc
    have HCS := Lib.hid hcs
    clear hc hcs hfs
    have RW := R1.below (HB.out.trans (hb1.mono HB.out.size))
    obtain ⟨r2, p0, p1, hcall⟩ := sdr.lwAt_fix a1 len1 cap1 1 (by omega) 255 (by omega) (by omega) w.heap.size w1 RW
    have HCALL := Lib.hid hcall
    obtain ⟨d, hd, hX⟩ := sdr.turned c r2 p0 p1
    have HD := Lib.hid hd
    clear hd
    clear hcall
    refine wp_region_still_tail 12 (by kernel_rfl) (by kernel_rfl) ?_
    simp only [List.take_succ_cons, List.take_zero, List.drop_succ_cons, List.drop_zero]
    change wpStill _ _ w1.drew (fun a' => wpList _ _ _ _ a' w1.drew) _ _
    repeat (first | still_step | still_call (HCALL.out _ ⟨rfl, rfl, rfl, Nat.le_refl _, fun _ _ => rfl⟩))
    refine wpStill_nil ?_
    go_wp2_with fail
    refine (clo.implUnseal_calls s (by omega) _).mono ?_
    rintro e w3 ⟨rfl, hb3⟩
    have HU := Lib.hid (sdr.seal_back t s (by omega) HN.out)
    rw [HU.out]
    have hb2 : Below wC.heap.size wC (w1.setCell ⟨wC.heap.size, k, none⟩ (.int .u8 (d.toNat : Int))).drew := (hb1.setCell (Nat.le_refl _) _).drew
    have hcs3 : ∀ j (hj : j < (s.data.toList.set k d).length), w3.cell? ⟨wC.heap.size, 0 + j, none⟩ = some (.int .u8 ((s.data.toList.set k d)[j].toNat)) := fun j hj =>
      (hb3.cell (p := ⟨wC.heap.size, 0 + j, none⟩) (by show wC.heap.size < (w1.setCell _ _).heap.size; simp; omega)).trans (sdr.set_cells HCS.out k (by simpa using hks) d j hj)
    have H3 := Lib.hid hcs3
    have HT := Lib.hid (sdr.seal_turned t s (by omega) HN.out k (by simpa using hks) d (by rw [← HC.out]; exact HD.out))
    have hz3 : wC.heap.size < w3.heap.size := by have := hb3.size; simp at this; omega
    have HB3 : Hid (Below w.heap.size w w3) := HB.out.trans ((hb2.mono HB.out.size).trans (hb3.mono (by have := HB.out.size; simp; omega)))
    clear hcs3 hb2 hb3 kc kf hX
    have hls : (s.data.toList.set k d).length = t.size + 4 := by simpa using hz
    have HLS := Lib.hid hls
    clear hls
    obtain ⟨b, hb⟩ : ∃ b : ByteArray, b = ⟨(s.data.toList.set k d).toArray⟩ := ⟨_, rfl⟩
    have hrun := run_strAt (w := w3) wC.heap.size 0 (t.size + 4) cap (s.data.toList.set k d) HLS.out H3.out
    rw [← hb] at hrun HT
    have hbs : b.size ≤ 8000 := by
      have hlen : b.size = (s.data.toList.set k d).length := by rw [hb]; rfl
      rw [hlen, HLS.out]
      omega
    clear hb
    have hfd : ∀ (x : ByteArray) (i j : Int) (W : World), (Instr.field 27 (.agg #[.string x, .int .i64 i, .int .i64 j]) 2).run Try.prog W = .ok (.int .i64 j) W := fun _ _ _ _ => by kernel_rfl
    go_wp2_with (go_at_call 15; refine (clo.implUnseal_calls b (by omega) _).mono ?_; rintro e w4 ⟨rfl, hb4⟩; rw [HT.out])
    have HB4 : Hid (Below w.heap.size w w4) := HB3.out.trans (hb4.mono HB3.out.size)
    clear hb4 hb1
    refine (sdr.drawCrcMore_calls a1 len1 cap1 _ ((R1.below HB4.out).mono HB4.out.size)).mono ?_
    rintro e wD ⟨⟨c, u, q0, q1, hu, rfl⟩, hbD⟩
    have hfin := Lib.hid (smt.crc_goes_on t u)
    by_cases hsum : 8000 < t.size + u.size
    · go_wp2_with fail
      go_ret
      exact ⟨rfl, HB4.out.trans (hbD.mono HB4.out.size)⟩
    · have HS : Hid (crc.crcMoreI (crc.crcMoreI 0 t) u = crc.crcMoreI 0 (t ++ u)) := hfin.out (by omega)
      clear hfin
      go_wp2_with (first
        | (go_at_call 17; refine (crc.implCrcMore_calls _ _ (by omega) _).mono ?_; rintro e w' ⟨rfl, rfl⟩)
        | (go_at_call 18; refine (crc.specCrcMore_calls _ _ (by omega) _).mono ?_; rintro e w' ⟨rfl, rfl⟩)
        | (go_at_call 19; refine (crc.implCrc_calls _ (by first | omega | (simp; omega)) _).mono ?_; rintro e w' ⟨rfl, rfl⟩))
      go_ret
      exact ⟨lib.ret_bool (by rw [HS.out]; simp), HB4.out.trans (hbD.mono HB4.out.size)⟩
end Go.Proofs.Ytbohfmnobhodcaa.slw
