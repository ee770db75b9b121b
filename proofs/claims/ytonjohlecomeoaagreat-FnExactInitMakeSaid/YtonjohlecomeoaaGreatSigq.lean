/- InitMake of the model, where all that comes in is right (written by wip/gen_sig.py). -/
import Derived.Test.YtonjohlecomeoaaGreatSimq
import Derived.Test.YtonjohlecomeoaaGreatQn
namespace Go.Proofs.YtonjohlecomeoaaGreat.sim
open Go.RowKit Go.Proofs.YtonjohlecomeoaaGreat.tm Go.Proofs.YtonjohlecomeoaaGreat.lib Go.Proofs.YtonjohlecomeoaaGreat.rdr Go.Proofs.YtonjohlecomeoaaGreat.bld Go.Proofs.YtonjohlecomeoaaGreat.sop Go.Proofs.YtonjohlecomeoaaGreat.mkp Go.Proofs.YtonjohlecomeoaaGreat.mrk Go.Proofs.YtonjohlecomeoaaGreat.mrs Go.Proofs.YtonjohlecomeoaaGreat.ltq Go.Proofs.YtonjohlecomeoaaGreat.ltv Go.Proofs.YtonjohlecomeoaaGreat.ltp Go.Proofs.YtonjohlecomeoaaGreat.hdp Go.Proofs.YtonjohlecomeoaaGreat.hdv Go.Proofs.YtonjohlecomeoaaGreat.blw Go.Proofs.YtonjohlecomeoaaGreat.smx
set_option linter.unusedVariables false

set_option maxHeartbeats 8000000 in
set_option maxRecDepth 100000 in
theorem good_no (f : Int) (me lock eph stamp H0 PE C1 D1 C2 D2 C3 PM S1 S2 : Bs) (w : World) (d0 : decide (8000 < (me.length : Int)) = false) (d1 : decide (8000 < (lock.length : Int)) = false) (d2 : decide (8000 < (eph.length : Int)) = false) (d3 : decide (8000 < (stamp.length : Int)) = false)
    (N : Gives 37 #[.int .i64 f] (.bool true)) (M : Gives 38 #[str me] (.bool true)) (L : Gives 39 #[str lock] (.bool true)) (E : Gives 38 #[str eph] (.bool true)) (S : Gives 40 #[str stamp] (.bool true))
    (HH : ∀ w b, w.cell? ⟨b, 0, none⟩ = some (str lock) → Calls Tryz.prog 42 #[.string ⟨#[104, 97, 115, 104]⟩, .slice (some ⟨b, 0, none⟩) 1 1] w fun e w' => e = .returned (str H0) ∧ Below w.heap.size w w')
    (PU : Gives 43 #[str eph] (str PE)) (MA : Gives 41 #[str H0, str PE] (str C1)) (DA : Gives 44 #[str eph, str lock] (str D1)) (MB : Gives 41 #[str C1, str D1] (str C2))
    (DB : Gives 44 #[str me, str lock] (str D2)) (MC : Gives 41 #[str C2, str D2] (str C3)) (PV : Gives 43 #[str me] (str PM))
    (SA : ∀ w b, w.cell? ⟨b, 0, none⟩ = some (str C2) → w.cell? ⟨b, 1, none⟩ = some (str PM) → Calls Tryz.prog 42 #[.string ⟨#[115, 104, 117, 116]⟩, .slice (some ⟨b, 0, none⟩) 2 2] w fun e w' => e = .returned (str S1) ∧ Below w.heap.size w w')
    (SB : ∀ w b, w.cell? ⟨b, 0, none⟩ = some (str C3) → w.cell? ⟨b, 1, none⟩ = some (str stamp) → Calls Tryz.prog 42 #[.string ⟨#[115, 104, 117, 116]⟩, .slice (some ⟨b, 0, none⟩) 2 2] w fun e w' => e = .returned (str S2) ∧ Below w.heap.size w w')
    (LR : ∀ w v, Rds w v [PE, S1, S2] → Calls Tryz.prog 45 #[.agg #[.int .i64 1, .int .i64 f, .int .i64 0, .int .i64 0, v, .string ⟨#[]⟩, .string ⟨#[]⟩]] w fun e w' => e = .returned (.bool false) ∧ Below w.heap.size w w') :
    Calls Tryz.prog 9 #[.int .i64 f, str me, str lock, str eph, str stamp] w (HEnd (ill 9) w) := by
  have NH := Lib.hid N
  clear N
  have MH := Lib.hid M
  clear M
  have LH := Lib.hid L
  clear L
  have EH := Lib.hid E
  clear E
  have SH := Lib.hid S
  clear S
  have HHH := Lib.hid HH
  clear HH
  have PUH := Lib.hid PU
  clear PU
  have MAH := Lib.hid MA
  clear MA
  have DAH := Lib.hid DA
  clear DA
  have MBH := Lib.hid MB
  clear MB
  have DBH := Lib.hid DB
  clear DB
  have MCH := Lib.hid MC
  clear MC
  have PVH := Lib.hid PV
  clear PV
  have SAH := Lib.hid SA
  clear SA
  have SBH := Lib.hid SB
  clear SB
  have LRH := Lib.hid LR
  clear LR
  have il := fun c w => ill_calls c w
  simp only [illA] at il
  have IL := Lib.hid il
  clear il
  have X0 := Lib.hid (heap_alloc_new w (.cells #[.int .i64 0, .int .i64 0, .int .i64 0, .int .i64 0, .slice none 0 0, .string ⟨#[]⟩, .string ⟨#[]⟩, .string ⟨#[]⟩, .string ⟨#[]⟩, .string ⟨#[]⟩, .string ⟨#[]⟩, .string ⟨#[]⟩, .string ⟨#[]⟩, .string ⟨#[]⟩, .int .i64 0] 28))
  have HB0 := Lib.hid (Below.refl (w.alloc (.cells #[.int .i64 0, .int .i64 0, .int .i64 0, .int .i64 0, .slice none 0 0, .string ⟨#[]⟩, .string ⟨#[]⟩, .string ⟨#[]⟩, .string ⟨#[]⟩, .string ⟨#[]⟩, .string ⟨#[]⟩, .string ⟨#[]⟩, .string ⟨#[]⟩, .string ⟨#[]⟩, .int .i64 0] 28)).heap.size (w.alloc (.cells #[.int .i64 0, .int .i64 0, .int .i64 0, .int .i64 0, .slice none 0 0, .string ⟨#[]⟩, .string ⟨#[]⟩, .string ⟨#[]⟩, .string ⟨#[]⟩, .string ⟨#[]⟩, .string ⟨#[]⟩, .string ⟨#[]⟩, .string ⟨#[]⟩, .string ⟨#[]⟩, .int .i64 0] 28)))
  go_enter Tryz.func9, Tryz.ntmps9
  go_wp2_with fail
  refine (on (by first | exact HB0.out | exact al1 HB0.out _ | exact al2 HB0.out _ _ | exact al3 HB0.out _ _ _) (NH.out _)).mono ?_
  rintro e w1 ⟨rfl, hb⟩
  have HB1 := Lib.hid hb
  clear hb
  go_wp2_with fail
  refine (on (by first | exact HB1.out | exact al1 HB1.out _ | exact al2 HB1.out _ _ | exact al3 HB1.out _ _ _) (MH.out _)).mono ?_
  rintro e w2 ⟨rfl, hb⟩
  have HB2 := Lib.hid hb
  clear hb
  go_wp2_with fail
  refine (on (by first | exact HB2.out | exact al1 HB2.out _ | exact al2 HB2.out _ _ | exact al3 HB2.out _ _ _) (LH.out _)).mono ?_
  rintro e w3 ⟨rfl, hb⟩
  have HB3 := Lib.hid hb
  clear hb
  go_wp2_with fail
  refine (on (by first | exact HB3.out | exact al1 HB3.out _ | exact al2 HB3.out _ _ | exact al3 HB3.out _ _ _) (EH.out _)).mono ?_
  rintro e w4 ⟨rfl, hb⟩
  have HB4 := Lib.hid hb
  clear hb
  go_wp2_with fail
  refine (on (by first | exact HB4.out | exact al1 HB4.out _ | exact al2 HB4.out _ _ | exact al3 HB4.out _ _ _) (SH.out _)).mono ?_
  rintro e w5 ⟨rfl, hb⟩
  have HB5 := Lib.hid hb
  clear hb
  go_wp2_with fail
  refine (on (by first | exact HB5.out | exact al1 HB5.out _ | exact al2 HB5.out _ _ | exact al3 HB5.out _ _ _) (HHH.out _ _ (by simp [go_sem]))).mono ?_
  rintro e w6 ⟨rfl, hb⟩
  have HB6 := Lib.hid hb
  clear hb
  go_wp2_with fail
  refine (on (by first | exact HB6.out | exact al1 HB6.out _ | exact al2 HB6.out _ _ | exact al3 HB6.out _ _ _) (PUH.out _)).mono ?_
  rintro e w7 ⟨rfl, hb⟩
  have HB7 := Lib.hid hb
  clear hb
  go_wp2_with fail
  refine (on (by first | exact HB7.out | exact al1 HB7.out _ | exact al2 HB7.out _ _ | exact al3 HB7.out _ _ _) (MAH.out _)).mono ?_
  rintro e w8 ⟨rfl, hb⟩
  have HB8 := Lib.hid hb
  clear hb
  go_wp2_with fail
  refine (on (by first | exact HB8.out | exact al1 HB8.out _ | exact al2 HB8.out _ _ | exact al3 HB8.out _ _ _) (DAH.out _)).mono ?_
  rintro e w9 ⟨rfl, hb⟩
  have HB9 := Lib.hid hb
  clear hb
  go_wp2_with fail
  refine (on (by first | exact HB9.out | exact al1 HB9.out _ | exact al2 HB9.out _ _ | exact al3 HB9.out _ _ _) (MBH.out _)).mono ?_
  rintro e w10 ⟨rfl, hb⟩
  have HB10 := Lib.hid hb
  clear hb
  go_wp2_with fail
  refine (on (by first | exact HB10.out | exact al1 HB10.out _ | exact al2 HB10.out _ _ | exact al3 HB10.out _ _ _) (DBH.out _)).mono ?_
  rintro e w11 ⟨rfl, hb⟩
  have HB11 := Lib.hid hb
  clear hb
  go_wp2_with fail
  refine (on (by first | exact HB11.out | exact al1 HB11.out _ | exact al2 HB11.out _ _ | exact al3 HB11.out _ _ _) (MCH.out _)).mono ?_
  rintro e w12 ⟨rfl, hb⟩
  have HB12 := Lib.hid hb
  clear hb
  go_wp2_with fail
  refine (on (by first | exact HB12.out | exact al1 HB12.out _ | exact al2 HB12.out _ _ | exact al3 HB12.out _ _ _) (PUH.out _)).mono ?_
  rintro e w13 ⟨rfl, hb⟩
  have HB13 := Lib.hid hb
  clear hb
  go_wp2_with fail
  refine (on (by first | exact HB13.out | exact al1 HB13.out _ | exact al2 HB13.out _ _ | exact al3 HB13.out _ _ _) (PVH.out _)).mono ?_
  rintro e w14 ⟨rfl, hb⟩
  have HB14 := Lib.hid hb
  clear hb
  go_wp2_with fail
  refine (on (by first | exact HB14.out | exact al1 HB14.out _ | exact al2 HB14.out _ _ | exact al3 HB14.out _ _ _) (SAH.out _ _ (by simp [go_sem]) (by simp [go_sem]))).mono ?_
  rintro e w15 ⟨rfl, hb⟩
  have HB15 := Lib.hid hb
  clear hb
  go_wp2_with fail
  refine (on (by first | exact HB15.out | exact al1 HB15.out _ | exact al2 HB15.out _ _ | exact al3 HB15.out _ _ _) (SBH.out _ _ (by simp [go_sem]) (by simp [go_sem]))).mono ?_
  rintro e w16 ⟨rfl, hb⟩
  have HB16 := Lib.hid hb
  clear hb
  go_wp2_with fail
  have R16 := Lib.hid (rds3 (cap := 3) (keptA (heap_alloc_new w16 (.cells #[str PE, str S1, str S2] 9)) (.cells #[.int .i64 1, .int .i64 f, .int .i64 0, .int .i64 0, (.slice (some ⟨w16.heap.size, 0, none⟩) 3 3), .string ⟨#[]⟩, .string ⟨#[]⟩] 24)))
  have L16 := Lib.hid (sgv.alloc2 w16 (.cells #[str PE, str S1, str S2] 9) (.cells #[.int .i64 1, .int .i64 f, .int .i64 0, .int .i64 0, (.slice (some ⟨w16.heap.size, 0, none⟩) 3 3), .string ⟨#[]⟩, .string ⟨#[]⟩] 24)).2
  refine (LRH.out _ _ R16.out).mono ?_
  rintro e w17 ⟨rfl, hb⟩
  have HB17 := Lib.hid ((al2 HB16.out (.cells #[str PE, str S1, str S2] 9) (.cells #[.int .i64 1, .int .i64 f, .int .i64 0, .int .i64 0, (.slice (some ⟨w16.heap.size, 0, none⟩) 3 3), .string ⟨#[]⟩, .string ⟨#[]⟩] 24)).trans (hb.mono (al2 HB16.out (.cells #[str PE, str S1, str S2] 9) (.cells #[.int .i64 1, .int .i64 f, .int .i64 0, .int .i64 0, (.slice (some ⟨w16.heap.size, 0, none⟩) 3 3), .string ⟨#[]⟩, .string ⟨#[]⟩] 24)).size))
  have L17 := Lib.hid (keptB L16.out hb)
  have R17 := Lib.hid (Rds.below R16.out hb)
  clear hb R16 L16
  obtain ⟨l0, l1, l2, l3, l4, l5, l6, lz⟩ := lsm.seven L17.out
  go_wp2_with fail
  refine (on (by first | exact HB17.out | exact al1 HB17.out _ | exact al2 HB17.out _ _ | exact al3 HB17.out _ _ _) (IL.out _ _)).mono ?_
  rintro e w18 ⟨rfl, hb⟩
  have HB18 := Lib.hid hb
  clear hb
  obtain ⟨p0, p1, p2, p3, p4, p5, p6, p7, p8, p9, p10, p11, p12, p13, p14, pz, pf⟩ := fifteen (keptB X0.out HB18.out)
  go_wp2_with fail
  clear p0 p1 p2 p3 p4 p5 p6 p7 p8 p9 p10 p11 p12 p13 p14 pz pf
  generalize hW : World.setCell _ _ _ = W'
  have hX : W'.heap[w.heap.size]? = some (.cells #[.int .i64 0, .int .i64 0, .int .i64 0, .int .i64 0, .slice none 0 0, .string ⟨#[]⟩, .string ⟨#[]⟩, .string ⟨#[]⟩, .string ⟨#[]⟩, .string ⟨#[]⟩, .string ⟨#[]⟩, .string ⟨#[]⟩, .string ⟨#[]⟩, .string ⟨#[]⟩, .int .i64 9] 28 (0, 0)) := by rw [← hW]; exact put15 (keptB X0.out HB18.out) _ _ _ _ _ _ _ _ _ _ _ _ _ _ _
  have hK : Below w.heap.size w W' := by rw [← hW]; exact set15 (base (al0 _) HB18.out) (Nat.le_refl _) _ _ _ _ _ _ _ _ _ _ _ _ _ _ _
  clear hW
  obtain ⟨q0, q1, q2, q3, q4, q5, q6, q7, q8, q9, q10, q11, q12, q13, q14, qz, qf⟩ := fifteen hX
  refine bodyPost_ret (v := .agg #[.int .i64 0, .int .i64 0, .int .i64 0, .int .i64 0, .slice none 0 0, .string ⟨#[]⟩, .string ⟨#[]⟩, .string ⟨#[]⟩, .string ⟨#[]⟩, .string ⟨#[]⟩, .string ⟨#[]⟩, .string ⟨#[]⟩, .string ⟨#[]⟩, .string ⟨#[]⟩, .int .i64 9]) (by simp [results, Tryz.results9, go_sem, q0, q1, q2, q3, q4, q5, q6, q7, q8, q9, q10, q11, q12, q13, q14]) rfl ?_
  exact (HEnd.ill hK)

set_option maxHeartbeats 8000000 in
set_option maxRecDepth 100000 in
theorem good_code (f : Int) (me lock eph stamp H0 PE C1 D1 C2 D2 C3 PM S1 S2 : Bs) (k' f' t' c' yc : Int) (ps : List Bs) (a' b' : Bs) (w : World) (d0 : decide (8000 < (me.length : Int)) = false) (d1 : decide (8000 < (lock.length : Int)) = false) (d2 : decide (8000 < (eph.length : Int)) = false) (d3 : decide (8000 < (stamp.length : Int)) = false)
    (N : Gives 37 #[.int .i64 f] (.bool true)) (M : Gives 38 #[str me] (.bool true)) (L : Gives 39 #[str lock] (.bool true)) (E : Gives 38 #[str eph] (.bool true)) (S : Gives 40 #[str stamp] (.bool true))
    (HH : ∀ w b, w.cell? ⟨b, 0, none⟩ = some (str lock) → Calls Tryz.prog 42 #[.string ⟨#[104, 97, 115, 104]⟩, .slice (some ⟨b, 0, none⟩) 1 1] w fun e w' => e = .returned (str H0) ∧ Below w.heap.size w w')
    (PU : Gives 43 #[str eph] (str PE)) (MA : Gives 41 #[str H0, str PE] (str C1)) (DA : Gives 44 #[str eph, str lock] (str D1)) (MB : Gives 41 #[str C1, str D1] (str C2))
    (DB : Gives 44 #[str me, str lock] (str D2)) (MC : Gives 41 #[str C2, str D2] (str C3)) (PV : Gives 43 #[str me] (str PM))
    (SA : ∀ w b, w.cell? ⟨b, 0, none⟩ = some (str C2) → w.cell? ⟨b, 1, none⟩ = some (str PM) → Calls Tryz.prog 42 #[.string ⟨#[115, 104, 117, 116]⟩, .slice (some ⟨b, 0, none⟩) 2 2] w fun e w' => e = .returned (str S1) ∧ Below w.heap.size w w')
    (SB : ∀ w b, w.cell? ⟨b, 0, none⟩ = some (str C3) → w.cell? ⟨b, 1, none⟩ = some (str stamp) → Calls Tryz.prog 42 #[.string ⟨#[115, 104, 117, 116]⟩, .slice (some ⟨b, 0, none⟩) 2 2] w fun e w' => e = .returned (str S2) ∧ Below w.heap.size w w')
    (LR : ∀ w v, Rds w v [PE, S1, S2] → Calls Tryz.prog 45 #[.agg #[.int .i64 1, .int .i64 f, .int .i64 0, .int .i64 0, v, .string ⟨#[]⟩, .string ⟨#[]⟩]] w fun e w' => e = .returned (.bool true) ∧ Below w.heap.size w w')
    (SG : ∀ w v, Rds w v [PE, S1, S2] → Calls Tryz.prog 46 #[.agg #[.int .i64 1, .int .i64 f, .int .i64 0, .int .i64 0, v, .string ⟨#[]⟩, .string ⟨#[]⟩], str lock] w fun e w' => ∃ au nu cu, e = .returned (.agg #[.int .i64 k', .int .i64 f', .int .i64 t', .int .i64 c', .slice au nu cu, str a', str b', .int .i64 yc]) ∧ Below w.heap.size w w' ∧ Wrs w' w.heap.size (.slice au nu cu) ps) (hy : (yc == 0) = false) :
    Calls Tryz.prog 9 #[.int .i64 f, str me, str lock, str eph, str stamp] w (HEnd (ill 9) w) := by
  have NH := Lib.hid N
  clear N
  have MH := Lib.hid M
  clear M
  have LH := Lib.hid L
  clear L
  have EH := Lib.hid E
  clear E
  have SH := Lib.hid S
  clear S
  have HHH := Lib.hid HH
  clear HH
  have PUH := Lib.hid PU
  clear PU
  have MAH := Lib.hid MA
  clear MA
  have DAH := Lib.hid DA
  clear DA
  have MBH := Lib.hid MB
  clear MB
  have DBH := Lib.hid DB
  clear DB
  have MCH := Lib.hid MC
  clear MC
  have PVH := Lib.hid PV
  clear PV
  have SAH := Lib.hid SA
  clear SA
  have SBH := Lib.hid SB
  clear SB
  have LRH := Lib.hid LR
  clear LR
  have SGH := Lib.hid SG
  clear SG
  have il := fun c w => ill_calls c w
  simp only [illA] at il
  have IL := Lib.hid il
  clear il
  have X0 := Lib.hid (heap_alloc_new w (.cells #[.int .i64 0, .int .i64 0, .int .i64 0, .int .i64 0, .slice none 0 0, .string ⟨#[]⟩, .string ⟨#[]⟩, .string ⟨#[]⟩, .string ⟨#[]⟩, .string ⟨#[]⟩, .string ⟨#[]⟩, .string ⟨#[]⟩, .string ⟨#[]⟩, .string ⟨#[]⟩, .int .i64 0] 28))
  have HB0 := Lib.hid (Below.refl (w.alloc (.cells #[.int .i64 0, .int .i64 0, .int .i64 0, .int .i64 0, .slice none 0 0, .string ⟨#[]⟩, .string ⟨#[]⟩, .string ⟨#[]⟩, .string ⟨#[]⟩, .string ⟨#[]⟩, .string ⟨#[]⟩, .string ⟨#[]⟩, .string ⟨#[]⟩, .string ⟨#[]⟩, .int .i64 0] 28)).heap.size (w.alloc (.cells #[.int .i64 0, .int .i64 0, .int .i64 0, .int .i64 0, .slice none 0 0, .string ⟨#[]⟩, .string ⟨#[]⟩, .string ⟨#[]⟩, .string ⟨#[]⟩, .string ⟨#[]⟩, .string ⟨#[]⟩, .string ⟨#[]⟩, .string ⟨#[]⟩, .string ⟨#[]⟩, .int .i64 0] 28)))
  go_enter Tryz.func9, Tryz.ntmps9
  go_wp2_with fail
  refine (on (by first | exact HB0.out | exact al1 HB0.out _ | exact al2 HB0.out _ _ | exact al3 HB0.out _ _ _) (NH.out _)).mono ?_
  rintro e w1 ⟨rfl, hb⟩
  have HB1 := Lib.hid hb
  clear hb
  go_wp2_with fail
  refine (on (by first | exact HB1.out | exact al1 HB1.out _ | exact al2 HB1.out _ _ | exact al3 HB1.out _ _ _) (MH.out _)).mono ?_
  rintro e w2 ⟨rfl, hb⟩
  have HB2 := Lib.hid hb
  clear hb
  go_wp2_with fail
  refine (on (by first | exact HB2.out | exact al1 HB2.out _ | exact al2 HB2.out _ _ | exact al3 HB2.out _ _ _) (LH.out _)).mono ?_
  rintro e w3 ⟨rfl, hb⟩
  have HB3 := Lib.hid hb
  clear hb
  go_wp2_with fail
  refine (on (by first | exact HB3.out | exact al1 HB3.out _ | exact al2 HB3.out _ _ | exact al3 HB3.out _ _ _) (EH.out _)).mono ?_
  rintro e w4 ⟨rfl, hb⟩
  have HB4 := Lib.hid hb
  clear hb
  go_wp2_with fail
  refine (on (by first | exact HB4.out | exact al1 HB4.out _ | exact al2 HB4.out _ _ | exact al3 HB4.out _ _ _) (SH.out _)).mono ?_
  rintro e w5 ⟨rfl, hb⟩
  have HB5 := Lib.hid hb
  clear hb
  go_wp2_with fail
  refine (on (by first | exact HB5.out | exact al1 HB5.out _ | exact al2 HB5.out _ _ | exact al3 HB5.out _ _ _) (HHH.out _ _ (by simp [go_sem]))).mono ?_
  rintro e w6 ⟨rfl, hb⟩
  have HB6 := Lib.hid hb
  clear hb
  go_wp2_with fail
  refine (on (by first | exact HB6.out | exact al1 HB6.out _ | exact al2 HB6.out _ _ | exact al3 HB6.out _ _ _) (PUH.out _)).mono ?_
  rintro e w7 ⟨rfl, hb⟩
  have HB7 := Lib.hid hb
  clear hb
  go_wp2_with fail
  refine (on (by first | exact HB7.out | exact al1 HB7.out _ | exact al2 HB7.out _ _ | exact al3 HB7.out _ _ _) (MAH.out _)).mono ?_
  rintro e w8 ⟨rfl, hb⟩
  have HB8 := Lib.hid hb
  clear hb
  go_wp2_with fail
  refine (on (by first | exact HB8.out | exact al1 HB8.out _ | exact al2 HB8.out _ _ | exact al3 HB8.out _ _ _) (DAH.out _)).mono ?_
  rintro e w9 ⟨rfl, hb⟩
  have HB9 := Lib.hid hb
  clear hb
  go_wp2_with fail
  refine (on (by first | exact HB9.out | exact al1 HB9.out _ | exact al2 HB9.out _ _ | exact al3 HB9.out _ _ _) (MBH.out _)).mono ?_
  rintro e w10 ⟨rfl, hb⟩
  have HB10 := Lib.hid hb
  clear hb
  go_wp2_with fail
  refine (on (by first | exact HB10.out | exact al1 HB10.out _ | exact al2 HB10.out _ _ | exact al3 HB10.out _ _ _) (DBH.out _)).mono ?_
  rintro e w11 ⟨rfl, hb⟩
  have HB11 := Lib.hid hb
  clear hb
  go_wp2_with fail
  refine (on (by first | exact HB11.out | exact al1 HB11.out _ | exact al2 HB11.out _ _ | exact al3 HB11.out _ _ _) (MCH.out _)).mono ?_
  rintro e w12 ⟨rfl, hb⟩
  have HB12 := Lib.hid hb
  clear hb
  go_wp2_with fail
  refine (on (by first | exact HB12.out | exact al1 HB12.out _ | exact al2 HB12.out _ _ | exact al3 HB12.out _ _ _) (PUH.out _)).mono ?_
  rintro e w13 ⟨rfl, hb⟩
  have HB13 := Lib.hid hb
  clear hb
  go_wp2_with fail
  refine (on (by first | exact HB13.out | exact al1 HB13.out _ | exact al2 HB13.out _ _ | exact al3 HB13.out _ _ _) (PVH.out _)).mono ?_
  rintro e w14 ⟨rfl, hb⟩
  have HB14 := Lib.hid hb
  clear hb
  go_wp2_with fail
  refine (on (by first | exact HB14.out | exact al1 HB14.out _ | exact al2 HB14.out _ _ | exact al3 HB14.out _ _ _) (SAH.out _ _ (by simp [go_sem]) (by simp [go_sem]))).mono ?_
  rintro e w15 ⟨rfl, hb⟩
  have HB15 := Lib.hid hb
  clear hb
  go_wp2_with fail
  refine (on (by first | exact HB15.out | exact al1 HB15.out _ | exact al2 HB15.out _ _ | exact al3 HB15.out _ _ _) (SBH.out _ _ (by simp [go_sem]) (by simp [go_sem]))).mono ?_
  rintro e w16 ⟨rfl, hb⟩
  have HB16 := Lib.hid hb
  clear hb
  go_wp2_with fail
  have R16 := Lib.hid (rds3 (cap := 3) (keptA (heap_alloc_new w16 (.cells #[str PE, str S1, str S2] 9)) (.cells #[.int .i64 1, .int .i64 f, .int .i64 0, .int .i64 0, (.slice (some ⟨w16.heap.size, 0, none⟩) 3 3), .string ⟨#[]⟩, .string ⟨#[]⟩] 24)))
  have L16 := Lib.hid (sgv.alloc2 w16 (.cells #[str PE, str S1, str S2] 9) (.cells #[.int .i64 1, .int .i64 f, .int .i64 0, .int .i64 0, (.slice (some ⟨w16.heap.size, 0, none⟩) 3 3), .string ⟨#[]⟩, .string ⟨#[]⟩] 24)).2
  refine (LRH.out _ _ R16.out).mono ?_
  rintro e w17 ⟨rfl, hb⟩
  have HB17 := Lib.hid ((al2 HB16.out (.cells #[str PE, str S1, str S2] 9) (.cells #[.int .i64 1, .int .i64 f, .int .i64 0, .int .i64 0, (.slice (some ⟨w16.heap.size, 0, none⟩) 3 3), .string ⟨#[]⟩, .string ⟨#[]⟩] 24)).trans (hb.mono (al2 HB16.out (.cells #[str PE, str S1, str S2] 9) (.cells #[.int .i64 1, .int .i64 f, .int .i64 0, .int .i64 0, (.slice (some ⟨w16.heap.size, 0, none⟩) 3 3), .string ⟨#[]⟩, .string ⟨#[]⟩] 24)).size))
  have L17 := Lib.hid (keptB L16.out hb)
  have R17 := Lib.hid (Rds.below R16.out hb)
  clear hb R16 L16
  obtain ⟨l0, l1, l2, l3, l4, l5, l6, lz⟩ := lsm.seven L17.out
  go_wp2_with fail
  refine (SGH.out _ _ R17.out).mono ?_
  rintro e w18 ⟨au, nu, cu, rfl, hb, hw⟩
  have HB18 := Lib.hid (al1 (HB17.out.trans (hb.mono HB17.out.size)) (.cells #[.int .i64 k', .int .i64 f', .int .i64 t', .int .i64 c', .slice au nu cu, str a', str b', .int .i64 yc] 71))
  have HW := Lib.hid (sgv.Wrs.below hw (al0 (.cells #[.int .i64 k', .int .i64 f', .int .i64 t', .int .i64 c', .slice au nu cu, str a', str b', .int .i64 yc] 71)))
  have z18 := hb.size
  have z17 := HB17.out.size
  simp at z17
  clear hb hw l0 l1 l2 l3 l4 l5 l6 lz
  go_wp2_with fail
  refine (on (by first | exact HB18.out) (IL.out _ _)).mono ?_
  rintro e w19 ⟨rfl, hb⟩
  have HB19 := Lib.hid hb
  clear hb
  obtain ⟨p0, p1, p2, p3, p4, p5, p6, p7, p8, p9, p10, p11, p12, p13, p14, pz, pf⟩ := fifteen (keptB X0.out HB19.out)
  go_wp2_with fail
  clear p0 p1 p2 p3 p4 p5 p6 p7 p8 p9 p10 p11 p12 p13 p14 pz pf
  generalize hW : World.setCell _ _ _ = W'
  have hX : W'.heap[w.heap.size]? = some (.cells #[.int .i64 0, .int .i64 0, .int .i64 0, .int .i64 0, .slice none 0 0, .string ⟨#[]⟩, .string ⟨#[]⟩, .string ⟨#[]⟩, .string ⟨#[]⟩, .string ⟨#[]⟩, .string ⟨#[]⟩, .string ⟨#[]⟩, .string ⟨#[]⟩, .string ⟨#[]⟩, .int .i64 9] 28 (0, 0)) := by rw [← hW]; exact put15 (keptB X0.out HB19.out) _ _ _ _ _ _ _ _ _ _ _ _ _ _ _
  have hK : Below w.heap.size w W' := by rw [← hW]; exact set15 (base (al0 _) HB19.out) (Nat.le_refl _) _ _ _ _ _ _ _ _ _ _ _ _ _ _ _
  clear hW
  obtain ⟨q0, q1, q2, q3, q4, q5, q6, q7, q8, q9, q10, q11, q12, q13, q14, qz, qf⟩ := fifteen hX
  refine bodyPost_ret (v := .agg #[.int .i64 0, .int .i64 0, .int .i64 0, .int .i64 0, .slice none 0 0, .string ⟨#[]⟩, .string ⟨#[]⟩, .string ⟨#[]⟩, .string ⟨#[]⟩, .string ⟨#[]⟩, .string ⟨#[]⟩, .string ⟨#[]⟩, .string ⟨#[]⟩, .string ⟨#[]⟩, .int .i64 9]) (by simp [results, Tryz.results9, go_sem, q0, q1, q2, q3, q4, q5, q6, q7, q8, q9, q10, q11, q12, q13, q14]) rfl ?_
  exact (HEnd.ill hK)

set_option maxHeartbeats 8000000 in
set_option maxRecDepth 100000 in
theorem good_yes (f : Int) (me lock eph stamp H0 PE C1 D1 C2 D2 C3 PM S1 S2 : Bs) (k' f' t' c' : Int) (ps : List Bs) (a' b' : Bs) (w : World) (d0 : decide (8000 < (me.length : Int)) = false) (d1 : decide (8000 < (lock.length : Int)) = false) (d2 : decide (8000 < (eph.length : Int)) = false) (d3 : decide (8000 < (stamp.length : Int)) = false)
    (N : Gives 37 #[.int .i64 f] (.bool true)) (M : Gives 38 #[str me] (.bool true)) (L : Gives 39 #[str lock] (.bool true)) (E : Gives 38 #[str eph] (.bool true)) (S : Gives 40 #[str stamp] (.bool true))
    (HH : ∀ w b, w.cell? ⟨b, 0, none⟩ = some (str lock) → Calls Tryz.prog 42 #[.string ⟨#[104, 97, 115, 104]⟩, .slice (some ⟨b, 0, none⟩) 1 1] w fun e w' => e = .returned (str H0) ∧ Below w.heap.size w w')
    (PU : Gives 43 #[str eph] (str PE)) (MA : Gives 41 #[str H0, str PE] (str C1)) (DA : Gives 44 #[str eph, str lock] (str D1)) (MB : Gives 41 #[str C1, str D1] (str C2))
    (DB : Gives 44 #[str me, str lock] (str D2)) (MC : Gives 41 #[str C2, str D2] (str C3)) (PV : Gives 43 #[str me] (str PM))
    (SA : ∀ w b, w.cell? ⟨b, 0, none⟩ = some (str C2) → w.cell? ⟨b, 1, none⟩ = some (str PM) → Calls Tryz.prog 42 #[.string ⟨#[115, 104, 117, 116]⟩, .slice (some ⟨b, 0, none⟩) 2 2] w fun e w' => e = .returned (str S1) ∧ Below w.heap.size w w')
    (SB : ∀ w b, w.cell? ⟨b, 0, none⟩ = some (str C3) → w.cell? ⟨b, 1, none⟩ = some (str stamp) → Calls Tryz.prog 42 #[.string ⟨#[115, 104, 117, 116]⟩, .slice (some ⟨b, 0, none⟩) 2 2] w fun e w' => e = .returned (str S2) ∧ Below w.heap.size w w')
    (LR : ∀ w v, Rds w v [PE, S1, S2] → Calls Tryz.prog 45 #[.agg #[.int .i64 1, .int .i64 f, .int .i64 0, .int .i64 0, v, .string ⟨#[]⟩, .string ⟨#[]⟩]] w fun e w' => e = .returned (.bool true) ∧ Below w.heap.size w w')
    (SG : ∀ w v, Rds w v [PE, S1, S2] → Calls Tryz.prog 46 #[.agg #[.int .i64 1, .int .i64 f, .int .i64 0, .int .i64 0, v, .string ⟨#[]⟩, .string ⟨#[]⟩], str lock] w fun e w' => ∃ au nu cu, e = .returned (.agg #[.int .i64 k', .int .i64 f', .int .i64 t', .int .i64 c', .slice au nu cu, str a', str b', .int .i64 0]) ∧ Below w.heap.size w w' ∧ Wrs w' w.heap.size (.slice au nu cu) ps) :
    Calls Tryz.prog 9 #[.int .i64 f, str me, str lock, str eph, str stamp] w (HEnd ⟨⟨k', f', t', c', ps, a', b'⟩, [], [], eph, C3, [], [], [], 0⟩ w) := by
  have NH := Lib.hid N
  clear N
  have MH := Lib.hid M
  clear M
  have LH := Lib.hid L
  clear L
  have EH := Lib.hid E
  clear E
  have SH := Lib.hid S
  clear S
  have HHH := Lib.hid HH
  clear HH
  have PUH := Lib.hid PU
  clear PU
  have MAH := Lib.hid MA
  clear MA
  have DAH := Lib.hid DA
  clear DA
  have MBH := Lib.hid MB
  clear MB
  have DBH := Lib.hid DB
  clear DB
  have MCH := Lib.hid MC
  clear MC
  have PVH := Lib.hid PV
  clear PV
  have SAH := Lib.hid SA
  clear SA
  have SBH := Lib.hid SB
  clear SB
  have LRH := Lib.hid LR
  clear LR
  have SGH := Lib.hid SG
  clear SG
  have il := fun c w => ill_calls c w
  simp only [illA] at il
  have IL := Lib.hid il
  clear il
  have X0 := Lib.hid (heap_alloc_new w (.cells #[.int .i64 0, .int .i64 0, .int .i64 0, .int .i64 0, .slice none 0 0, .string ⟨#[]⟩, .string ⟨#[]⟩, .string ⟨#[]⟩, .string ⟨#[]⟩, .string ⟨#[]⟩, .string ⟨#[]⟩, .string ⟨#[]⟩, .string ⟨#[]⟩, .string ⟨#[]⟩, .int .i64 0] 28))
  have HB0 := Lib.hid (Below.refl (w.alloc (.cells #[.int .i64 0, .int .i64 0, .int .i64 0, .int .i64 0, .slice none 0 0, .string ⟨#[]⟩, .string ⟨#[]⟩, .string ⟨#[]⟩, .string ⟨#[]⟩, .string ⟨#[]⟩, .string ⟨#[]⟩, .string ⟨#[]⟩, .string ⟨#[]⟩, .string ⟨#[]⟩, .int .i64 0] 28)).heap.size (w.alloc (.cells #[.int .i64 0, .int .i64 0, .int .i64 0, .int .i64 0, .slice none 0 0, .string ⟨#[]⟩, .string ⟨#[]⟩, .string ⟨#[]⟩, .string ⟨#[]⟩, .string ⟨#[]⟩, .string ⟨#[]⟩, .string ⟨#[]⟩, .string ⟨#[]⟩, .string ⟨#[]⟩, .int .i64 0] 28)))
  go_enter Tryz.func9, Tryz.ntmps9
  go_wp2_with fail
  refine (on (by first | exact HB0.out | exact al1 HB0.out _ | exact al2 HB0.out _ _ | exact al3 HB0.out _ _ _) (NH.out _)).mono ?_
  rintro e w1 ⟨rfl, hb⟩
  have HB1 := Lib.hid hb
  clear hb
  go_wp2_with fail
  refine (on (by first | exact HB1.out | exact al1 HB1.out _ | exact al2 HB1.out _ _ | exact al3 HB1.out _ _ _) (MH.out _)).mono ?_
  rintro e w2 ⟨rfl, hb⟩
  have HB2 := Lib.hid hb
  clear hb
  go_wp2_with fail
  refine (on (by first | exact HB2.out | exact al1 HB2.out _ | exact al2 HB2.out _ _ | exact al3 HB2.out _ _ _) (LH.out _)).mono ?_
  rintro e w3 ⟨rfl, hb⟩
  have HB3 := Lib.hid hb
  clear hb
  go_wp2_with fail
  refine (on (by first | exact HB3.out | exact al1 HB3.out _ | exact al2 HB3.out _ _ | exact al3 HB3.out _ _ _) (EH.out _)).mono ?_
  rintro e w4 ⟨rfl, hb⟩
  have HB4 := Lib.hid hb
  clear hb
  go_wp2_with fail
  refine (on (by first | exact HB4.out | exact al1 HB4.out _ | exact al2 HB4.out _ _ | exact al3 HB4.out _ _ _) (SH.out _)).mono ?_
  rintro e w5 ⟨rfl, hb⟩
  have HB5 := Lib.hid hb
  clear hb
  go_wp2_with fail
  refine (on (by first | exact HB5.out | exact al1 HB5.out _ | exact al2 HB5.out _ _ | exact al3 HB5.out _ _ _) (HHH.out _ _ (by simp [go_sem]))).mono ?_
  rintro e w6 ⟨rfl, hb⟩
  have HB6 := Lib.hid hb
  clear hb
  go_wp2_with fail
  refine (on (by first | exact HB6.out | exact al1 HB6.out _ | exact al2 HB6.out _ _ | exact al3 HB6.out _ _ _) (PUH.out _)).mono ?_
  rintro e w7 ⟨rfl, hb⟩
  have HB7 := Lib.hid hb
  clear hb
  go_wp2_with fail
  refine (on (by first | exact HB7.out | exact al1 HB7.out _ | exact al2 HB7.out _ _ | exact al3 HB7.out _ _ _) (MAH.out _)).mono ?_
  rintro e w8 ⟨rfl, hb⟩
  have HB8 := Lib.hid hb
  clear hb
  go_wp2_with fail
  refine (on (by first | exact HB8.out | exact al1 HB8.out _ | exact al2 HB8.out _ _ | exact al3 HB8.out _ _ _) (DAH.out _)).mono ?_
  rintro e w9 ⟨rfl, hb⟩
  have HB9 := Lib.hid hb
  clear hb
  go_wp2_with fail
  refine (on (by first | exact HB9.out | exact al1 HB9.out _ | exact al2 HB9.out _ _ | exact al3 HB9.out _ _ _) (MBH.out _)).mono ?_
  rintro e w10 ⟨rfl, hb⟩
  have HB10 := Lib.hid hb
  clear hb
  go_wp2_with fail
  refine (on (by first | exact HB10.out | exact al1 HB10.out _ | exact al2 HB10.out _ _ | exact al3 HB10.out _ _ _) (DBH.out _)).mono ?_
  rintro e w11 ⟨rfl, hb⟩
  have HB11 := Lib.hid hb
  clear hb
  go_wp2_with fail
  refine (on (by first | exact HB11.out | exact al1 HB11.out _ | exact al2 HB11.out _ _ | exact al3 HB11.out _ _ _) (MCH.out _)).mono ?_
  rintro e w12 ⟨rfl, hb⟩
  have HB12 := Lib.hid hb
  clear hb
  go_wp2_with fail
  refine (on (by first | exact HB12.out | exact al1 HB12.out _ | exact al2 HB12.out _ _ | exact al3 HB12.out _ _ _) (PUH.out _)).mono ?_
  rintro e w13 ⟨rfl, hb⟩
  have HB13 := Lib.hid hb
  clear hb
  go_wp2_with fail
  refine (on (by first | exact HB13.out | exact al1 HB13.out _ | exact al2 HB13.out _ _ | exact al3 HB13.out _ _ _) (PVH.out _)).mono ?_
  rintro e w14 ⟨rfl, hb⟩
  have HB14 := Lib.hid hb
  clear hb
  go_wp2_with fail
  refine (on (by first | exact HB14.out | exact al1 HB14.out _ | exact al2 HB14.out _ _ | exact al3 HB14.out _ _ _) (SAH.out _ _ (by simp [go_sem]) (by simp [go_sem]))).mono ?_
  rintro e w15 ⟨rfl, hb⟩
  have HB15 := Lib.hid hb
  clear hb
  go_wp2_with fail
  refine (on (by first | exact HB15.out | exact al1 HB15.out _ | exact al2 HB15.out _ _ | exact al3 HB15.out _ _ _) (SBH.out _ _ (by simp [go_sem]) (by simp [go_sem]))).mono ?_
  rintro e w16 ⟨rfl, hb⟩
  have HB16 := Lib.hid hb
  clear hb
  go_wp2_with fail
  have R16 := Lib.hid (rds3 (cap := 3) (keptA (heap_alloc_new w16 (.cells #[str PE, str S1, str S2] 9)) (.cells #[.int .i64 1, .int .i64 f, .int .i64 0, .int .i64 0, (.slice (some ⟨w16.heap.size, 0, none⟩) 3 3), .string ⟨#[]⟩, .string ⟨#[]⟩] 24)))
  have L16 := Lib.hid (sgv.alloc2 w16 (.cells #[str PE, str S1, str S2] 9) (.cells #[.int .i64 1, .int .i64 f, .int .i64 0, .int .i64 0, (.slice (some ⟨w16.heap.size, 0, none⟩) 3 3), .string ⟨#[]⟩, .string ⟨#[]⟩] 24)).2
  refine (LRH.out _ _ R16.out).mono ?_
  rintro e w17 ⟨rfl, hb⟩
  have HB17 := Lib.hid ((al2 HB16.out (.cells #[str PE, str S1, str S2] 9) (.cells #[.int .i64 1, .int .i64 f, .int .i64 0, .int .i64 0, (.slice (some ⟨w16.heap.size, 0, none⟩) 3 3), .string ⟨#[]⟩, .string ⟨#[]⟩] 24)).trans (hb.mono (al2 HB16.out (.cells #[str PE, str S1, str S2] 9) (.cells #[.int .i64 1, .int .i64 f, .int .i64 0, .int .i64 0, (.slice (some ⟨w16.heap.size, 0, none⟩) 3 3), .string ⟨#[]⟩, .string ⟨#[]⟩] 24)).size))
  have L17 := Lib.hid (keptB L16.out hb)
  have R17 := Lib.hid (Rds.below R16.out hb)
  clear hb R16 L16
  obtain ⟨l0, l1, l2, l3, l4, l5, l6, lz⟩ := lsm.seven L17.out
  go_wp2_with fail
  refine (SGH.out _ _ R17.out).mono ?_
  rintro e w18 ⟨au, nu, cu, rfl, hb, hw⟩
  have HB18 := Lib.hid (al1 (HB17.out.trans (hb.mono HB17.out.size)) (.cells #[.int .i64 k', .int .i64 f', .int .i64 t', .int .i64 c', .slice au nu cu, str a', str b', .int .i64 0] 71))
  have HW := Lib.hid (sgv.Wrs.below hw (al0 (.cells #[.int .i64 k', .int .i64 f', .int .i64 t', .int .i64 c', .slice au nu cu, str a', str b', .int .i64 0] 71)))
  have z18 := hb.size
  have z17 := HB17.out.size
  simp at z17
  clear hb hw l0 l1 l2 l3 l4 l5 l6 lz
  obtain ⟨p0, p1, p2, p3, p4, p5, p6, p7, p8, p9, p10, p11, p12, p13, p14, pz, pf⟩ := fifteen (keptB X0.out HB18.out)
  go_wp2_with fail
  clear p0 p1 p2 p3 p4 p5 p6 p7 p8 p9 p10 p11 p12 p13 p14 pz pf
  generalize hW : World.setCell _ _ _ = W'
  have hX : W'.heap[w.heap.size]? = some (.cells #[.int .i64 k', .int .i64 f', .int .i64 t', .int .i64 c', .slice au nu cu, str a', str b', .string ⟨#[]⟩, .string ⟨#[]⟩, str eph, str C3, .string ⟨#[]⟩, .string ⟨#[]⟩, .string ⟨#[]⟩, .int .i64 0] 28 (0, 0)) := by rw [← hW]; exact put15 (keptB X0.out HB18.out) _ _ _ _ _ _ _ _ _ _ _ _ _ _ _
  have hK : Below w.heap.size w W' := by rw [← hW]; exact set15 (base (al0 _) HB18.out) (Nat.le_refl _) _ _ _ _ _ _ _ _ _ _ _ _ _ _ _
  have hU : Wrs W' w.heap.size (.slice au nu cu) ps := by rw [← hW]; exact wset15 HW.out (by omega) (by omega) _ _ _ _ _ _ _ _ _ _ _ _ _ _ _
  clear hW
  obtain ⟨q0, q1, q2, q3, q4, q5, q6, q7, q8, q9, q10, q11, q12, q13, q14, qz, qf⟩ := fifteen hX
  refine bodyPost_ret (v := .agg #[.int .i64 k', .int .i64 f', .int .i64 t', .int .i64 c', .slice au nu cu, str a', str b', .string ⟨#[]⟩, .string ⟨#[]⟩, str eph, str C3, .string ⟨#[]⟩, .string ⟨#[]⟩, .string ⟨#[]⟩, .int .i64 0]) (by simp [results, Tryz.results9, go_sem, q0, q1, q2, q3, q4, q5, q6, q7, q8, q9, q10, q11, q12, q13, q14]) rfl ?_
  exact ⟨.slice au nu cu, rfl, hK, hU⟩

end Go.Proofs.YtonjohlecomeoaaGreat.sim
