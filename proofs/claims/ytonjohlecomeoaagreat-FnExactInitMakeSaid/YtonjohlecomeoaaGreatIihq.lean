/- The closure of InitMake of the program (written by wip/gen_iih.py). -/
import Derived.Test.YtonjohlecomeoaaGreatHgoq
import Derived.Test.YtonjohlecomeoaaGreatQh
import Derived.RegionTactic
import Derived.BigRegion
namespace Go.Proofs.YtonjohlecomeoaaGreat.iih
open Go.RowKit Go.Proofs.YtonjohlecomeoaaGreat.tm Go.Proofs.YtonjohlecomeoaaGreat.lib Go.Proofs.YtonjohlecomeoaaGreat.rdr Go.Proofs.YtonjohlecomeoaaGreat.bld Go.Proofs.YtonjohlecomeoaaGreat.prs Go.Proofs.YtonjohlecomeoaaGreat.sop Go.Proofs.YtonjohlecomeoaaGreat.mkp Go.Proofs.YtonjohlecomeoaaGreat.mrk Go.Proofs.YtonjohlecomeoaaGreat.mrs Go.Proofs.YtonjohlecomeoaaGreat.ltq Go.Proofs.YtonjohlecomeoaaGreat.ltv Go.Proofs.YtonjohlecomeoaaGreat.ltp Go.Proofs.YtonjohlecomeoaaGreat.hdp Go.Proofs.YtonjohlecomeoaaGreat.hdv Go.Proofs.YtonjohlecomeoaaGreat.blw Go.Proofs.YtonjohlecomeoaaGreat.hmi Go.Proofs.YtonjohlecomeoaaGreat.grt
set_option linter.unusedVariables false

theorem rds4 {w : World} {b : Nat} {x y z u : Bs} {cap : Nat} (h : w.heap[b]? = some (.cells #[str x, str y, str z, str u] 9 (0, 0))) : Rds w (.slice (some ⟨b, 0, none⟩) 4 cap) [x, y, z, u] := by
  refine .inr ⟨b, 0, cap, rfl, (Array.getElem?_eq_some_iff.1 h).1, fun j l hj => ?_⟩
  match j, hj with
  | 0, hj => simp at hj; subst hj; rw [cell_of_row w b _ _ _ (0, 0) h]; rfl
  | 1, hj => simp at hj; subst hj; rw [cell_of_row w b _ _ _ (0, 0) h]; rfl
  | 2, hj => simp at hj; subst hj; rw [cell_of_row w b _ _ _ (0, 0) h]; rfl
  | 3, hj => simp at hj; subst hj; rw [cell_of_row w b _ _ _ (0, 0) h]; rfl
  | j + 4, hj => simp at hj
theorem rds3 {w : World} {b : Nat} {x y z : Bs} {cap : Nat} (h : w.heap[b]? = some (.cells #[str x, str y, str z] 9 (0, 0))) : Rds w (.slice (some ⟨b, 0, none⟩) 3 cap) [x, y, z] := by
  refine .inr ⟨b, 0, cap, rfl, (Array.getElem?_eq_some_iff.1 h).1, fun j l hj => ?_⟩
  match j, hj with
  | 0, hj => simp at hj; subst hj; rw [cell_of_row w b _ _ _ (0, 0) h]; rfl
  | 1, hj => simp at hj; subst hj; rw [cell_of_row w b _ _ _ (0, 0) h]; rfl
  | 2, hj => simp at hj; subst hj; rw [cell_of_row w b _ _ _ (0, 0) h]; rfl
  | j + 3, hj => simp at hj

set_option maxHeartbeats 8000000 in
set_option maxRecDepth 100000 in
theorem long (f : Int) (me lock eph stamp H0 PE C1 D1 C2 D2 C3 PM S1 S2 : Bs) (p0 p1 p2 p3 p4 : Nat) (w : World)
    (hk : ∀ X, Below w.heap.size w X → X.cell? ⟨p0, 0, none⟩ = some (str me) ∧ X.cell? ⟨p1, 0, none⟩ = some (str lock) ∧ X.cell? ⟨p2, 0, none⟩ = some (str eph) ∧ X.cell? ⟨p3, 0, none⟩ = some (str stamp) ∧ X.cell? ⟨p4, 0, none⟩ = some (.int .i64 f))
    (SN : ∀ w v, Rds w v [me, lock, eph, stamp] → Calls Tryz.prog 49 #[v] w fun e w' => e = fault 2 ∧ w = w') :
    Calls Tryz.prog 48 #[.pointer (some ⟨p0, 0, none⟩), .pointer (some ⟨p1, 0, none⟩), .pointer (some ⟨p2, 0, none⟩), .pointer (some ⟨p3, 0, none⟩), .pointer (some ⟨p4, 0, none⟩)] w (fun e w' => e = fault 2 ∧ Below w.heap.size w w') := by
  have SNH := Lib.hid SN
  clear SN
  have hcf := fun x v w => mixer_calls x v w
  have KA := Lib.hid hk
  clear hk
  have X0 := Lib.hid (heap_alloc_new w (.cells #[.int .i64 0, .int .i64 0, .int .i64 0, .int .i64 0, .slice none 0 0, .string ⟨#[]⟩, .string ⟨#[]⟩, .string ⟨#[]⟩, .string ⟨#[]⟩, .string ⟨#[]⟩, .string ⟨#[]⟩, .string ⟨#[]⟩, .string ⟨#[]⟩, .string ⟨#[]⟩, .int .i64 0] 28))
  have BW := Lib.hid (al0 (w := w) (.cells #[.int .i64 0, .int .i64 0, .int .i64 0, .int .i64 0, .slice none 0 0, .string ⟨#[]⟩, .string ⟨#[]⟩, .string ⟨#[]⟩, .string ⟨#[]⟩, .string ⟨#[]⟩, .string ⟨#[]⟩, .string ⟨#[]⟩, .string ⟨#[]⟩, .string ⟨#[]⟩, .int .i64 0] 28))
  have HB0 := Lib.hid (Below.refl (w.alloc (.cells #[.int .i64 0, .int .i64 0, .int .i64 0, .int .i64 0, .slice none 0 0, .string ⟨#[]⟩, .string ⟨#[]⟩, .string ⟨#[]⟩, .string ⟨#[]⟩, .string ⟨#[]⟩, .string ⟨#[]⟩, .string ⟨#[]⟩, .string ⟨#[]⟩, .string ⟨#[]⟩, .int .i64 0] 28)).heap.size (w.alloc (.cells #[.int .i64 0, .int .i64 0, .int .i64 0, .int .i64 0, .slice none 0 0, .string ⟨#[]⟩, .string ⟨#[]⟩, .string ⟨#[]⟩, .string ⟨#[]⟩, .string ⟨#[]⟩, .string ⟨#[]⟩, .string ⟨#[]⟩, .string ⟨#[]⟩, .string ⟨#[]⟩, .int .i64 0] 28)))
  obtain ⟨m0, m1, m2, m3, m4⟩ := KA.out _ BW.out
  go_enter Tryz.func48, Tryz.ntmps48
  go_wp2_with fail
  refine (SNH.out _ _ (rds4 (newA (by simp)))).mono ?_
  rintro e wz ⟨rfl, rfl⟩
  exact ⟨rfl, rfl, al1 BW.out _⟩

set_option maxHeartbeats 8000000 in
set_option maxRecDepth 100000 in
theorem form0 (f : Int) (me lock eph stamp H0 PE C1 D1 C2 D2 C3 PM S1 S2 : Bs) (p0 p1 p2 p3 p4 : Nat) (w : World)
    (hk : ∀ X, Below w.heap.size w X → X.cell? ⟨p0, 0, none⟩ = some (str me) ∧ X.cell? ⟨p1, 0, none⟩ = some (str lock) ∧ X.cell? ⟨p2, 0, none⟩ = some (str eph) ∧ X.cell? ⟨p3, 0, none⟩ = some (str stamp) ∧ X.cell? ⟨p4, 0, none⟩ = some (.int .i64 f))
    (SH : ∀ w v, Rds w v [me, lock, eph, stamp] → Calls Tryz.prog 49 #[v] w fun e w' => e = .returned (.tuple #[]) ∧ w = w')
    (N : ∀ w, Calls Tryz.prog 51 #[.int .i64 f] w fun e w' => e = .returned (.bool false) ∧ w = w') :
    Calls Tryz.prog 48 #[.pointer (some ⟨p0, 0, none⟩), .pointer (some ⟨p1, 0, none⟩), .pointer (some ⟨p2, 0, none⟩), .pointer (some ⟨p3, 0, none⟩), .pointer (some ⟨p4, 0, none⟩)] w (fun e w' => e = fault 1 ∧ Below w.heap.size w w') := by
  have SHH := Lib.hid SH
  clear SH
  have NH := Lib.hid N
  clear N
  have hcf := fun x v w => mixer_calls x v w
  have KA := Lib.hid hk
  clear hk
  have X0 := Lib.hid (heap_alloc_new w (.cells #[.int .i64 0, .int .i64 0, .int .i64 0, .int .i64 0, .slice none 0 0, .string ⟨#[]⟩, .string ⟨#[]⟩, .string ⟨#[]⟩, .string ⟨#[]⟩, .string ⟨#[]⟩, .string ⟨#[]⟩, .string ⟨#[]⟩, .string ⟨#[]⟩, .string ⟨#[]⟩, .int .i64 0] 28))
  have BW := Lib.hid (al0 (w := w) (.cells #[.int .i64 0, .int .i64 0, .int .i64 0, .int .i64 0, .slice none 0 0, .string ⟨#[]⟩, .string ⟨#[]⟩, .string ⟨#[]⟩, .string ⟨#[]⟩, .string ⟨#[]⟩, .string ⟨#[]⟩, .string ⟨#[]⟩, .string ⟨#[]⟩, .string ⟨#[]⟩, .int .i64 0] 28))
  have HB0 := Lib.hid (Below.refl (w.alloc (.cells #[.int .i64 0, .int .i64 0, .int .i64 0, .int .i64 0, .slice none 0 0, .string ⟨#[]⟩, .string ⟨#[]⟩, .string ⟨#[]⟩, .string ⟨#[]⟩, .string ⟨#[]⟩, .string ⟨#[]⟩, .string ⟨#[]⟩, .string ⟨#[]⟩, .string ⟨#[]⟩, .int .i64 0] 28)).heap.size (w.alloc (.cells #[.int .i64 0, .int .i64 0, .int .i64 0, .int .i64 0, .slice none 0 0, .string ⟨#[]⟩, .string ⟨#[]⟩, .string ⟨#[]⟩, .string ⟨#[]⟩, .string ⟨#[]⟩, .string ⟨#[]⟩, .string ⟨#[]⟩, .string ⟨#[]⟩, .string ⟨#[]⟩, .int .i64 0] 28)))
  obtain ⟨m0, m1, m2, m3, m4⟩ := KA.out _ BW.out
  go_enter Tryz.func48, Tryz.ntmps48
  go_wp2_with fail
  refine (still (by first | exact HB0.out | exact al1 HB0.out _ | exact al2 HB0.out _ _ | exact al3 HB0.out _ _ _) (SHH.out _ _ (rds4 (newA (by simp))))).mono ?_
  rintro e w1 ⟨rfl, hb⟩
  have HB1 := Lib.hid hb
  clear hb
  clear m0 m1 m2 m3 m4
  obtain ⟨m0, m1, m2, m3, m4⟩ := KA.out _ (base BW.out HB1.out)
  go_wp2_with fail
  refine (still (by first | exact HB1.out | exact al1 HB1.out _ | exact al2 HB1.out _ _ | exact al3 HB1.out _ _ _) (NH.out _)).mono ?_
  rintro e w2 ⟨rfl, hb⟩
  have HB2 := Lib.hid hb
  clear hb
  clear m0 m1 m2 m3 m4
  obtain ⟨m0, m1, m2, m3, m4⟩ := KA.out _ (base BW.out HB2.out)
  go_wp2_with fail
  refine (need_no _ _).mono ?_
  rintro e wz ⟨rfl, rfl⟩
  exact ⟨rfl, rfl, base BW.out HB2.out⟩

set_option maxHeartbeats 8000000 in
set_option maxRecDepth 100000 in
theorem form1 (f : Int) (me lock eph stamp H0 PE C1 D1 C2 D2 C3 PM S1 S2 : Bs) (p0 p1 p2 p3 p4 : Nat) (w : World)
    (hk : ∀ X, Below w.heap.size w X → X.cell? ⟨p0, 0, none⟩ = some (str me) ∧ X.cell? ⟨p1, 0, none⟩ = some (str lock) ∧ X.cell? ⟨p2, 0, none⟩ = some (str eph) ∧ X.cell? ⟨p3, 0, none⟩ = some (str stamp) ∧ X.cell? ⟨p4, 0, none⟩ = some (.int .i64 f))
    (SH : ∀ w v, Rds w v [me, lock, eph, stamp] → Calls Tryz.prog 49 #[v] w fun e w' => e = .returned (.tuple #[]) ∧ w = w')
    (N : ∀ w, Calls Tryz.prog 51 #[.int .i64 f] w fun e w' => e = .returned (.bool true) ∧ w = w')
    (M : ∀ w, Calls Tryz.prog 52 #[str me] w fun e w' => e = .returned (.bool false) ∧ w = w') :
    Calls Tryz.prog 48 #[.pointer (some ⟨p0, 0, none⟩), .pointer (some ⟨p1, 0, none⟩), .pointer (some ⟨p2, 0, none⟩), .pointer (some ⟨p3, 0, none⟩), .pointer (some ⟨p4, 0, none⟩)] w (fun e w' => e = fault 1 ∧ Below w.heap.size w w') := by
  have SHH := Lib.hid SH
  clear SH
  have NH := Lib.hid N
  clear N
  have MH := Lib.hid M
  clear M
  have hcf := fun x v w => mixer_calls x v w
  have KA := Lib.hid hk
  clear hk
  have X0 := Lib.hid (heap_alloc_new w (.cells #[.int .i64 0, .int .i64 0, .int .i64 0, .int .i64 0, .slice none 0 0, .string ⟨#[]⟩, .string ⟨#[]⟩, .string ⟨#[]⟩, .string ⟨#[]⟩, .string ⟨#[]⟩, .string ⟨#[]⟩, .string ⟨#[]⟩, .string ⟨#[]⟩, .string ⟨#[]⟩, .int .i64 0] 28))
  have BW := Lib.hid (al0 (w := w) (.cells #[.int .i64 0, .int .i64 0, .int .i64 0, .int .i64 0, .slice none 0 0, .string ⟨#[]⟩, .string ⟨#[]⟩, .string ⟨#[]⟩, .string ⟨#[]⟩, .string ⟨#[]⟩, .string ⟨#[]⟩, .string ⟨#[]⟩, .string ⟨#[]⟩, .string ⟨#[]⟩, .int .i64 0] 28))
  have HB0 := Lib.hid (Below.refl (w.alloc (.cells #[.int .i64 0, .int .i64 0, .int .i64 0, .int .i64 0, .slice none 0 0, .string ⟨#[]⟩, .string ⟨#[]⟩, .string ⟨#[]⟩, .string ⟨#[]⟩, .string ⟨#[]⟩, .string ⟨#[]⟩, .string ⟨#[]⟩, .string ⟨#[]⟩, .string ⟨#[]⟩, .int .i64 0] 28)).heap.size (w.alloc (.cells #[.int .i64 0, .int .i64 0, .int .i64 0, .int .i64 0, .slice none 0 0, .string ⟨#[]⟩, .string ⟨#[]⟩, .string ⟨#[]⟩, .string ⟨#[]⟩, .string ⟨#[]⟩, .string ⟨#[]⟩, .string ⟨#[]⟩, .string ⟨#[]⟩, .string ⟨#[]⟩, .int .i64 0] 28)))
  obtain ⟨m0, m1, m2, m3, m4⟩ := KA.out _ BW.out
  go_enter Tryz.func48, Tryz.ntmps48
  go_wp2_with fail
  refine (still (by first | exact HB0.out | exact al1 HB0.out _ | exact al2 HB0.out _ _ | exact al3 HB0.out _ _ _) (SHH.out _ _ (rds4 (newA (by simp))))).mono ?_
  rintro e w1 ⟨rfl, hb⟩
  have HB1 := Lib.hid hb
  clear hb
  clear m0 m1 m2 m3 m4
  obtain ⟨m0, m1, m2, m3, m4⟩ := KA.out _ (base BW.out HB1.out)
  go_wp2_with fail
  refine (still (by first | exact HB1.out | exact al1 HB1.out _ | exact al2 HB1.out _ _ | exact al3 HB1.out _ _ _) (NH.out _)).mono ?_
  rintro e w2 ⟨rfl, hb⟩
  have HB2 := Lib.hid hb
  clear hb
  clear m0 m1 m2 m3 m4
  obtain ⟨m0, m1, m2, m3, m4⟩ := KA.out _ (base BW.out HB2.out)
  go_wp2_with fail
  refine (still (by first | exact HB2.out | exact al1 HB2.out _ | exact al2 HB2.out _ _ | exact al3 HB2.out _ _ _) (MH.out _)).mono ?_
  rintro e w3 ⟨rfl, hb⟩
  have HB3 := Lib.hid hb
  clear hb
  clear m0 m1 m2 m3 m4
  obtain ⟨m0, m1, m2, m3, m4⟩ := KA.out _ (base BW.out HB3.out)
  go_wp2_with fail
  refine (need_no _ _).mono ?_
  rintro e wz ⟨rfl, rfl⟩
  exact ⟨rfl, rfl, base BW.out HB3.out⟩

set_option maxHeartbeats 8000000 in
set_option maxRecDepth 100000 in
theorem form2 (f : Int) (me lock eph stamp H0 PE C1 D1 C2 D2 C3 PM S1 S2 : Bs) (p0 p1 p2 p3 p4 : Nat) (w : World)
    (hk : ∀ X, Below w.heap.size w X → X.cell? ⟨p0, 0, none⟩ = some (str me) ∧ X.cell? ⟨p1, 0, none⟩ = some (str lock) ∧ X.cell? ⟨p2, 0, none⟩ = some (str eph) ∧ X.cell? ⟨p3, 0, none⟩ = some (str stamp) ∧ X.cell? ⟨p4, 0, none⟩ = some (.int .i64 f))
    (SH : ∀ w v, Rds w v [me, lock, eph, stamp] → Calls Tryz.prog 49 #[v] w fun e w' => e = .returned (.tuple #[]) ∧ w = w')
    (N : ∀ w, Calls Tryz.prog 51 #[.int .i64 f] w fun e w' => e = .returned (.bool true) ∧ w = w')
    (M : ∀ w, Calls Tryz.prog 52 #[str me] w fun e w' => e = .returned (.bool true) ∧ w = w')
    (L : Gives 53 #[str lock] (.bool false)) :
    Calls Tryz.prog 48 #[.pointer (some ⟨p0, 0, none⟩), .pointer (some ⟨p1, 0, none⟩), .pointer (some ⟨p2, 0, none⟩), .pointer (some ⟨p3, 0, none⟩), .pointer (some ⟨p4, 0, none⟩)] w (fun e w' => e = fault 1 ∧ Below w.heap.size w w') := by
  have SHH := Lib.hid SH
  clear SH
  have NH := Lib.hid N
  clear N
  have MH := Lib.hid M
  clear M
  have LH := Lib.hid L
  clear L
  have hcf := fun x v w => mixer_calls x v w
  have KA := Lib.hid hk
  clear hk
  have X0 := Lib.hid (heap_alloc_new w (.cells #[.int .i64 0, .int .i64 0, .int .i64 0, .int .i64 0, .slice none 0 0, .string ⟨#[]⟩, .string ⟨#[]⟩, .string ⟨#[]⟩, .string ⟨#[]⟩, .string ⟨#[]⟩, .string ⟨#[]⟩, .string ⟨#[]⟩, .string ⟨#[]⟩, .string ⟨#[]⟩, .int .i64 0] 28))
  have BW := Lib.hid (al0 (w := w) (.cells #[.int .i64 0, .int .i64 0, .int .i64 0, .int .i64 0, .slice none 0 0, .string ⟨#[]⟩, .string ⟨#[]⟩, .string ⟨#[]⟩, .string ⟨#[]⟩, .string ⟨#[]⟩, .string ⟨#[]⟩, .string ⟨#[]⟩, .string ⟨#[]⟩, .string ⟨#[]⟩, .int .i64 0] 28))
  have HB0 := Lib.hid (Below.refl (w.alloc (.cells #[.int .i64 0, .int .i64 0, .int .i64 0, .int .i64 0, .slice none 0 0, .string ⟨#[]⟩, .string ⟨#[]⟩, .string ⟨#[]⟩, .string ⟨#[]⟩, .string ⟨#[]⟩, .string ⟨#[]⟩, .string ⟨#[]⟩, .string ⟨#[]⟩, .string ⟨#[]⟩, .int .i64 0] 28)).heap.size (w.alloc (.cells #[.int .i64 0, .int .i64 0, .int .i64 0, .int .i64 0, .slice none 0 0, .string ⟨#[]⟩, .string ⟨#[]⟩, .string ⟨#[]⟩, .string ⟨#[]⟩, .string ⟨#[]⟩, .string ⟨#[]⟩, .string ⟨#[]⟩, .string ⟨#[]⟩, .string ⟨#[]⟩, .int .i64 0] 28)))
  obtain ⟨m0, m1, m2, m3, m4⟩ := KA.out _ BW.out
  go_enter Tryz.func48, Tryz.ntmps48
  go_wp2_with fail
  refine (still (by first | exact HB0.out | exact al1 HB0.out _ | exact al2 HB0.out _ _ | exact al3 HB0.out _ _ _) (SHH.out _ _ (rds4 (newA (by simp))))).mono ?_
  rintro e w1 ⟨rfl, hb⟩
  have HB1 := Lib.hid hb
  clear hb
  clear m0 m1 m2 m3 m4
  obtain ⟨m0, m1, m2, m3, m4⟩ := KA.out _ (base BW.out HB1.out)
  go_wp2_with fail
  refine (still (by first | exact HB1.out | exact al1 HB1.out _ | exact al2 HB1.out _ _ | exact al3 HB1.out _ _ _) (NH.out _)).mono ?_
  rintro e w2 ⟨rfl, hb⟩
  have HB2 := Lib.hid hb
  clear hb
  clear m0 m1 m2 m3 m4
  obtain ⟨m0, m1, m2, m3, m4⟩ := KA.out _ (base BW.out HB2.out)
  go_wp2_with fail
  refine (still (by first | exact HB2.out | exact al1 HB2.out _ | exact al2 HB2.out _ _ | exact al3 HB2.out _ _ _) (MH.out _)).mono ?_
  rintro e w3 ⟨rfl, hb⟩
  have HB3 := Lib.hid hb
  clear hb
  clear m0 m1 m2 m3 m4
  obtain ⟨m0, m1, m2, m3, m4⟩ := KA.out _ (base BW.out HB3.out)
  go_wp2_with fail
  refine (on (by first | exact HB3.out | exact al1 HB3.out _ | exact al2 HB3.out _ _ | exact al3 HB3.out _ _ _) (LH.out _)).mono ?_
  rintro e w4 ⟨rfl, hb⟩
  have HB4 := Lib.hid hb
  clear hb
  clear m0 m1 m2 m3 m4
  obtain ⟨m0, m1, m2, m3, m4⟩ := KA.out _ (base BW.out HB4.out)
  go_wp2_with fail
  refine (need_no _ _).mono ?_
  rintro e wz ⟨rfl, rfl⟩
  exact ⟨rfl, rfl, base BW.out HB4.out⟩

set_option maxHeartbeats 8000000 in
set_option maxRecDepth 100000 in
theorem form3 (f : Int) (me lock eph stamp H0 PE C1 D1 C2 D2 C3 PM S1 S2 : Bs) (p0 p1 p2 p3 p4 : Nat) (w : World)
    (hk : ∀ X, Below w.heap.size w X → X.cell? ⟨p0, 0, none⟩ = some (str me) ∧ X.cell? ⟨p1, 0, none⟩ = some (str lock) ∧ X.cell? ⟨p2, 0, none⟩ = some (str eph) ∧ X.cell? ⟨p3, 0, none⟩ = some (str stamp) ∧ X.cell? ⟨p4, 0, none⟩ = some (.int .i64 f))
    (SH : ∀ w v, Rds w v [me, lock, eph, stamp] → Calls Tryz.prog 49 #[v] w fun e w' => e = .returned (.tuple #[]) ∧ w = w')
    (N : ∀ w, Calls Tryz.prog 51 #[.int .i64 f] w fun e w' => e = .returned (.bool true) ∧ w = w')
    (M : ∀ w, Calls Tryz.prog 52 #[str me] w fun e w' => e = .returned (.bool true) ∧ w = w')
    (L : Gives 53 #[str lock] (.bool true))
    (E : ∀ w, Calls Tryz.prog 52 #[str eph] w fun e w' => e = .returned (.bool false) ∧ w = w') :
    Calls Tryz.prog 48 #[.pointer (some ⟨p0, 0, none⟩), .pointer (some ⟨p1, 0, none⟩), .pointer (some ⟨p2, 0, none⟩), .pointer (some ⟨p3, 0, none⟩), .pointer (some ⟨p4, 0, none⟩)] w (fun e w' => e = fault 1 ∧ Below w.heap.size w w') := by
  have SHH := Lib.hid SH
  clear SH
  have NH := Lib.hid N
  clear N
  have MH := Lib.hid M
  clear M
  have LH := Lib.hid L
  clear L
  have EH := Lib.hid E
  clear E
  have hcf := fun x v w => mixer_calls x v w
  have KA := Lib.hid hk
  clear hk
  have X0 := Lib.hid (heap_alloc_new w (.cells #[.int .i64 0, .int .i64 0, .int .i64 0, .int .i64 0, .slice none 0 0, .string ⟨#[]⟩, .string ⟨#[]⟩, .string ⟨#[]⟩, .string ⟨#[]⟩, .string ⟨#[]⟩, .string ⟨#[]⟩, .string ⟨#[]⟩, .string ⟨#[]⟩, .string ⟨#[]⟩, .int .i64 0] 28))
  have BW := Lib.hid (al0 (w := w) (.cells #[.int .i64 0, .int .i64 0, .int .i64 0, .int .i64 0, .slice none 0 0, .string ⟨#[]⟩, .string ⟨#[]⟩, .string ⟨#[]⟩, .string ⟨#[]⟩, .string ⟨#[]⟩, .string ⟨#[]⟩, .string ⟨#[]⟩, .string ⟨#[]⟩, .string ⟨#[]⟩, .int .i64 0] 28))
  have HB0 := Lib.hid (Below.refl (w.alloc (.cells #[.int .i64 0, .int .i64 0, .int .i64 0, .int .i64 0, .slice none 0 0, .string ⟨#[]⟩, .string ⟨#[]⟩, .string ⟨#[]⟩, .string ⟨#[]⟩, .string ⟨#[]⟩, .string ⟨#[]⟩, .string ⟨#[]⟩, .string ⟨#[]⟩, .string ⟨#[]⟩, .int .i64 0] 28)).heap.size (w.alloc (.cells #[.int .i64 0, .int .i64 0, .int .i64 0, .int .i64 0, .slice none 0 0, .string ⟨#[]⟩, .string ⟨#[]⟩, .string ⟨#[]⟩, .string ⟨#[]⟩, .string ⟨#[]⟩, .string ⟨#[]⟩, .string ⟨#[]⟩, .string ⟨#[]⟩, .string ⟨#[]⟩, .int .i64 0] 28)))
  obtain ⟨m0, m1, m2, m3, m4⟩ := KA.out _ BW.out
  go_enter Tryz.func48, Tryz.ntmps48
  go_wp2_with fail
  refine (still (by first | exact HB0.out | exact al1 HB0.out _ | exact al2 HB0.out _ _ | exact al3 HB0.out _ _ _) (SHH.out _ _ (rds4 (newA (by simp))))).mono ?_
  rintro e w1 ⟨rfl, hb⟩
  have HB1 := Lib.hid hb
  clear hb
  clear m0 m1 m2 m3 m4
  obtain ⟨m0, m1, m2, m3, m4⟩ := KA.out _ (base BW.out HB1.out)
  go_wp2_with fail
  refine (still (by first | exact HB1.out | exact al1 HB1.out _ | exact al2 HB1.out _ _ | exact al3 HB1.out _ _ _) (NH.out _)).mono ?_
  rintro e w2 ⟨rfl, hb⟩
  have HB2 := Lib.hid hb
  clear hb
  clear m0 m1 m2 m3 m4
  obtain ⟨m0, m1, m2, m3, m4⟩ := KA.out _ (base BW.out HB2.out)
  go_wp2_with fail
  refine (still (by first | exact HB2.out | exact al1 HB2.out _ | exact al2 HB2.out _ _ | exact al3 HB2.out _ _ _) (MH.out _)).mono ?_
  rintro e w3 ⟨rfl, hb⟩
  have HB3 := Lib.hid hb
  clear hb
  clear m0 m1 m2 m3 m4
  obtain ⟨m0, m1, m2, m3, m4⟩ := KA.out _ (base BW.out HB3.out)
  go_wp2_with fail
  refine (on (by first | exact HB3.out | exact al1 HB3.out _ | exact al2 HB3.out _ _ | exact al3 HB3.out _ _ _) (LH.out _)).mono ?_
  rintro e w4 ⟨rfl, hb⟩
  have HB4 := Lib.hid hb
  clear hb
  clear m0 m1 m2 m3 m4
  obtain ⟨m0, m1, m2, m3, m4⟩ := KA.out _ (base BW.out HB4.out)
  go_wp2_with fail
  refine (still (by first | exact HB4.out | exact al1 HB4.out _ | exact al2 HB4.out _ _ | exact al3 HB4.out _ _ _) (EH.out _)).mono ?_
  rintro e w5 ⟨rfl, hb⟩
  have HB5 := Lib.hid hb
  clear hb
  clear m0 m1 m2 m3 m4
  obtain ⟨m0, m1, m2, m3, m4⟩ := KA.out _ (base BW.out HB5.out)
  go_wp2_with fail
  refine (need_no _ _).mono ?_
  rintro e wz ⟨rfl, rfl⟩
  exact ⟨rfl, rfl, base BW.out HB5.out⟩

set_option maxHeartbeats 8000000 in
set_option maxRecDepth 100000 in
theorem form4 (f : Int) (me lock eph stamp H0 PE C1 D1 C2 D2 C3 PM S1 S2 : Bs) (p0 p1 p2 p3 p4 : Nat) (w : World)
    (hk : ∀ X, Below w.heap.size w X → X.cell? ⟨p0, 0, none⟩ = some (str me) ∧ X.cell? ⟨p1, 0, none⟩ = some (str lock) ∧ X.cell? ⟨p2, 0, none⟩ = some (str eph) ∧ X.cell? ⟨p3, 0, none⟩ = some (str stamp) ∧ X.cell? ⟨p4, 0, none⟩ = some (.int .i64 f))
    (SH : ∀ w v, Rds w v [me, lock, eph, stamp] → Calls Tryz.prog 49 #[v] w fun e w' => e = .returned (.tuple #[]) ∧ w = w')
    (N : ∀ w, Calls Tryz.prog 51 #[.int .i64 f] w fun e w' => e = .returned (.bool true) ∧ w = w')
    (M : ∀ w, Calls Tryz.prog 52 #[str me] w fun e w' => e = .returned (.bool true) ∧ w = w')
    (L : Gives 53 #[str lock] (.bool true))
    (E : ∀ w, Calls Tryz.prog 52 #[str eph] w fun e w' => e = .returned (.bool true) ∧ w = w')
    (S : Gives 54 #[str stamp] (.bool false)) :
    Calls Tryz.prog 48 #[.pointer (some ⟨p0, 0, none⟩), .pointer (some ⟨p1, 0, none⟩), .pointer (some ⟨p2, 0, none⟩), .pointer (some ⟨p3, 0, none⟩), .pointer (some ⟨p4, 0, none⟩)] w (fun e w' => e = fault 1 ∧ Below w.heap.size w w') := by
  have SHH := Lib.hid SH
  clear SH
  have NH := Lib.hid N
  clear N
  have MH := Lib.hid M
  clear M
  have LH := Lib.hid L
  clear L
  have EH := Lib.hid E
  clear E
  have SH := Lib.hid S
  clear S
  have hcf := fun x v w => mixer_calls x v w
  have KA := Lib.hid hk
  clear hk
  have X0 := Lib.hid (heap_alloc_new w (.cells #[.int .i64 0, .int .i64 0, .int .i64 0, .int .i64 0, .slice none 0 0, .string ⟨#[]⟩, .string ⟨#[]⟩, .string ⟨#[]⟩, .string ⟨#[]⟩, .string ⟨#[]⟩, .string ⟨#[]⟩, .string ⟨#[]⟩, .string ⟨#[]⟩, .string ⟨#[]⟩, .int .i64 0] 28))
  have BW := Lib.hid (al0 (w := w) (.cells #[.int .i64 0, .int .i64 0, .int .i64 0, .int .i64 0, .slice none 0 0, .string ⟨#[]⟩, .string ⟨#[]⟩, .string ⟨#[]⟩, .string ⟨#[]⟩, .string ⟨#[]⟩, .string ⟨#[]⟩, .string ⟨#[]⟩, .string ⟨#[]⟩, .string ⟨#[]⟩, .int .i64 0] 28))
  have HB0 := Lib.hid (Below.refl (w.alloc (.cells #[.int .i64 0, .int .i64 0, .int .i64 0, .int .i64 0, .slice none 0 0, .string ⟨#[]⟩, .string ⟨#[]⟩, .string ⟨#[]⟩, .string ⟨#[]⟩, .string ⟨#[]⟩, .string ⟨#[]⟩, .string ⟨#[]⟩, .string ⟨#[]⟩, .string ⟨#[]⟩, .int .i64 0] 28)).heap.size (w.alloc (.cells #[.int .i64 0, .int .i64 0, .int .i64 0, .int .i64 0, .slice none 0 0, .string ⟨#[]⟩, .string ⟨#[]⟩, .string ⟨#[]⟩, .string ⟨#[]⟩, .string ⟨#[]⟩, .string ⟨#[]⟩, .string ⟨#[]⟩, .string ⟨#[]⟩, .string ⟨#[]⟩, .int .i64 0] 28)))
  obtain ⟨m0, m1, m2, m3, m4⟩ := KA.out _ BW.out
  go_enter Tryz.func48, Tryz.ntmps48
  go_wp2_with fail
  refine (still (by first | exact HB0.out | exact al1 HB0.out _ | exact al2 HB0.out _ _ | exact al3 HB0.out _ _ _) (SHH.out _ _ (rds4 (newA (by simp))))).mono ?_
  rintro e w1 ⟨rfl, hb⟩
  have HB1 := Lib.hid hb
  clear hb
  clear m0 m1 m2 m3 m4
  obtain ⟨m0, m1, m2, m3, m4⟩ := KA.out _ (base BW.out HB1.out)
  go_wp2_with fail
  refine (still (by first | exact HB1.out | exact al1 HB1.out _ | exact al2 HB1.out _ _ | exact al3 HB1.out _ _ _) (NH.out _)).mono ?_
  rintro e w2 ⟨rfl, hb⟩
  have HB2 := Lib.hid hb
  clear hb
  clear m0 m1 m2 m3 m4
  obtain ⟨m0, m1, m2, m3, m4⟩ := KA.out _ (base BW.out HB2.out)
  go_wp2_with fail
  refine (still (by first | exact HB2.out | exact al1 HB2.out _ | exact al2 HB2.out _ _ | exact al3 HB2.out _ _ _) (MH.out _)).mono ?_
  rintro e w3 ⟨rfl, hb⟩
  have HB3 := Lib.hid hb
  clear hb
  clear m0 m1 m2 m3 m4
  obtain ⟨m0, m1, m2, m3, m4⟩ := KA.out _ (base BW.out HB3.out)
  go_wp2_with fail
  refine (on (by first | exact HB3.out | exact al1 HB3.out _ | exact al2 HB3.out _ _ | exact al3 HB3.out _ _ _) (LH.out _)).mono ?_
  rintro e w4 ⟨rfl, hb⟩
  have HB4 := Lib.hid hb
  clear hb
  clear m0 m1 m2 m3 m4
  obtain ⟨m0, m1, m2, m3, m4⟩ := KA.out _ (base BW.out HB4.out)
  go_wp2_with fail
  refine (still (by first | exact HB4.out | exact al1 HB4.out _ | exact al2 HB4.out _ _ | exact al3 HB4.out _ _ _) (EH.out _)).mono ?_
  rintro e w5 ⟨rfl, hb⟩
  have HB5 := Lib.hid hb
  clear hb
  clear m0 m1 m2 m3 m4
  obtain ⟨m0, m1, m2, m3, m4⟩ := KA.out _ (base BW.out HB5.out)
  go_wp2_with fail
  refine (on (by first | exact HB5.out | exact al1 HB5.out _ | exact al2 HB5.out _ _ | exact al3 HB5.out _ _ _) (SH.out _)).mono ?_
  rintro e w6 ⟨rfl, hb⟩
  have HB6 := Lib.hid hb
  clear hb
  clear m0 m1 m2 m3 m4
  obtain ⟨m0, m1, m2, m3, m4⟩ := KA.out _ (base BW.out HB6.out)
  go_wp2_with fail
  refine (need_no _ _).mono ?_
  rintro e wz ⟨rfl, rfl⟩
  exact ⟨rfl, rfl, base BW.out HB6.out⟩

set_option maxHeartbeats 8000000 in
set_option maxRecDepth 100000 in
theorem yes (f : Int) (me lock eph stamp H0 PE C1 D1 C2 D2 C3 PM S1 S2 : Bs) (k' f' t' c' : Int) (ps : List Bs) (a' b' : Bs) (p0 p1 p2 p3 p4 : Nat) (w : World)
    (hk : ∀ X, Below w.heap.size w X → X.cell? ⟨p0, 0, none⟩ = some (str me) ∧ X.cell? ⟨p1, 0, none⟩ = some (str lock) ∧ X.cell? ⟨p2, 0, none⟩ = some (str eph) ∧ X.cell? ⟨p3, 0, none⟩ = some (str stamp) ∧ X.cell? ⟨p4, 0, none⟩ = some (.int .i64 f))
    (SH : ∀ w v, Rds w v [me, lock, eph, stamp] → Calls Tryz.prog 49 #[v] w fun e w' => e = .returned (.tuple #[]) ∧ w = w')
    (N : ∀ w, Calls Tryz.prog 51 #[.int .i64 f] w fun e w' => e = .returned (.bool true) ∧ w = w')
    (M : ∀ w, Calls Tryz.prog 52 #[str me] w fun e w' => e = .returned (.bool true) ∧ w = w')
    (L : Gives 53 #[str lock] (.bool true))
    (E : ∀ w, Calls Tryz.prog 52 #[str eph] w fun e w' => e = .returned (.bool true) ∧ w = w')
    (S : Gives 54 #[str stamp] (.bool true))
    (PU : (∀ w b, w.cell? ⟨b, 0, none⟩ = some (str eph) → b < w.heap.size → Calls Tryz.prog 55 #[.string ⟨#[112, 117, 98]⟩, .slice (some ⟨b, 0, none⟩) 1 1] w fun e w' => e = .returned (str PE) ∧ Below w.heap.size w w'))
    (BG : Gives 56 #[str lock] (str H0))
    (MA : Gives 57 #[str H0, str PE] (.tuple #[str C1, .func (.func 57) #[str C1] #[]]))
    (DA : Gives 58 #[str eph, str lock] (str D1))
    (MB : Gives 57 #[str C1, str D1] (.tuple #[str C2, .func (.func 57) #[str C2] #[]]))
    (DB : Gives 58 #[str me, str lock] (str D2))
    (MC : Gives 57 #[str C2, str D2] (.tuple #[str C3, .func (.func 57) #[str C3] #[]]))
    (PV : (∀ w b, w.cell? ⟨b, 0, none⟩ = some (str me) → b < w.heap.size → Calls Tryz.prog 55 #[.string ⟨#[112, 117, 98]⟩, .slice (some ⟨b, 0, none⟩) 1 1] w fun e w' => e = .returned (str PM) ∧ Below w.heap.size w w'))
    (SA : (∀ w b, w.cell? ⟨b, 0, none⟩ = some (str C2) → w.cell? ⟨b, 1, none⟩ = some (str PM) → b < w.heap.size → Calls Tryz.prog 55 #[.string ⟨#[115, 104, 117, 116]⟩, .slice (some ⟨b, 0, none⟩) 2 2] w fun e w' => e = .returned (str S1) ∧ Below w.heap.size w w'))
    (SB : (∀ w b, w.cell? ⟨b, 0, none⟩ = some (str C3) → w.cell? ⟨b, 1, none⟩ = some (str stamp) → b < w.heap.size → Calls Tryz.prog 55 #[.string ⟨#[115, 104, 117, 116]⟩, .slice (some ⟨b, 0, none⟩) 2 2] w fun e w' => e = .returned (str S2) ∧ Below w.heap.size w w'))
    (SGY : ∀ w v, Rds w v [PE, S1, S2] → Calls Tryz.prog 59 #[.agg #[.int .i64 1, .int .i64 f, .int .i64 0, .int .i64 0, v, .string ⟨#[]⟩, .string ⟨#[]⟩], str lock] w fun e w' => ∃ au nu cu, e = .returned (.agg #[.int .i64 k', .int .i64 f', .int .i64 t', .int .i64 c', .slice au nu cu, str a', str b']) ∧ Below w.heap.size w w' ∧ Wrs w' w.heap.size (.slice au nu cu) ps)
    (CL : Gives 60 #[str eph] (str eph)) :
    Calls Tryz.prog 48 #[.pointer (some ⟨p0, 0, none⟩), .pointer (some ⟨p1, 0, none⟩), .pointer (some ⟨p2, 0, none⟩), .pointer (some ⟨p3, 0, none⟩), .pointer (some ⟨p4, 0, none⟩)] w (HEnd ⟨⟨k', f', t', c', ps, a', b'⟩, [], [], eph, C3, [], [], [], 0⟩ w) := by
  have SHH := Lib.hid SH
  clear SH
  have NH := Lib.hid N
  clear N
  have MH := Lib.hid M
  clear M
  have LH := Lib.hid L
  clear L
  have EH := Lib.hid E
  clear E
  have SH := Lib.hid S
  clear S
  have PUH := Lib.hid PU
  clear PU
  have BGH := Lib.hid BG
  clear BG
  have MAH := Lib.hid MA
  clear MA
  have DAH := Lib.hid DA
  clear DA
  have MBH := Lib.hid MB
  clear MB
  have DBH := Lib.hid DB
  clear DB
  have MCH := Lib.hid MC
  clear MC
  have PVH := Lib.hid PV
  clear PV
  have SAH := Lib.hid SA
  clear SA
  have SBH := Lib.hid SB
  clear SB
  have SGYH := Lib.hid SGY
  clear SGY
  have CLH := Lib.hid CL
  clear CL
  have hcf := fun x v w => mixer_calls x v w
  have KA := Lib.hid hk
  clear hk
  have X0 := Lib.hid (heap_alloc_new w (.cells #[.int .i64 0, .int .i64 0, .int .i64 0, .int .i64 0, .slice none 0 0, .string ⟨#[]⟩, .string ⟨#[]⟩, .string ⟨#[]⟩, .string ⟨#[]⟩, .string ⟨#[]⟩, .string ⟨#[]⟩, .string ⟨#[]⟩, .string ⟨#[]⟩, .string ⟨#[]⟩, .int .i64 0] 28))
  have BW := Lib.hid (al0 (w := w) (.cells #[.int .i64 0, .int .i64 0, .int .i64 0, .int .i64 0, .slice none 0 0, .string ⟨#[]⟩, .string ⟨#[]⟩, .string ⟨#[]⟩, .string ⟨#[]⟩, .string ⟨#[]⟩, .string ⟨#[]⟩, .string ⟨#[]⟩, .string ⟨#[]⟩, .string ⟨#[]⟩, .int .i64 0] 28))
  have HB0 := Lib.hid (Below.refl (w.alloc (.cells #[.int .i64 0, .int .i64 0, .int .i64 0, .int .i64 0, .slice none 0 0, .string ⟨#[]⟩, .string ⟨#[]⟩, .string ⟨#[]⟩, .string ⟨#[]⟩, .string ⟨#[]⟩, .string ⟨#[]⟩, .string ⟨#[]⟩, .string ⟨#[]⟩, .string ⟨#[]⟩, .int .i64 0] 28)).heap.size (w.alloc (.cells #[.int .i64 0, .int .i64 0, .int .i64 0, .int .i64 0, .slice none 0 0, .string ⟨#[]⟩, .string ⟨#[]⟩, .string ⟨#[]⟩, .string ⟨#[]⟩, .string ⟨#[]⟩, .string ⟨#[]⟩, .string ⟨#[]⟩, .string ⟨#[]⟩, .string ⟨#[]⟩, .int .i64 0] 28)))
  obtain ⟨m0, m1, m2, m3, m4⟩ := KA.out _ BW.out
  go_enter Tryz.func48, Tryz.ntmps48
  go_wp2_with fail
  refine (still (by first | exact HB0.out | exact al1 HB0.out _ | exact al2 HB0.out _ _ | exact al3 HB0.out _ _ _) (SHH.out _ _ (rds4 (newA (by simp))))).mono ?_
  rintro e w1 ⟨rfl, hb⟩
  have HB1 := Lib.hid hb
  clear hb
  clear m0 m1 m2 m3 m4
  obtain ⟨m0, m1, m2, m3, m4⟩ := KA.out _ (base BW.out HB1.out)
  go_wp2_with fail
  refine (still (by first | exact HB1.out | exact al1 HB1.out _ | exact al2 HB1.out _ _ | exact al3 HB1.out _ _ _) (NH.out _)).mono ?_
  rintro e w2 ⟨rfl, hb⟩
  have HB2 := Lib.hid hb
  clear hb
  clear m0 m1 m2 m3 m4
  obtain ⟨m0, m1, m2, m3, m4⟩ := KA.out _ (base BW.out HB2.out)
  go_wp2_with fail
  refine (still (by first | exact HB2.out | exact al1 HB2.out _ | exact al2 HB2.out _ _ | exact al3 HB2.out _ _ _) (MH.out _)).mono ?_
  rintro e w3 ⟨rfl, hb⟩
  have HB3 := Lib.hid hb
  clear hb
  clear m0 m1 m2 m3 m4
  obtain ⟨m0, m1, m2, m3, m4⟩ := KA.out _ (base BW.out HB3.out)
  go_wp2_with fail
  refine (on (by first | exact HB3.out | exact al1 HB3.out _ | exact al2 HB3.out _ _ | exact al3 HB3.out _ _ _) (LH.out _)).mono ?_
  rintro e w4 ⟨rfl, hb⟩
  have HB4 := Lib.hid hb
  clear hb
  clear m0 m1 m2 m3 m4
  obtain ⟨m0, m1, m2, m3, m4⟩ := KA.out _ (base BW.out HB4.out)
  go_wp2_with fail
  refine (still (by first | exact HB4.out | exact al1 HB4.out _ | exact al2 HB4.out _ _ | exact al3 HB4.out _ _ _) (EH.out _)).mono ?_
  rintro e w5 ⟨rfl, hb⟩
  have HB5 := Lib.hid hb
  clear hb
  clear m0 m1 m2 m3 m4
  obtain ⟨m0, m1, m2, m3, m4⟩ := KA.out _ (base BW.out HB5.out)
  go_wp2_with fail
  refine (on (by first | exact HB5.out | exact al1 HB5.out _ | exact al2 HB5.out _ _ | exact al3 HB5.out _ _ _) (SH.out _)).mono ?_
  rintro e w6 ⟨rfl, hb⟩
  have HB6 := Lib.hid hb
  clear hb
  clear m0 m1 m2 m3 m4
  obtain ⟨m0, m1, m2, m3, m4⟩ := KA.out _ (base BW.out HB6.out)
  go_wp2_with fail
  refine (still (by first | exact HB6.out | exact al1 HB6.out _ | exact al2 HB6.out _ _ | exact al3 HB6.out _ _ _) (need_yes _ _)).mono ?_
  rintro e w7 ⟨rfl, hb⟩
  have HB7 := Lib.hid hb
  clear hb
  clear m0 m1 m2 m3 m4
  obtain ⟨m0, m1, m2, m3, m4⟩ := KA.out _ (base BW.out HB7.out)
  go_wp2_with fail
  refine (on (by first | exact HB7.out | exact al1 HB7.out _ | exact al2 HB7.out _ _ | exact al3 HB7.out _ _ _) (PUH.out _ _ (by simp [go_sem]) (by simp))).mono ?_
  rintro e w8 ⟨rfl, hb⟩
  have HB8 := Lib.hid hb
  clear hb
  clear m0 m1 m2 m3 m4
  obtain ⟨m0, m1, m2, m3, m4⟩ := KA.out _ (base BW.out HB8.out)
  go_wp2_with fail
  refine (on (by first | exact HB8.out | exact al1 HB8.out _ | exact al2 HB8.out _ _ | exact al3 HB8.out _ _ _) (BGH.out _)).mono ?_
  rintro e w9 ⟨rfl, hb⟩
  have HB9 := Lib.hid hb
  clear hb
  clear m0 m1 m2 m3 m4
  obtain ⟨m0, m1, m2, m3, m4⟩ := KA.out _ (base BW.out HB9.out)
  go_wp2_with fail
  refine (on (by first | exact HB9.out | exact al1 HB9.out _ | exact al2 HB9.out _ _ | exact al3 HB9.out _ _ _) (MAH.out _)).mono ?_
  rintro e w10 ⟨rfl, hb⟩
  have HB10 := Lib.hid hb
  clear hb
  clear m0 m1 m2 m3 m4
  obtain ⟨m0, m1, m2, m3, m4⟩ := KA.out _ (base BW.out HB10.out)
  go_wp2_with fail
  refine (on (by first | exact HB10.out | exact al1 HB10.out _ | exact al2 HB10.out _ _ | exact al3 HB10.out _ _ _) (DAH.out _)).mono ?_
  rintro e w11 ⟨rfl, hb⟩
  have HB11 := Lib.hid hb
  clear hb
  clear m0 m1 m2 m3 m4
  obtain ⟨m0, m1, m2, m3, m4⟩ := KA.out _ (base BW.out HB11.out)
  go_wp2_with fail
  refine (on (by first | exact HB11.out | exact al1 HB11.out _ | exact al2 HB11.out _ _ | exact al3 HB11.out _ _ _) (MBH.out _)).mono ?_
  rintro e w12 ⟨rfl, hb⟩
  have HB12 := Lib.hid hb
  clear hb
  clear m0 m1 m2 m3 m4
  obtain ⟨m0, m1, m2, m3, m4⟩ := KA.out _ (base BW.out HB12.out)
  go_wp2_with fail
  refine (on (by first | exact HB12.out | exact al1 HB12.out _ | exact al2 HB12.out _ _ | exact al3 HB12.out _ _ _) (DBH.out _)).mono ?_
  rintro e w13 ⟨rfl, hb⟩
  have HB13 := Lib.hid hb
  clear hb
  clear m0 m1 m2 m3 m4
  obtain ⟨m0, m1, m2, m3, m4⟩ := KA.out _ (base BW.out HB13.out)
  go_wp2_with fail
  refine (on (by first | exact HB13.out | exact al1 HB13.out _ | exact al2 HB13.out _ _ | exact al3 HB13.out _ _ _) (MCH.out _)).mono ?_
  rintro e w14 ⟨rfl, hb⟩
  have HB14 := Lib.hid hb
  clear hb
  clear m0 m1 m2 m3 m4
  obtain ⟨m0, m1, m2, m3, m4⟩ := KA.out _ (base BW.out HB14.out)
  go_wp2_with fail
  refine wp_region_any (by kernel_rfl) ?_
  change wpAny _ _ _ _ _ _ _ (World.drew _)
  refine wpAny_take (i := 0) (v := str C2) rfl (by kernel_rfl) (by kernel_rfl) (by kernel_rfl) (fun _ _ _ h => h) (Or.inl ⟨by kernel_rfl, ?_⟩) ?_
  · intro w; go_simp; first | done | with_reducible rfl | rfl
  refine wpAny_take (i := 6) (v := str C3) rfl (by kernel_rfl) (by kernel_rfl) (by kernel_rfl) (fun _ _ _ h => h) (Or.inl ⟨by kernel_rfl, ?_⟩) ?_
  · intro w; go_simp; first | done | with_reducible rfl | rfl
  refine relist (l' := #[true, false, false, false, false, false, true, false, false, false, false, false]) (by kernel_rfl) ?_
  refine split (α := Nat × Nat × Nat) #[true, true, true, true, true, true, true, true, true, true, true, true] (fun O => { tmps := #[Value.pointer (some { block := p0, off := 0 }), Value.pointer (some { block := p1, off := 0 }), Value.pointer (some { block := p2, off := 0 }), Value.pointer (some { block := p3, off := 0 }), Value.pointer (some { block := p4, off := 0 }), Value.pointer (some { block := w.heap.size, off := 0 }), str PE, str C1, Value.func (Fn.func 57) #[str C2] #[], str C2, str C3, Value.func (Fn.func 57) #[str C3] #[], str S1, str S2, undef, str me, str lock, str eph, str stamp, Value.slice (some { block := w.heap.size + 1, off := 0 }) 4 4, Value.tuple #[], Value.int IntKind.i64 f, Value.bool true, Value.bool true, str me, Value.bool true, Value.bool true, Value.bool true, str lock, Value.bool true, Value.bool true, Value.bool true, str eph, Value.bool true, Value.bool true, Value.bool true, str stamp, Value.bool true, Value.bool true, Value.tuple #[], str eph, Value.slice (some { block := w7.heap.size, off := 0 }) 1 1, str PE, Value.tuple #[str C1, Value.func (Fn.func 57) #[str C1] #[]], str lock, str H0, str PE, Value.tuple #[str C1, Value.func (Fn.func 57) #[str C1] #[]], str C1, Value.func (Fn.func 57) #[str C1] #[], Value.tuple #[str C2, Value.func (Fn.func 57) #[str C2] #[]], Value.func (Fn.func 57) #[str C1] #[], str eph, str lock, str D1, Value.tuple #[str C2, Value.func (Fn.func 57) #[str C2] #[]], str C2, Value.func (Fn.func 57) #[str C2] #[], Value.tuple #[str C3, Value.func (Fn.func 57) #[str C3] #[]], Value.func (Fn.func 57) #[str C2] #[], str me, str lock, str D2, Value.tuple #[str C3, Value.func (Fn.func 57) #[str C3] #[]], str C3, Value.func (Fn.func 57) #[str C3] #[], str C2, str me, .slice (some ⟨O.1, 0, none⟩) 1 1, str PM, .slice (some ⟨O.2.1, 0, none⟩) 2 2, str S1, str C3, str stamp, .slice (some ⟨O.2.2, 0, none⟩) 2 2, str S2, undef, undef, undef, undef, undef, undef, undef, undef, undef, undef, undef, undef, undef], defers := [] }) 0 (fun X O => Below w14.heap.size w14 X ∧ (X.heap[O.1]? = some (.cells #[str me] 9 (0, 0)) ∧ w14.heap.size ≤ O.1) ∧ (X.heap[O.2.1]? = some (.cells #[str C2, str PM] 9 (0, 0)) ∧ w14.heap.size ≤ O.2.1) ∧ (X.heap[O.2.2]? = some (.cells #[str C3, str stamp] 9 (0, 0)) ∧ w14.heap.size ≤ O.2.2) ∧ True) ?_ (fun T1_2_3_4_5_7_8_9 => ?_)
  · rintro X O ⟨hX, h2, h4, h8, hT⟩
    clear hT
    obtain ⟨m0, m1, m2, m3, m4⟩ := KA.out _ (base BW.out (base HB14.out hX))
    have HX := Lib.hid hX
    have H2 := Lib.hid h2
    have H4 := Lib.hid h4
    have H8 := Lib.hid h8
    clear hX h2 h4 h8
    refine wpAny_done (by kernel_rfl) ?_ _
    have HR := Lib.hid (base HB14.out HX.out)
    clear HX H2 H4 H8
    clear m0 m1 m2 m3 m4
    obtain ⟨m0, m1, m2, m3, m4⟩ := KA.out _ (base BW.out HR.out)
    go_wp2_with fail
    have R3 := Lib.hid (rds3 (cap := 3) (keptA (heap_alloc_new X (.cells #[str PE, str S1, str S2] 9)) (.cells #[.int .i64 1, .int .i64 f, .int .i64 0, .int .i64 0, (.slice (some ⟨X.heap.size, 0, none⟩) 3 3), .string ⟨#[]⟩, .string ⟨#[]⟩] 24)))
    have L7 := Lib.hid (sgv.alloc2 X (.cells #[str PE, str S1, str S2] 9) (.cells #[.int .i64 1, .int .i64 f, .int .i64 0, .int .i64 0, (.slice (some ⟨X.heap.size, 0, none⟩) 3 3), .string ⟨#[]⟩, .string ⟨#[]⟩] 24)).2
    have HS := Lib.hid (al2 HR.out (.cells #[str PE, str S1, str S2] 9) (.cells #[.int .i64 1, .int .i64 f, .int .i64 0, .int .i64 0, (.slice (some ⟨X.heap.size, 0, none⟩) 3 3), .string ⟨#[]⟩, .string ⟨#[]⟩] 24))
    generalize hWW : (X.alloc (.cells #[str PE, str S1, str S2] 9)).alloc (.cells #[.int .i64 1, .int .i64 f, .int .i64 0, .int .i64 0, (.slice (some ⟨X.heap.size, 0, none⟩) 3 3), .string ⟨#[]⟩, .string ⟨#[]⟩] 24) = WW
    rw [hWW] at R3 L7 HS
    clear hWW m0 m1 m2 m3 m4
    refine wp_region_any (by kernel_rfl) ?_
    change wpAny _ _ _ _ _ _ _ (World.drew _)
    refine wpAny_take (i := 5) (v := str C3) rfl (by kernel_rfl) (by kernel_rfl) (by kernel_rfl) (fun _ _ _ h => h) (Or.inl ⟨by kernel_rfl, ?_⟩) ?_
    · intro w; go_simp; first | done | with_reducible rfl | rfl
    refine relist (l' := #[false, false, false, false, false, true, false, false]) (by kernel_rfl) ?_
    refine split (α := (Option Addr × Nat × Nat)) #[true, true, true, true, true, true, true, false] (fun P => { tmps := #[Value.pointer (some { block := p0, off := 0 }), Value.pointer (some { block := p1, off := 0 }), Value.pointer (some { block := p2, off := 0 }), Value.pointer (some { block := p3, off := 0 }), Value.pointer (some { block := p4, off := 0 }), Value.pointer (some { block := w.heap.size, off := 0 }), str PE, str C1, Value.func (Fn.func 57) #[str C2] #[], str C2, str C3, Value.func (Fn.func 57) #[str C3] #[], str S1, str S2, Value.pointer (some { block := X.heap.size + 1, off := 0 }), str me, str lock, str eph, str stamp, Value.slice (some { block := w.heap.size + 1, off := 0 }) 4 4, Value.tuple #[], Value.int IntKind.i64 f, Value.bool true, Value.bool true, str me, Value.bool true, Value.bool true, Value.bool true, str lock, Value.bool true, Value.bool true, Value.bool true, str eph, Value.bool true, Value.bool true, Value.bool true, str stamp, Value.bool true, Value.bool true, Value.tuple #[], str eph, Value.slice (some { block := w7.heap.size, off := 0 }) 1 1, str PE, Value.tuple #[str C1, Value.func (Fn.func 57) #[str C1] #[]], str lock, str H0, str PE, Value.tuple #[str C1, Value.func (Fn.func 57) #[str C1] #[]], str C1, Value.func (Fn.func 57) #[str C1] #[], Value.tuple #[str C2, Value.func (Fn.func 57) #[str C2] #[]], Value.func (Fn.func 57) #[str C1] #[], str eph, str lock, str D1, Value.tuple #[str C2, Value.func (Fn.func 57) #[str C2] #[]], str C2, Value.func (Fn.func 57) #[str C2] #[], Value.tuple #[str C3, Value.func (Fn.func 57) #[str C3] #[]], Value.func (Fn.func 57) #[str C2] #[], str me, str lock, str D2, Value.tuple #[str C3, Value.func (Fn.func 57) #[str C3] #[]], str C3, Value.func (Fn.func 57) #[str C3] #[], str C2, str me, Value.slice (some { block := O.fst, off := 0 }) 1 1, str PM, Value.slice (some { block := O.snd.fst, off := 0 }) 2 2, str S1, str C3, str stamp, Value.slice (some { block := O.snd.snd, off := 0 }) 2 2, str S2, Value.int IntKind.i64 f, str PE, str S1, str S2, Value.slice (some { block := X.heap.size, off := 0 }) 3 3, Value.agg #[Value.int IntKind.i64 1, Value.int IntKind.i64 f, Value.int IntKind.i64 0, Value.int IntKind.i64 0, Value.slice (some { block := X.heap.size, off := 0 }) 3 3, Value.string { data := #[] }, Value.string { data := #[] }], .agg #[.int .i64 1, .int .i64 f, .int .i64 0, .int .i64 0, (.slice (some ⟨X.heap.size, 0, none⟩) 3 3), .string ⟨#[]⟩, .string ⟨#[]⟩], str lock, .agg #[.int .i64 k', .int .i64 f', .int .i64 t', .int .i64 c', .slice P.1 P.2.1 P.2.2, str a', str b'], str eph, str eph, str C3, .agg #[.int .i64 k', .int .i64 f', .int .i64 t', .int .i64 c', .slice P.1 P.2.1 P.2.2, str a', str b', .string ⟨#[]⟩, .string ⟨#[]⟩, str eph, str C3, .string ⟨#[]⟩, .string ⟨#[]⟩, .string ⟨#[]⟩, .int .i64 0]], defers := [] }) 1 (fun Y P => Below WW.heap.size WW Y ∧ Wrs Y WW.heap.size (.slice P.1 P.2.1 P.2.2) ps ∧ True) ?_ (fun T0_1_2_3_4 => ?_)
    · rintro Y P ⟨hX, h2, hT⟩
      clear hT
      obtain ⟨m0, m1, m2, m3, m4⟩ := KA.out _ (base BW.out (base HS.out hX))
      obtain ⟨l0, l1, l2, l3, l4, l5, l6, lz, lf⟩ := hms.seven (keptB L7.out hX)
      have HX := Lib.hid hX
      have H2 := Lib.hid h2
      clear hX h2
      refine wpAny_ready (rs := [7]) (by kernel_rfl) (by simp) ?_
      refine AllReady.cons rfl (fun K hK => ?_) AllReady.nil
      have hbY := base HS.out HX.out
      obtain ⟨e0, e1, e2, e3, e4, e5, e6, e7, e8, e9, e10, e11, e12, e13, e14, ez, ef⟩ := fifteen (keptB X0.out hbY)
      have HWr := Lib.hid H2.out
      go_simp
      refine hK _ _ ?_
      clear hK K
      refine wpAny_done (by kernel_rfl) ?_ _
      go_wp2_with fail
      generalize hW : World.setCell _ _ _ = W'
      have hXX : W'.heap[w.heap.size]? = some (.cells #[.int .i64 k', .int .i64 f', .int .i64 t', .int .i64 c', .slice P.1 P.2.1 P.2.2, str a', str b', .string ⟨#[]⟩, .string ⟨#[]⟩, str eph, str C3, .string ⟨#[]⟩, .string ⟨#[]⟩, .string ⟨#[]⟩, .int .i64 0] 28 (0, 0)) := by rw [← hW]; exact put15 (keptB X0.out hbY) _ _ _ _ _ _ _ _ _ _ _ _ _ _ _
      have hKK : Below w.heap.size w W' := by rw [← hW]; exact set15 (base BW.out hbY) (Nat.le_refl _) _ _ _ _ _ _ _ _ _ _ _ _ _ _ _
      have hRR : Wrs W' w.heap.size (.slice P.1 P.2.1 P.2.2) ps := by rw [← hW]; exact wset15 HWr.out (by have := HS.out.size; simp at this; omega) (by have := HS.out.size; simp at this; omega) _ _ _ _ _ _ _ _ _ _ _ _ _ _ _
      clear hW e0 e1 e2 e3 e4 e5 e6 e7 e8 e9 e10 e11 e12 e13 e14 ez ef
      obtain ⟨g0, g1, g2, g3, g4, g5, g6, g7, g8, g9, g10, g11, g12, g13, g14, gz, gf⟩ := fifteen hXX
      refine bodyPost_ret (v := .agg #[.int .i64 k', .int .i64 f', .int .i64 t', .int .i64 c', .slice P.1 P.2.1 P.2.2, str a', str b', .string ⟨#[]⟩, .string ⟨#[]⟩, str eph, str C3, .string ⟨#[]⟩, .string ⟨#[]⟩, .string ⟨#[]⟩, .int .i64 0]) (by simp [results, Tryz.results48, go_sem, g0, g1, g2, g3, g4, g5, g6, g7, g8, g9, g10, g11, g12, g13, g14]) rfl ?_
      exact ⟨_, rfl, hKK, hRR⟩
    refine split (α := (Option Addr × Nat × Nat)) #[true, true, true, true, false, true, false, false] (fun P => { tmps := #[Value.pointer (some { block := p0, off := 0 }), Value.pointer (some { block := p1, off := 0 }), Value.pointer (some { block := p2, off := 0 }), Value.pointer (some { block := p3, off := 0 }), Value.pointer (some { block := p4, off := 0 }), Value.pointer (some { block := w.heap.size, off := 0 }), str PE, str C1, Value.func (Fn.func 57) #[str C2] #[], str C2, str C3, Value.func (Fn.func 57) #[str C3] #[], str S1, str S2, Value.pointer (some { block := X.heap.size + 1, off := 0 }), str me, str lock, str eph, str stamp, Value.slice (some { block := w.heap.size + 1, off := 0 }) 4 4, Value.tuple #[], Value.int IntKind.i64 f, Value.bool true, Value.bool true, str me, Value.bool true, Value.bool true, Value.bool true, str lock, Value.bool true, Value.bool true, Value.bool true, str eph, Value.bool true, Value.bool true, Value.bool true, str stamp, Value.bool true, Value.bool true, Value.tuple #[], str eph, Value.slice (some { block := w7.heap.size, off := 0 }) 1 1, str PE, Value.tuple #[str C1, Value.func (Fn.func 57) #[str C1] #[]], str lock, str H0, str PE, Value.tuple #[str C1, Value.func (Fn.func 57) #[str C1] #[]], str C1, Value.func (Fn.func 57) #[str C1] #[], Value.tuple #[str C2, Value.func (Fn.func 57) #[str C2] #[]], Value.func (Fn.func 57) #[str C1] #[], str eph, str lock, str D1, Value.tuple #[str C2, Value.func (Fn.func 57) #[str C2] #[]], str C2, Value.func (Fn.func 57) #[str C2] #[], Value.tuple #[str C3, Value.func (Fn.func 57) #[str C3] #[]], Value.func (Fn.func 57) #[str C2] #[], str me, str lock, str D2, Value.tuple #[str C3, Value.func (Fn.func 57) #[str C3] #[]], str C3, Value.func (Fn.func 57) #[str C3] #[], str C2, str me, Value.slice (some { block := O.fst, off := 0 }) 1 1, str PM, Value.slice (some { block := O.snd.fst, off := 0 }) 2 2, str S1, str C3, str stamp, Value.slice (some { block := O.snd.snd, off := 0 }) 2 2, str S2, Value.int IntKind.i64 f, str PE, str S1, str S2, Value.slice (some { block := X.heap.size, off := 0 }) 3 3, Value.agg #[Value.int IntKind.i64 1, Value.int IntKind.i64 f, Value.int IntKind.i64 0, Value.int IntKind.i64 0, Value.slice (some { block := X.heap.size, off := 0 }) 3 3, Value.string { data := #[] }, Value.string { data := #[] }], .agg #[.int .i64 1, .int .i64 f, .int .i64 0, .int .i64 0, (.slice (some ⟨X.heap.size, 0, none⟩) 3 3), .string ⟨#[]⟩, .string ⟨#[]⟩], str lock, .agg #[.int .i64 k', .int .i64 f', .int .i64 t', .int .i64 c', .slice P.1 P.2.1 P.2.2, str a', str b'], str eph, undef, str C3, undef], defers := [] }) 3 (fun Y P => Below WW.heap.size WW Y ∧ Wrs Y WW.heap.size (.slice P.1 P.2.1 P.2.2) ps ∧ True) ?_ (fun T0_1_2_3 => ?_)
    · rintro Y P ⟨hX, h2, hT⟩
      clear hT
      obtain ⟨m0, m1, m2, m3, m4⟩ := KA.out _ (base BW.out (base HS.out hX))
      obtain ⟨l0, l1, l2, l3, l4, l5, l6, lz, lf⟩ := hms.seven (keptB L7.out hX)
      have HX := Lib.hid hX
      have H2 := Lib.hid h2
      clear hX h2
      refine wpAny_ready (rs := [4]) (by kernel_rfl) (by simp) ?_
      refine AllReady.cons rfl (fun K hK => ?_) AllReady.nil
      go_simp
      refine (CLH.out _).mono ?_
      rintro e x1 ⟨rfl, hb⟩
      refine hK _ _ ?_
      clear hK K
      refine wpAny_take (i := 6) (v := .agg #[.int .i64 k', .int .i64 f', .int .i64 t', .int .i64 c', .slice P.1 P.2.1 P.2.2, str a', str b', .string ⟨#[]⟩, .string ⟨#[]⟩, str eph, str C3, .string ⟨#[]⟩, .string ⟨#[]⟩, .string ⟨#[]⟩, .int .i64 0]) rfl (by kernel_rfl) (by kernel_rfl) (by kernel_rfl) (fun _ _ _ h => h) (Or.inl ⟨by kernel_rfl, ?_⟩) ?_
      · intro w; go_simp; first | done | with_reducible rfl | rfl
      refine relist (l' := #[true, true, true, true, true, true, true, false]) (by kernel_rfl) ?_
      exact T0_1_2_3_4 _ P ⟨(base HX.out hb), (sgv.Wrs.below H2.out hb), True.intro⟩
    refine split (α := (Option Addr × Nat × Nat)) #[true, true, true, false, false, true, false, false] (fun P => { tmps := #[Value.pointer (some { block := p0, off := 0 }), Value.pointer (some { block := p1, off := 0 }), Value.pointer (some { block := p2, off := 0 }), Value.pointer (some { block := p3, off := 0 }), Value.pointer (some { block := p4, off := 0 }), Value.pointer (some { block := w.heap.size, off := 0 }), str PE, str C1, Value.func (Fn.func 57) #[str C2] #[], str C2, str C3, Value.func (Fn.func 57) #[str C3] #[], str S1, str S2, Value.pointer (some { block := X.heap.size + 1, off := 0 }), str me, str lock, str eph, str stamp, Value.slice (some { block := w.heap.size + 1, off := 0 }) 4 4, Value.tuple #[], Value.int IntKind.i64 f, Value.bool true, Value.bool true, str me, Value.bool true, Value.bool true, Value.bool true, str lock, Value.bool true, Value.bool true, Value.bool true, str eph, Value.bool true, Value.bool true, Value.bool true, str stamp, Value.bool true, Value.bool true, Value.tuple #[], str eph, Value.slice (some { block := w7.heap.size, off := 0 }) 1 1, str PE, Value.tuple #[str C1, Value.func (Fn.func 57) #[str C1] #[]], str lock, str H0, str PE, Value.tuple #[str C1, Value.func (Fn.func 57) #[str C1] #[]], str C1, Value.func (Fn.func 57) #[str C1] #[], Value.tuple #[str C2, Value.func (Fn.func 57) #[str C2] #[]], Value.func (Fn.func 57) #[str C1] #[], str eph, str lock, str D1, Value.tuple #[str C2, Value.func (Fn.func 57) #[str C2] #[]], str C2, Value.func (Fn.func 57) #[str C2] #[], Value.tuple #[str C3, Value.func (Fn.func 57) #[str C3] #[]], Value.func (Fn.func 57) #[str C2] #[], str me, str lock, str D2, Value.tuple #[str C3, Value.func (Fn.func 57) #[str C3] #[]], str C3, Value.func (Fn.func 57) #[str C3] #[], str C2, str me, Value.slice (some { block := O.fst, off := 0 }) 1 1, str PM, Value.slice (some { block := O.snd.fst, off := 0 }) 2 2, str S1, str C3, str stamp, Value.slice (some { block := O.snd.snd, off := 0 }) 2 2, str S2, Value.int IntKind.i64 f, str PE, str S1, str S2, Value.slice (some { block := X.heap.size, off := 0 }) 3 3, Value.agg #[Value.int IntKind.i64 1, Value.int IntKind.i64 f, Value.int IntKind.i64 0, Value.int IntKind.i64 0, Value.slice (some { block := X.heap.size, off := 0 }) 3 3, Value.string { data := #[] }, Value.string { data := #[] }], .agg #[.int .i64 1, .int .i64 f, .int .i64 0, .int .i64 0, (.slice (some ⟨X.heap.size, 0, none⟩) 3 3), .string ⟨#[]⟩, .string ⟨#[]⟩], str lock, .agg #[.int .i64 k', .int .i64 f', .int .i64 t', .int .i64 c', .slice P.1 P.2.1 P.2.2, str a', str b'], undef, undef, str C3, undef], defers := [] }) 4 (fun Y P => Below WW.heap.size WW Y ∧ Wrs Y WW.heap.size (.slice P.1 P.2.1 P.2.2) ps ∧ True) ?_ (fun T0_1_2 => ?_)
    · rintro Y P ⟨hX, h2, hT⟩
      clear hT
      obtain ⟨m0, m1, m2, m3, m4⟩ := KA.out _ (base BW.out (base HS.out hX))
      obtain ⟨l0, l1, l2, l3, l4, l5, l6, lz, lf⟩ := hms.seven (keptB L7.out hX)
      have HX := Lib.hid hX
      have H2 := Lib.hid h2
      clear hX h2
      refine wpAny_ready (rs := [3]) (by kernel_rfl) (by simp) ?_
      refine AllReady.cons rfl (fun K hK => ?_) AllReady.nil
      go_simp
      refine hK _ _ ?_
      clear hK K
      refine relist (l' := #[true, true, true, true, false, true, false, false]) (by kernel_rfl) ?_
      exact T0_1_2_3 _ P ⟨HX.out, H2.out, True.intro⟩
    refine split (α := (Option Addr × Nat × Nat)) #[true, true, false, true, false, true, false, false] (fun P => { tmps := #[Value.pointer (some { block := p0, off := 0 }), Value.pointer (some { block := p1, off := 0 }), Value.pointer (some { block := p2, off := 0 }), Value.pointer (some { block := p3, off := 0 }), Value.pointer (some { block := p4, off := 0 }), Value.pointer (some { block := w.heap.size, off := 0 }), str PE, str C1, Value.func (Fn.func 57) #[str C2] #[], str C2, str C3, Value.func (Fn.func 57) #[str C3] #[], str S1, str S2, Value.pointer (some { block := X.heap.size + 1, off := 0 }), str me, str lock, str eph, str stamp, Value.slice (some { block := w.heap.size + 1, off := 0 }) 4 4, Value.tuple #[], Value.int IntKind.i64 f, Value.bool true, Value.bool true, str me, Value.bool true, Value.bool true, Value.bool true, str lock, Value.bool true, Value.bool true, Value.bool true, str eph, Value.bool true, Value.bool true, Value.bool true, str stamp, Value.bool true, Value.bool true, Value.tuple #[], str eph, Value.slice (some { block := w7.heap.size, off := 0 }) 1 1, str PE, Value.tuple #[str C1, Value.func (Fn.func 57) #[str C1] #[]], str lock, str H0, str PE, Value.tuple #[str C1, Value.func (Fn.func 57) #[str C1] #[]], str C1, Value.func (Fn.func 57) #[str C1] #[], Value.tuple #[str C2, Value.func (Fn.func 57) #[str C2] #[]], Value.func (Fn.func 57) #[str C1] #[], str eph, str lock, str D1, Value.tuple #[str C2, Value.func (Fn.func 57) #[str C2] #[]], str C2, Value.func (Fn.func 57) #[str C2] #[], Value.tuple #[str C3, Value.func (Fn.func 57) #[str C3] #[]], Value.func (Fn.func 57) #[str C2] #[], str me, str lock, str D2, Value.tuple #[str C3, Value.func (Fn.func 57) #[str C3] #[]], str C3, Value.func (Fn.func 57) #[str C3] #[], str C2, str me, Value.slice (some { block := O.fst, off := 0 }) 1 1, str PM, Value.slice (some { block := O.snd.fst, off := 0 }) 2 2, str S1, str C3, str stamp, Value.slice (some { block := O.snd.snd, off := 0 }) 2 2, str S2, Value.int IntKind.i64 f, str PE, str S1, str S2, Value.slice (some { block := X.heap.size, off := 0 }) 3 3, Value.agg #[Value.int IntKind.i64 1, Value.int IntKind.i64 f, Value.int IntKind.i64 0, Value.int IntKind.i64 0, Value.slice (some { block := X.heap.size, off := 0 }) 3 3, Value.string { data := #[] }, Value.string { data := #[] }], .agg #[.int .i64 1, .int .i64 f, .int .i64 0, .int .i64 0, (.slice (some ⟨X.heap.size, 0, none⟩) 3 3), .string ⟨#[]⟩, .string ⟨#[]⟩], str lock, undef, str eph, undef, str C3, undef], defers := [] }) 4 (fun Y P => Below WW.heap.size WW Y ∧ True) ?_ (fun T0_1_3 => ?_)
    · rintro Y P ⟨hX, hT⟩
      clear hT
      obtain ⟨m0, m1, m2, m3, m4⟩ := KA.out _ (base BW.out (base HS.out hX))
      obtain ⟨l0, l1, l2, l3, l4, l5, l6, lz, lf⟩ := hms.seven (keptB L7.out hX)
      have HX := Lib.hid hX
      clear hX 
      refine wpAny_ready (rs := [2]) (by kernel_rfl) (by simp) ?_
      refine AllReady.cons rfl (fun K hK => ?_) AllReady.nil
      go_simp
      refine (SGYH.out _ _ (Rds.below R3.out HX.out)).mono ?_
      rintro e x1 ⟨au, nu, cu, rfl, hb, hw⟩
      refine hK _ _ ?_
      clear hK K
      refine relist (l' := #[true, true, true, true, false, true, false, false]) (by kernel_rfl) ?_
      exact T0_1_2_3 _ (au, nu, cu) ⟨(base HX.out hb), (sgv.Wrs.base hw HX.out.size), True.intro⟩
    refine split (α := (Option Addr × Nat × Nat)) #[true, true, false, false, false, true, false, false] (fun P => { tmps := #[Value.pointer (some { block := p0, off := 0 }), Value.pointer (some { block := p1, off := 0 }), Value.pointer (some { block := p2, off := 0 }), Value.pointer (some { block := p3, off := 0 }), Value.pointer (some { block := p4, off := 0 }), Value.pointer (some { block := w.heap.size, off := 0 }), str PE, str C1, Value.func (Fn.func 57) #[str C2] #[], str C2, str C3, Value.func (Fn.func 57) #[str C3] #[], str S1, str S2, Value.pointer (some { block := X.heap.size + 1, off := 0 }), str me, str lock, str eph, str stamp, Value.slice (some { block := w.heap.size + 1, off := 0 }) 4 4, Value.tuple #[], Value.int IntKind.i64 f, Value.bool true, Value.bool true, str me, Value.bool true, Value.bool true, Value.bool true, str lock, Value.bool true, Value.bool true, Value.bool true, str eph, Value.bool true, Value.bool true, Value.bool true, str stamp, Value.bool true, Value.bool true, Value.tuple #[], str eph, Value.slice (some { block := w7.heap.size, off := 0 }) 1 1, str PE, Value.tuple #[str C1, Value.func (Fn.func 57) #[str C1] #[]], str lock, str H0, str PE, Value.tuple #[str C1, Value.func (Fn.func 57) #[str C1] #[]], str C1, Value.func (Fn.func 57) #[str C1] #[], Value.tuple #[str C2, Value.func (Fn.func 57) #[str C2] #[]], Value.func (Fn.func 57) #[str C1] #[], str eph, str lock, str D1, Value.tuple #[str C2, Value.func (Fn.func 57) #[str C2] #[]], str C2, Value.func (Fn.func 57) #[str C2] #[], Value.tuple #[str C3, Value.func (Fn.func 57) #[str C3] #[]], Value.func (Fn.func 57) #[str C2] #[], str me, str lock, str D2, Value.tuple #[str C3, Value.func (Fn.func 57) #[str C3] #[]], str C3, Value.func (Fn.func 57) #[str C3] #[], str C2, str me, Value.slice (some { block := O.fst, off := 0 }) 1 1, str PM, Value.slice (some { block := O.snd.fst, off := 0 }) 2 2, str S1, str C3, str stamp, Value.slice (some { block := O.snd.snd, off := 0 }) 2 2, str S2, Value.int IntKind.i64 f, str PE, str S1, str S2, Value.slice (some { block := X.heap.size, off := 0 }) 3 3, Value.agg #[Value.int IntKind.i64 1, Value.int IntKind.i64 f, Value.int IntKind.i64 0, Value.int IntKind.i64 0, Value.slice (some { block := X.heap.size, off := 0 }) 3 3, Value.string { data := #[] }, Value.string { data := #[] }], .agg #[.int .i64 1, .int .i64 f, .int .i64 0, .int .i64 0, (.slice (some ⟨X.heap.size, 0, none⟩) 3 3), .string ⟨#[]⟩, .string ⟨#[]⟩], str lock, undef, undef, undef, str C3, undef], defers := [] }) 5 (fun Y P => Below WW.heap.size WW Y ∧ True) ?_ (fun T0_1 => ?_)
    · rintro Y P ⟨hX, hT⟩
      clear hT
      obtain ⟨m0, m1, m2, m3, m4⟩ := KA.out _ (base BW.out (base HS.out hX))
      obtain ⟨l0, l1, l2, l3, l4, l5, l6, lz, lf⟩ := hms.seven (keptB L7.out hX)
      have HX := Lib.hid hX
      clear hX 
      refine wpAny_ready (rs := [2, 3]) (by kernel_rfl) (by simp) ?_
      refine AllReady.cons rfl (fun K hK => ?_) (AllReady.cons rfl (fun K hK => ?_) AllReady.nil)
      · go_simp
        refine (SGYH.out _ _ (Rds.below R3.out HX.out)).mono ?_
        rintro e x1 ⟨au, nu, cu, rfl, hb, hw⟩
        refine hK _ _ ?_
        clear hK K
        refine relist (l' := #[true, true, true, false, false, true, false, false]) (by kernel_rfl) ?_
        exact T0_1_2 _ (au, nu, cu) ⟨(base HX.out hb), (sgv.Wrs.base hw HX.out.size), True.intro⟩
      · go_simp
        refine hK _ _ ?_
        clear hK K
        refine relist (l' := #[true, true, false, true, false, true, false, false]) (by kernel_rfl) ?_
        exact T0_1_3 _ P ⟨HX.out, True.intro⟩
    refine split (α := (Option Addr × Nat × Nat)) #[true, false, false, true, false, true, false, false] (fun P => { tmps := #[Value.pointer (some { block := p0, off := 0 }), Value.pointer (some { block := p1, off := 0 }), Value.pointer (some { block := p2, off := 0 }), Value.pointer (some { block := p3, off := 0 }), Value.pointer (some { block := p4, off := 0 }), Value.pointer (some { block := w.heap.size, off := 0 }), str PE, str C1, Value.func (Fn.func 57) #[str C2] #[], str C2, str C3, Value.func (Fn.func 57) #[str C3] #[], str S1, str S2, Value.pointer (some { block := X.heap.size + 1, off := 0 }), str me, str lock, str eph, str stamp, Value.slice (some { block := w.heap.size + 1, off := 0 }) 4 4, Value.tuple #[], Value.int IntKind.i64 f, Value.bool true, Value.bool true, str me, Value.bool true, Value.bool true, Value.bool true, str lock, Value.bool true, Value.bool true, Value.bool true, str eph, Value.bool true, Value.bool true, Value.bool true, str stamp, Value.bool true, Value.bool true, Value.tuple #[], str eph, Value.slice (some { block := w7.heap.size, off := 0 }) 1 1, str PE, Value.tuple #[str C1, Value.func (Fn.func 57) #[str C1] #[]], str lock, str H0, str PE, Value.tuple #[str C1, Value.func (Fn.func 57) #[str C1] #[]], str C1, Value.func (Fn.func 57) #[str C1] #[], Value.tuple #[str C2, Value.func (Fn.func 57) #[str C2] #[]], Value.func (Fn.func 57) #[str C1] #[], str eph, str lock, str D1, Value.tuple #[str C2, Value.func (Fn.func 57) #[str C2] #[]], str C2, Value.func (Fn.func 57) #[str C2] #[], Value.tuple #[str C3, Value.func (Fn.func 57) #[str C3] #[]], Value.func (Fn.func 57) #[str C2] #[], str me, str lock, str D2, Value.tuple #[str C3, Value.func (Fn.func 57) #[str C3] #[]], str C3, Value.func (Fn.func 57) #[str C3] #[], str C2, str me, Value.slice (some { block := O.fst, off := 0 }) 1 1, str PM, Value.slice (some { block := O.snd.fst, off := 0 }) 2 2, str S1, str C3, str stamp, Value.slice (some { block := O.snd.snd, off := 0 }) 2 2, str S2, Value.int IntKind.i64 f, str PE, str S1, str S2, Value.slice (some { block := X.heap.size, off := 0 }) 3 3, Value.agg #[Value.int IntKind.i64 1, Value.int IntKind.i64 f, Value.int IntKind.i64 0, Value.int IntKind.i64 0, Value.slice (some { block := X.heap.size, off := 0 }) 3 3, Value.string { data := #[] }, Value.string { data := #[] }], .agg #[.int .i64 1, .int .i64 f, .int .i64 0, .int .i64 0, (.slice (some ⟨X.heap.size, 0, none⟩) 3 3), .string ⟨#[]⟩, .string ⟨#[]⟩], undef, undef, str eph, undef, str C3, undef], defers := [] }) 5 (fun Y P => Below WW.heap.size WW Y ∧ True) ?_ (fun T0_3 => ?_)
    · rintro Y P ⟨hX, hT⟩
      clear hT
      obtain ⟨m0, m1, m2, m3, m4⟩ := KA.out _ (base BW.out (base HS.out hX))
      obtain ⟨l0, l1, l2, l3, l4, l5, l6, lz, lf⟩ := hms.seven (keptB L7.out hX)
      have HX := Lib.hid hX
      clear hX 
      refine wpAny_ready (rs := [1]) (by kernel_rfl) (by simp) ?_
      refine AllReady.cons rfl (fun K hK => ?_) AllReady.nil
      go_simp
      refine hK _ _ ?_
      clear hK K
      refine relist (l' := #[true, true, false, true, false, true, false, false]) (by kernel_rfl) ?_
      exact T0_1_3 _ P ⟨HX.out, True.intro⟩
    refine split (α := (Option Addr × Nat × Nat)) #[false, true, false, true, false, true, false, false] (fun P => { tmps := #[Value.pointer (some { block := p0, off := 0 }), Value.pointer (some { block := p1, off := 0 }), Value.pointer (some { block := p2, off := 0 }), Value.pointer (some { block := p3, off := 0 }), Value.pointer (some { block := p4, off := 0 }), Value.pointer (some { block := w.heap.size, off := 0 }), str PE, str C1, Value.func (Fn.func 57) #[str C2] #[], str C2, str C3, Value.func (Fn.func 57) #[str C3] #[], str S1, str S2, Value.pointer (some { block := X.heap.size + 1, off := 0 }), str me, str lock, str eph, str stamp, Value.slice (some { block := w.heap.size + 1, off := 0 }) 4 4, Value.tuple #[], Value.int IntKind.i64 f, Value.bool true, Value.bool true, str me, Value.bool true, Value.bool true, Value.bool true, str lock, Value.bool true, Value.bool true, Value.bool true, str eph, Value.bool true, Value.bool true, Value.bool true, str stamp, Value.bool true, Value.bool true, Value.tuple #[], str eph, Value.slice (some { block := w7.heap.size, off := 0 }) 1 1, str PE, Value.tuple #[str C1, Value.func (Fn.func 57) #[str C1] #[]], str lock, str H0, str PE, Value.tuple #[str C1, Value.func (Fn.func 57) #[str C1] #[]], str C1, Value.func (Fn.func 57) #[str C1] #[], Value.tuple #[str C2, Value.func (Fn.func 57) #[str C2] #[]], Value.func (Fn.func 57) #[str C1] #[], str eph, str lock, str D1, Value.tuple #[str C2, Value.func (Fn.func 57) #[str C2] #[]], str C2, Value.func (Fn.func 57) #[str C2] #[], Value.tuple #[str C3, Value.func (Fn.func 57) #[str C3] #[]], Value.func (Fn.func 57) #[str C2] #[], str me, str lock, str D2, Value.tuple #[str C3, Value.func (Fn.func 57) #[str C3] #[]], str C3, Value.func (Fn.func 57) #[str C3] #[], str C2, str me, Value.slice (some { block := O.fst, off := 0 }) 1 1, str PM, Value.slice (some { block := O.snd.fst, off := 0 }) 2 2, str S1, str C3, str stamp, Value.slice (some { block := O.snd.snd, off := 0 }) 2 2, str S2, Value.int IntKind.i64 f, str PE, str S1, str S2, Value.slice (some { block := X.heap.size, off := 0 }) 3 3, Value.agg #[Value.int IntKind.i64 1, Value.int IntKind.i64 f, Value.int IntKind.i64 0, Value.int IntKind.i64 0, Value.slice (some { block := X.heap.size, off := 0 }) 3 3, Value.string { data := #[] }, Value.string { data := #[] }], undef, str lock, undef, str eph, undef, str C3, undef], defers := [] }) 5 (fun Y P => Below WW.heap.size WW Y ∧ True) ?_ (fun T1_3 => ?_)
    · rintro Y P ⟨hX, hT⟩
      clear hT
      obtain ⟨m0, m1, m2, m3, m4⟩ := KA.out _ (base BW.out (base HS.out hX))
      obtain ⟨l0, l1, l2, l3, l4, l5, l6, lz, lf⟩ := hms.seven (keptB L7.out hX)
      have HX := Lib.hid hX
      clear hX 
      refine wpAny_ready (rs := [0]) (by kernel_rfl) (by simp) ?_
      refine AllReady.cons rfl (fun K hK => ?_) AllReady.nil
      go_simp
      refine hK _ _ ?_
      clear hK K
      refine relist (l' := #[true, true, false, true, false, true, false, false]) (by kernel_rfl) ?_
      exact T0_1_3 _ P ⟨HX.out, True.intro⟩
    refine split (α := (Option Addr × Nat × Nat)) #[true, false, false, false, false, true, false, false] (fun P => { tmps := #[Value.pointer (some { block := p0, off := 0 }), Value.pointer (some { block := p1, off := 0 }), Value.pointer (some { block := p2, off := 0 }), Value.pointer (some { block := p3, off := 0 }), Value.pointer (some { block := p4, off := 0 }), Value.pointer (some { block := w.heap.size, off := 0 }), str PE, str C1, Value.func (Fn.func 57) #[str C2] #[], str C2, str C3, Value.func (Fn.func 57) #[str C3] #[], str S1, str S2, Value.pointer (some { block := X.heap.size + 1, off := 0 }), str me, str lock, str eph, str stamp, Value.slice (some { block := w.heap.size + 1, off := 0 }) 4 4, Value.tuple #[], Value.int IntKind.i64 f, Value.bool true, Value.bool true, str me, Value.bool true, Value.bool true, Value.bool true, str lock, Value.bool true, Value.bool true, Value.bool true, str eph, Value.bool true, Value.bool true, Value.bool true, str stamp, Value.bool true, Value.bool true, Value.tuple #[], str eph, Value.slice (some { block := w7.heap.size, off := 0 }) 1 1, str PE, Value.tuple #[str C1, Value.func (Fn.func 57) #[str C1] #[]], str lock, str H0, str PE, Value.tuple #[str C1, Value.func (Fn.func 57) #[str C1] #[]], str C1, Value.func (Fn.func 57) #[str C1] #[], Value.tuple #[str C2, Value.func (Fn.func 57) #[str C2] #[]], Value.func (Fn.func 57) #[str C1] #[], str eph, str lock, str D1, Value.tuple #[str C2, Value.func (Fn.func 57) #[str C2] #[]], str C2, Value.func (Fn.func 57) #[str C2] #[], Value.tuple #[str C3, Value.func (Fn.func 57) #[str C3] #[]], Value.func (Fn.func 57) #[str C2] #[], str me, str lock, str D2, Value.tuple #[str C3, Value.func (Fn.func 57) #[str C3] #[]], str C3, Value.func (Fn.func 57) #[str C3] #[], str C2, str me, Value.slice (some { block := O.fst, off := 0 }) 1 1, str PM, Value.slice (some { block := O.snd.fst, off := 0 }) 2 2, str S1, str C3, str stamp, Value.slice (some { block := O.snd.snd, off := 0 }) 2 2, str S2, Value.int IntKind.i64 f, str PE, str S1, str S2, Value.slice (some { block := X.heap.size, off := 0 }) 3 3, Value.agg #[Value.int IntKind.i64 1, Value.int IntKind.i64 f, Value.int IntKind.i64 0, Value.int IntKind.i64 0, Value.slice (some { block := X.heap.size, off := 0 }) 3 3, Value.string { data := #[] }, Value.string { data := #[] }], .agg #[.int .i64 1, .int .i64 f, .int .i64 0, .int .i64 0, (.slice (some ⟨X.heap.size, 0, none⟩) 3 3), .string ⟨#[]⟩, .string ⟨#[]⟩], undef, undef, undef, undef, str C3, undef], defers := [] }) 6 (fun Y P => Below WW.heap.size WW Y ∧ True) ?_ (fun T0 => ?_)
    · rintro Y P ⟨hX, hT⟩
      clear hT
      obtain ⟨m0, m1, m2, m3, m4⟩ := KA.out _ (base BW.out (base HS.out hX))
      obtain ⟨l0, l1, l2, l3, l4, l5, l6, lz, lf⟩ := hms.seven (keptB L7.out hX)
      have HX := Lib.hid hX
      clear hX 
      refine wpAny_ready (rs := [1, 3]) (by kernel_rfl) (by simp) ?_
      refine AllReady.cons rfl (fun K hK => ?_) (AllReady.cons rfl (fun K hK => ?_) AllReady.nil)
      · go_simp
        refine hK _ _ ?_
        clear hK K
        refine relist (l' := #[true, true, false, false, false, true, false, false]) (by kernel_rfl) ?_
        exact T0_1 _ P ⟨HX.out, True.intro⟩
      · go_simp
        refine hK _ _ ?_
        clear hK K
        refine relist (l' := #[true, false, false, true, false, true, false, false]) (by kernel_rfl) ?_
        exact T0_3 _ P ⟨HX.out, True.intro⟩
    refine split (α := (Option Addr × Nat × Nat)) #[false, true, false, false, false, true, false, false] (fun P => { tmps := #[Value.pointer (some { block := p0, off := 0 }), Value.pointer (some { block := p1, off := 0 }), Value.pointer (some { block := p2, off := 0 }), Value.pointer (some { block := p3, off := 0 }), Value.pointer (some { block := p4, off := 0 }), Value.pointer (some { block := w.heap.size, off := 0 }), str PE, str C1, Value.func (Fn.func 57) #[str C2] #[], str C2, str C3, Value.func (Fn.func 57) #[str C3] #[], str S1, str S2, Value.pointer (some { block := X.heap.size + 1, off := 0 }), str me, str lock, str eph, str stamp, Value.slice (some { block := w.heap.size + 1, off := 0 }) 4 4, Value.tuple #[], Value.int IntKind.i64 f, Value.bool true, Value.bool true, str me, Value.bool true, Value.bool true, Value.bool true, str lock, Value.bool true, Value.bool true, Value.bool true, str eph, Value.bool true, Value.bool true, Value.bool true, str stamp, Value.bool true, Value.bool true, Value.tuple #[], str eph, Value.slice (some { block := w7.heap.size, off := 0 }) 1 1, str PE, Value.tuple #[str C1, Value.func (Fn.func 57) #[str C1] #[]], str lock, str H0, str PE, Value.tuple #[str C1, Value.func (Fn.func 57) #[str C1] #[]], str C1, Value.func (Fn.func 57) #[str C1] #[], Value.tuple #[str C2, Value.func (Fn.func 57) #[str C2] #[]], Value.func (Fn.func 57) #[str C1] #[], str eph, str lock, str D1, Value.tuple #[str C2, Value.func (Fn.func 57) #[str C2] #[]], str C2, Value.func (Fn.func 57) #[str C2] #[], Value.tuple #[str C3, Value.func (Fn.func 57) #[str C3] #[]], Value.func (Fn.func 57) #[str C2] #[], str me, str lock, str D2, Value.tuple #[str C3, Value.func (Fn.func 57) #[str C3] #[]], str C3, Value.func (Fn.func 57) #[str C3] #[], str C2, str me, Value.slice (some { block := O.fst, off := 0 }) 1 1, str PM, Value.slice (some { block := O.snd.fst, off := 0 }) 2 2, str S1, str C3, str stamp, Value.slice (some { block := O.snd.snd, off := 0 }) 2 2, str S2, Value.int IntKind.i64 f, str PE, str S1, str S2, Value.slice (some { block := X.heap.size, off := 0 }) 3 3, Value.agg #[Value.int IntKind.i64 1, Value.int IntKind.i64 f, Value.int IntKind.i64 0, Value.int IntKind.i64 0, Value.slice (some { block := X.heap.size, off := 0 }) 3 3, Value.string { data := #[] }, Value.string { data := #[] }], undef, str lock, undef, undef, undef, str C3, undef], defers := [] }) 6 (fun Y P => Below WW.heap.size WW Y ∧ True) ?_ (fun T1 => ?_)
    · rintro Y P ⟨hX, hT⟩
      clear hT
      obtain ⟨m0, m1, m2, m3, m4⟩ := KA.out _ (base BW.out (base HS.out hX))
      obtain ⟨l0, l1, l2, l3, l4, l5, l6, lz, lf⟩ := hms.seven (keptB L7.out hX)
      have HX := Lib.hid hX
      clear hX 
      refine wpAny_ready (rs := [0, 3]) (by kernel_rfl) (by simp) ?_
      refine AllReady.cons rfl (fun K hK => ?_) (AllReady.cons rfl (fun K hK => ?_) AllReady.nil)
      · go_simp
        refine hK _ _ ?_
        clear hK K
        refine relist (l' := #[true, true, false, false, false, true, false, false]) (by kernel_rfl) ?_
        exact T0_1 _ P ⟨HX.out, True.intro⟩
      · go_simp
        refine hK _ _ ?_
        clear hK K
        refine relist (l' := #[false, true, false, true, false, true, false, false]) (by kernel_rfl) ?_
        exact T1_3 _ P ⟨HX.out, True.intro⟩
    refine split (α := (Option Addr × Nat × Nat)) #[false, false, false, true, false, true, false, false] (fun P => { tmps := #[Value.pointer (some { block := p0, off := 0 }), Value.pointer (some { block := p1, off := 0 }), Value.pointer (some { block := p2, off := 0 }), Value.pointer (some { block := p3, off := 0 }), Value.pointer (some { block := p4, off := 0 }), Value.pointer (some { block := w.heap.size, off := 0 }), str PE, str C1, Value.func (Fn.func 57) #[str C2] #[], str C2, str C3, Value.func (Fn.func 57) #[str C3] #[], str S1, str S2, Value.pointer (some { block := X.heap.size + 1, off := 0 }), str me, str lock, str eph, str stamp, Value.slice (some { block := w.heap.size + 1, off := 0 }) 4 4, Value.tuple #[], Value.int IntKind.i64 f, Value.bool true, Value.bool true, str me, Value.bool true, Value.bool true, Value.bool true, str lock, Value.bool true, Value.bool true, Value.bool true, str eph, Value.bool true, Value.bool true, Value.bool true, str stamp, Value.bool true, Value.bool true, Value.tuple #[], str eph, Value.slice (some { block := w7.heap.size, off := 0 }) 1 1, str PE, Value.tuple #[str C1, Value.func (Fn.func 57) #[str C1] #[]], str lock, str H0, str PE, Value.tuple #[str C1, Value.func (Fn.func 57) #[str C1] #[]], str C1, Value.func (Fn.func 57) #[str C1] #[], Value.tuple #[str C2, Value.func (Fn.func 57) #[str C2] #[]], Value.func (Fn.func 57) #[str C1] #[], str eph, str lock, str D1, Value.tuple #[str C2, Value.func (Fn.func 57) #[str C2] #[]], str C2, Value.func (Fn.func 57) #[str C2] #[], Value.tuple #[str C3, Value.func (Fn.func 57) #[str C3] #[]], Value.func (Fn.func 57) #[str C2] #[], str me, str lock, str D2, Value.tuple #[str C3, Value.func (Fn.func 57) #[str C3] #[]], str C3, Value.func (Fn.func 57) #[str C3] #[], str C2, str me, Value.slice (some { block := O.fst, off := 0 }) 1 1, str PM, Value.slice (some { block := O.snd.fst, off := 0 }) 2 2, str S1, str C3, str stamp, Value.slice (some { block := O.snd.snd, off := 0 }) 2 2, str S2, Value.int IntKind.i64 f, str PE, str S1, str S2, Value.slice (some { block := X.heap.size, off := 0 }) 3 3, Value.agg #[Value.int IntKind.i64 1, Value.int IntKind.i64 f, Value.int IntKind.i64 0, Value.int IntKind.i64 0, Value.slice (some { block := X.heap.size, off := 0 }) 3 3, Value.string { data := #[] }, Value.string { data := #[] }], undef, undef, undef, str eph, undef, str C3, undef], defers := [] }) 6 (fun Y P => Below WW.heap.size WW Y ∧ True) ?_ (fun T3 => ?_)
    · rintro Y P ⟨hX, hT⟩
      clear hT
      obtain ⟨m0, m1, m2, m3, m4⟩ := KA.out _ (base BW.out (base HS.out hX))
      obtain ⟨l0, l1, l2, l3, l4, l5, l6, lz, lf⟩ := hms.seven (keptB L7.out hX)
      have HX := Lib.hid hX
      clear hX 
      refine wpAny_ready (rs := [0, 1]) (by kernel_rfl) (by simp) ?_
      refine AllReady.cons rfl (fun K hK => ?_) (AllReady.cons rfl (fun K hK => ?_) AllReady.nil)
      · go_simp
        refine hK _ _ ?_
        clear hK K
        refine relist (l' := #[true, false, false, true, false, true, false, false]) (by kernel_rfl) ?_
        exact T0_3 _ P ⟨HX.out, True.intro⟩
      · go_simp
        refine hK _ _ ?_
        clear hK K
        refine relist (l' := #[false, true, false, true, false, true, false, false]) (by kernel_rfl) ?_
        exact T1_3 _ P ⟨HX.out, True.intro⟩
    refine split (α := (Option Addr × Nat × Nat)) #[false, false, false, false, false, true, false, false] (fun P => { tmps := #[Value.pointer (some { block := p0, off := 0 }), Value.pointer (some { block := p1, off := 0 }), Value.pointer (some { block := p2, off := 0 }), Value.pointer (some { block := p3, off := 0 }), Value.pointer (some { block := p4, off := 0 }), Value.pointer (some { block := w.heap.size, off := 0 }), str PE, str C1, Value.func (Fn.func 57) #[str C2] #[], str C2, str C3, Value.func (Fn.func 57) #[str C3] #[], str S1, str S2, Value.pointer (some { block := X.heap.size + 1, off := 0 }), str me, str lock, str eph, str stamp, Value.slice (some { block := w.heap.size + 1, off := 0 }) 4 4, Value.tuple #[], Value.int IntKind.i64 f, Value.bool true, Value.bool true, str me, Value.bool true, Value.bool true, Value.bool true, str lock, Value.bool true, Value.bool true, Value.bool true, str eph, Value.bool true, Value.bool true, Value.bool true, str stamp, Value.bool true, Value.bool true, Value.tuple #[], str eph, Value.slice (some { block := w7.heap.size, off := 0 }) 1 1, str PE, Value.tuple #[str C1, Value.func (Fn.func 57) #[str C1] #[]], str lock, str H0, str PE, Value.tuple #[str C1, Value.func (Fn.func 57) #[str C1] #[]], str C1, Value.func (Fn.func 57) #[str C1] #[], Value.tuple #[str C2, Value.func (Fn.func 57) #[str C2] #[]], Value.func (Fn.func 57) #[str C1] #[], str eph, str lock, str D1, Value.tuple #[str C2, Value.func (Fn.func 57) #[str C2] #[]], str C2, Value.func (Fn.func 57) #[str C2] #[], Value.tuple #[str C3, Value.func (Fn.func 57) #[str C3] #[]], Value.func (Fn.func 57) #[str C2] #[], str me, str lock, str D2, Value.tuple #[str C3, Value.func (Fn.func 57) #[str C3] #[]], str C3, Value.func (Fn.func 57) #[str C3] #[], str C2, str me, Value.slice (some { block := O.fst, off := 0 }) 1 1, str PM, Value.slice (some { block := O.snd.fst, off := 0 }) 2 2, str S1, str C3, str stamp, Value.slice (some { block := O.snd.snd, off := 0 }) 2 2, str S2, Value.int IntKind.i64 f, str PE, str S1, str S2, Value.slice (some { block := X.heap.size, off := 0 }) 3 3, Value.agg #[Value.int IntKind.i64 1, Value.int IntKind.i64 f, Value.int IntKind.i64 0, Value.int IntKind.i64 0, Value.slice (some { block := X.heap.size, off := 0 }) 3 3, Value.string { data := #[] }, Value.string { data := #[] }], undef, undef, undef, undef, undef, str C3, undef], defers := [] }) 7 (fun Y P => Below WW.heap.size WW Y ∧ True) ?_ (fun T0 => ?_)
    · rintro Y P ⟨hX, hT⟩
      clear hT
      obtain ⟨m0, m1, m2, m3, m4⟩ := KA.out _ (base BW.out (base HS.out hX))
      obtain ⟨l0, l1, l2, l3, l4, l5, l6, lz, lf⟩ := hms.seven (keptB L7.out hX)
      have HX := Lib.hid hX
      clear hX 
      refine wpAny_ready (rs := [0, 1, 3]) (by kernel_rfl) (by simp) ?_
      refine AllReady.cons rfl (fun K hK => ?_) (AllReady.cons rfl (fun K hK => ?_) (AllReady.cons rfl (fun K hK => ?_) AllReady.nil))
      · go_simp
        refine hK _ _ ?_
        clear hK K
        refine relist (l' := #[true, false, false, false, false, true, false, false]) (by kernel_rfl) ?_
        exact T0 _ P ⟨HX.out, True.intro⟩
      · go_simp
        refine hK _ _ ?_
        clear hK K
        refine relist (l' := #[false, true, false, false, false, true, false, false]) (by kernel_rfl) ?_
        exact T1 _ P ⟨HX.out, True.intro⟩
      · go_simp
        refine hK _ _ ?_
        clear hK K
        refine relist (l' := #[false, false, false, true, false, true, false, false]) (by kernel_rfl) ?_
        exact T3 _ P ⟨HX.out, True.intro⟩
    exact T0 _ (none, 0, 0) ⟨(rdr.Still.drewN WW 1).below _, True.intro⟩
  refine split (α := Nat × Nat × Nat) #[true, true, true, true, true, true, true, true, true, false, false, false] (fun O => { tmps := #[Value.pointer (some { block := p0, off := 0 }), Value.pointer (some { block := p1, off := 0 }), Value.pointer (some { block := p2, off := 0 }), Value.pointer (some { block := p3, off := 0 }), Value.pointer (some { block := p4, off := 0 }), Value.pointer (some { block := w.heap.size, off := 0 }), str PE, str C1, Value.func (Fn.func 57) #[str C2] #[], str C2, str C3, Value.func (Fn.func 57) #[str C3] #[], undef, undef, undef, str me, str lock, str eph, str stamp, Value.slice (some { block := w.heap.size + 1, off := 0 }) 4 4, Value.tuple #[], Value.int IntKind.i64 f, Value.bool true, Value.bool true, str me, Value.bool true, Value.bool true, Value.bool true, str lock, Value.bool true, Value.bool true, Value.bool true, str eph, Value.bool true, Value.bool true, Value.bool true, str stamp, Value.bool true, Value.bool true, Value.tuple #[], str eph, Value.slice (some { block := w7.heap.size, off := 0 }) 1 1, str PE, Value.tuple #[str C1, Value.func (Fn.func 57) #[str C1] #[]], str lock, str H0, str PE, Value.tuple #[str C1, Value.func (Fn.func 57) #[str C1] #[]], str C1, Value.func (Fn.func 57) #[str C1] #[], Value.tuple #[str C2, Value.func (Fn.func 57) #[str C2] #[]], Value.func (Fn.func 57) #[str C1] #[], str eph, str lock, str D1, Value.tuple #[str C2, Value.func (Fn.func 57) #[str C2] #[]], str C2, Value.func (Fn.func 57) #[str C2] #[], Value.tuple #[str C3, Value.func (Fn.func 57) #[str C3] #[]], Value.func (Fn.func 57) #[str C2] #[], str me, str lock, str D2, Value.tuple #[str C3, Value.func (Fn.func 57) #[str C3] #[]], str C3, Value.func (Fn.func 57) #[str C3] #[], str C2, str me, .slice (some ⟨O.1, 0, none⟩) 1 1, str PM, .slice (some ⟨O.2.1, 0, none⟩) 2 2, str S1, str C3, str stamp, .slice (some ⟨O.2.2, 0, none⟩) 2 2, undef, undef, undef, undef, undef, undef, undef, undef, undef, undef, undef, undef, undef, undef], defers := [] }) 3 (fun X O => Below w14.heap.size w14 X ∧ (X.heap[O.1]? = some (.cells #[str me] 9 (0, 0)) ∧ w14.heap.size ≤ O.1) ∧ (X.heap[O.2.1]? = some (.cells #[str C2, str PM] 9 (0, 0)) ∧ w14.heap.size ≤ O.2.1) ∧ (X.heap[O.2.2]? = some (.cells #[str C3, str stamp] 9 (0, 0)) ∧ w14.heap.size ≤ O.2.2) ∧ True) ?_ (fun T1_2_3_4_5_7_8 => ?_)
  · rintro X O ⟨hX, h2, h4, h8, hT⟩
    clear hT
    obtain ⟨m0, m1, m2, m3, m4⟩ := KA.out _ (base BW.out (base HB14.out hX))
    have HX := Lib.hid hX
    have H2 := Lib.hid h2
    have H4 := Lib.hid h4
    have H8 := Lib.hid h8
    clear hX h2 h4 h8
    refine wpAny_ready (rs := [9]) (by kernel_rfl) (by simp) ?_
    refine AllReady.cons rfl (fun K hK => ?_) AllReady.nil
    go_simp
    refine (SBH.out _ _ (rdr.two H8.out.1).1 (rdr.two H8.out.1).2.1 (rdr.two H8.out.1).2.2.2.2).mono ?_
    rintro e x1 ⟨rfl, hb⟩
    refine hK _ _ ?_
    clear hK K
    refine wpAny_take (i := 10) (v := str S1) rfl (by kernel_rfl) (by kernel_rfl) (by kernel_rfl) (fun _ _ _ h => h) (Or.inl ⟨by kernel_rfl, ?_⟩) ?_
    · intro w; go_simp; first | done | with_reducible rfl | rfl
    refine wpAny_take (i := 11) (v := str S2) rfl (by kernel_rfl) (by kernel_rfl) (by kernel_rfl) (fun _ _ _ h => h) (Or.inl ⟨by kernel_rfl, ?_⟩) ?_
    · intro w; go_simp; first | done | with_reducible rfl | rfl
    refine relist (l' := #[true, true, true, true, true, true, true, true, true, true, true, true]) (by kernel_rfl) ?_
    exact T1_2_3_4_5_7_8_9 _ (O.1, O.2.1, O.2.2) ⟨(base HX.out hb), ⟨keptB H2.out.1 hb, H2.out.2⟩, ⟨keptB H4.out.1 hb, H4.out.2⟩, ⟨keptB H8.out.1 hb, H8.out.2⟩, True.intro⟩
  refine split (α := Nat × Nat × Nat) #[true, true, true, true, true, true, true, true, false, false, false, false] (fun O => { tmps := #[Value.pointer (some { block := p0, off := 0 }), Value.pointer (some { block := p1, off := 0 }), Value.pointer (some { block := p2, off := 0 }), Value.pointer (some { block := p3, off := 0 }), Value.pointer (some { block := p4, off := 0 }), Value.pointer (some { block := w.heap.size, off := 0 }), str PE, str C1, Value.func (Fn.func 57) #[str C2] #[], str C2, str C3, Value.func (Fn.func 57) #[str C3] #[], undef, undef, undef, str me, str lock, str eph, str stamp, Value.slice (some { block := w.heap.size + 1, off := 0 }) 4 4, Value.tuple #[], Value.int IntKind.i64 f, Value.bool true, Value.bool true, str me, Value.bool true, Value.bool true, Value.bool true, str lock, Value.bool true, Value.bool true, Value.bool true, str eph, Value.bool true, Value.bool true, Value.bool true, str stamp, Value.bool true, Value.bool true, Value.tuple #[], str eph, Value.slice (some { block := w7.heap.size, off := 0 }) 1 1, str PE, Value.tuple #[str C1, Value.func (Fn.func 57) #[str C1] #[]], str lock, str H0, str PE, Value.tuple #[str C1, Value.func (Fn.func 57) #[str C1] #[]], str C1, Value.func (Fn.func 57) #[str C1] #[], Value.tuple #[str C2, Value.func (Fn.func 57) #[str C2] #[]], Value.func (Fn.func 57) #[str C1] #[], str eph, str lock, str D1, Value.tuple #[str C2, Value.func (Fn.func 57) #[str C2] #[]], str C2, Value.func (Fn.func 57) #[str C2] #[], Value.tuple #[str C3, Value.func (Fn.func 57) #[str C3] #[]], Value.func (Fn.func 57) #[str C2] #[], str me, str lock, str D2, Value.tuple #[str C3, Value.func (Fn.func 57) #[str C3] #[]], str C3, Value.func (Fn.func 57) #[str C3] #[], str C2, str me, .slice (some ⟨O.1, 0, none⟩) 1 1, str PM, .slice (some ⟨O.2.1, 0, none⟩) 2 2, str S1, str C3, str stamp, undef, undef, undef, undef, undef, undef, undef, undef, undef, undef, undef, undef, undef, undef, undef], defers := [] }) 4 (fun X O => Below w14.heap.size w14 X ∧ (X.heap[O.1]? = some (.cells #[str me] 9 (0, 0)) ∧ w14.heap.size ≤ O.1) ∧ (X.heap[O.2.1]? = some (.cells #[str C2, str PM] 9 (0, 0)) ∧ w14.heap.size ≤ O.2.1) ∧ True) ?_ (fun T1_2_3_4_5_7 => ?_)
  · rintro X O ⟨hX, h2, h4, hT⟩
    clear hT
    obtain ⟨m0, m1, m2, m3, m4⟩ := KA.out _ (base BW.out (base HB14.out hX))
    have HX := Lib.hid hX
    have H2 := Lib.hid h2
    have H4 := Lib.hid h4
    clear hX h2 h4
    refine wpAny_ready (rs := [8]) (by kernel_rfl) (by simp) ?_
    refine AllReady.cons rfl (fun K hK => ?_) AllReady.nil
    go_simp
    refine hK _ _ ?_
    clear hK K
    refine relist (l' := #[true, true, true, true, true, true, true, true, true, false, false, false]) (by kernel_rfl) ?_
    exact T1_2_3_4_5_7_8 _ (O.1, O.2.1, X.heap.size) ⟨(al1 HX.out (.cells #[str C3, str stamp] 9)), ⟨keptA H2.out.1 (.cells #[str C3, str stamp] 9), H2.out.2⟩, ⟨keptA H4.out.1 (.cells #[str C3, str stamp] 9), H4.out.2⟩, ⟨heap_alloc_new X (.cells #[str C3, str stamp] 9), HX.out.size⟩, True.intro⟩
  refine split (α := Nat × Nat × Nat) #[true, true, true, true, true, false, true, true, true, false, false, false] (fun O => { tmps := #[Value.pointer (some { block := p0, off := 0 }), Value.pointer (some { block := p1, off := 0 }), Value.pointer (some { block := p2, off := 0 }), Value.pointer (some { block := p3, off := 0 }), Value.pointer (some { block := p4, off := 0 }), Value.pointer (some { block := w.heap.size, off := 0 }), str PE, str C1, Value.func (Fn.func 57) #[str C2] #[], str C2, str C3, Value.func (Fn.func 57) #[str C3] #[], undef, undef, undef, str me, str lock, str eph, str stamp, Value.slice (some { block := w.heap.size + 1, off := 0 }) 4 4, Value.tuple #[], Value.int IntKind.i64 f, Value.bool true, Value.bool true, str me, Value.bool true, Value.bool true, Value.bool true, str lock, Value.bool true, Value.bool true, Value.bool true, str eph, Value.bool true, Value.bool true, Value.bool true, str stamp, Value.bool true, Value.bool true, Value.tuple #[], str eph, Value.slice (some { block := w7.heap.size, off := 0 }) 1 1, str PE, Value.tuple #[str C1, Value.func (Fn.func 57) #[str C1] #[]], str lock, str H0, str PE, Value.tuple #[str C1, Value.func (Fn.func 57) #[str C1] #[]], str C1, Value.func (Fn.func 57) #[str C1] #[], Value.tuple #[str C2, Value.func (Fn.func 57) #[str C2] #[]], Value.func (Fn.func 57) #[str C1] #[], str eph, str lock, str D1, Value.tuple #[str C2, Value.func (Fn.func 57) #[str C2] #[]], str C2, Value.func (Fn.func 57) #[str C2] #[], Value.tuple #[str C3, Value.func (Fn.func 57) #[str C3] #[]], Value.func (Fn.func 57) #[str C2] #[], str me, str lock, str D2, Value.tuple #[str C3, Value.func (Fn.func 57) #[str C3] #[]], str C3, Value.func (Fn.func 57) #[str C3] #[], str C2, str me, .slice (some ⟨O.1, 0, none⟩) 1 1, str PM, .slice (some ⟨O.2.1, 0, none⟩) 2 2, undef, str C3, str stamp, .slice (some ⟨O.2.2, 0, none⟩) 2 2, undef, undef, undef, undef, undef, undef, undef, undef, undef, undef, undef, undef, undef, undef], defers := [] }) 4 (fun X O => Below w14.heap.size w14 X ∧ (X.heap[O.1]? = some (.cells #[str me] 9 (0, 0)) ∧ w14.heap.size ≤ O.1) ∧ (X.heap[O.2.1]? = some (.cells #[str C2, str PM] 9 (0, 0)) ∧ w14.heap.size ≤ O.2.1) ∧ (X.heap[O.2.2]? = some (.cells #[str C3, str stamp] 9 (0, 0)) ∧ w14.heap.size ≤ O.2.2) ∧ True) ?_ (fun T1_2_3_4_7_8 => ?_)
  · rintro X O ⟨hX, h2, h4, h8, hT⟩
    clear hT
    obtain ⟨m0, m1, m2, m3, m4⟩ := KA.out _ (base BW.out (base HB14.out hX))
    have HX := Lib.hid hX
    have H2 := Lib.hid h2
    have H4 := Lib.hid h4
    have H8 := Lib.hid h8
    clear hX h2 h4 h8
    refine wpAny_ready (rs := [5]) (by kernel_rfl) (by simp) ?_
    refine AllReady.cons rfl (fun K hK => ?_) AllReady.nil
    go_simp
    refine (SAH.out _ _ (rdr.two H4.out.1).1 (rdr.two H4.out.1).2.1 (rdr.two H4.out.1).2.2.2.2).mono ?_
    rintro e x1 ⟨rfl, hb⟩
    refine hK _ _ ?_
    clear hK K
    refine relist (l' := #[true, true, true, true, true, true, true, true, true, false, false, false]) (by kernel_rfl) ?_
    exact T1_2_3_4_5_7_8 _ (O.1, O.2.1, O.2.2) ⟨(base HX.out hb), ⟨keptB H2.out.1 hb, H2.out.2⟩, ⟨keptB H4.out.1 hb, H4.out.2⟩, ⟨keptB H8.out.1 hb, H8.out.2⟩, True.intro⟩
  refine split (α := Nat × Nat × Nat) #[true, true, true, true, true, true, true, false, false, false, false, false] (fun O => { tmps := #[Value.pointer (some { block := p0, off := 0 }), Value.pointer (some { block := p1, off := 0 }), Value.pointer (some { block := p2, off := 0 }), Value.pointer (some { block := p3, off := 0 }), Value.pointer (some { block := p4, off := 0 }), Value.pointer (some { block := w.heap.size, off := 0 }), str PE, str C1, Value.func (Fn.func 57) #[str C2] #[], str C2, str C3, Value.func (Fn.func 57) #[str C3] #[], undef, undef, undef, str me, str lock, str eph, str stamp, Value.slice (some { block := w.heap.size + 1, off := 0 }) 4 4, Value.tuple #[], Value.int IntKind.i64 f, Value.bool true, Value.bool true, str me, Value.bool true, Value.bool true, Value.bool true, str lock, Value.bool true, Value.bool true, Value.bool true, str eph, Value.bool true, Value.bool true, Value.bool true, str stamp, Value.bool true, Value.bool true, Value.tuple #[], str eph, Value.slice (some { block := w7.heap.size, off := 0 }) 1 1, str PE, Value.tuple #[str C1, Value.func (Fn.func 57) #[str C1] #[]], str lock, str H0, str PE, Value.tuple #[str C1, Value.func (Fn.func 57) #[str C1] #[]], str C1, Value.func (Fn.func 57) #[str C1] #[], Value.tuple #[str C2, Value.func (Fn.func 57) #[str C2] #[]], Value.func (Fn.func 57) #[str C1] #[], str eph, str lock, str D1, Value.tuple #[str C2, Value.func (Fn.func 57) #[str C2] #[]], str C2, Value.func (Fn.func 57) #[str C2] #[], Value.tuple #[str C3, Value.func (Fn.func 57) #[str C3] #[]], Value.func (Fn.func 57) #[str C2] #[], str me, str lock, str D2, Value.tuple #[str C3, Value.func (Fn.func 57) #[str C3] #[]], str C3, Value.func (Fn.func 57) #[str C3] #[], str C2, str me, .slice (some ⟨O.1, 0, none⟩) 1 1, str PM, .slice (some ⟨O.2.1, 0, none⟩) 2 2, str S1, str C3, undef, undef, undef, undef, undef, undef, undef, undef, undef, undef, undef, undef, undef, undef, undef, undef], defers := [] }) 5 (fun X O => Below w14.heap.size w14 X ∧ (X.heap[O.1]? = some (.cells #[str me] 9 (0, 0)) ∧ w14.heap.size ≤ O.1) ∧ (X.heap[O.2.1]? = some (.cells #[str C2, str PM] 9 (0, 0)) ∧ w14.heap.size ≤ O.2.1) ∧ True) ?_ (fun T1_2_3_4_5 => ?_)
  · rintro X O ⟨hX, h2, h4, hT⟩
    clear hT
    obtain ⟨m0, m1, m2, m3, m4⟩ := KA.out _ (base BW.out (base HB14.out hX))
    have HX := Lib.hid hX
    have H2 := Lib.hid h2
    have H4 := Lib.hid h4
    clear hX h2 h4
    refine wpAny_ready (rs := [7]) (by kernel_rfl) (by simp) ?_
    refine AllReady.cons rfl (fun K hK => ?_) AllReady.nil
    go_simp
    refine hK _ _ ?_
    clear hK K
    refine relist (l' := #[true, true, true, true, true, true, true, true, false, false, false, false]) (by kernel_rfl) ?_
    exact T1_2_3_4_5_7 _ (O.1, O.2.1, O.2.2) ⟨HX.out, H2.out, H4.out, True.intro⟩
  refine split (α := Nat × Nat × Nat) #[true, true, true, true, true, false, true, true, false, false, false, false] (fun O => { tmps := #[Value.pointer (some { block := p0, off := 0 }), Value.pointer (some { block := p1, off := 0 }), Value.pointer (some { block := p2, off := 0 }), Value.pointer (some { block := p3, off := 0 }), Value.pointer (some { block := p4, off := 0 }), Value.pointer (some { block := w.heap.size, off := 0 }), str PE, str C1, Value.func (Fn.func 57) #[str C2] #[], str C2, str C3, Value.func (Fn.func 57) #[str C3] #[], undef, undef, undef, str me, str lock, str eph, str stamp, Value.slice (some { block := w.heap.size + 1, off := 0 }) 4 4, Value.tuple #[], Value.int IntKind.i64 f, Value.bool true, Value.bool true, str me, Value.bool true, Value.bool true, Value.bool true, str lock, Value.bool true, Value.bool true, Value.bool true, str eph, Value.bool true, Value.bool true, Value.bool true, str stamp, Value.bool true, Value.bool true, Value.tuple #[], str eph, Value.slice (some { block := w7.heap.size, off := 0 }) 1 1, str PE, Value.tuple #[str C1, Value.func (Fn.func 57) #[str C1] #[]], str lock, str H0, str PE, Value.tuple #[str C1, Value.func (Fn.func 57) #[str C1] #[]], str C1, Value.func (Fn.func 57) #[str C1] #[], Value.tuple #[str C2, Value.func (Fn.func 57) #[str C2] #[]], Value.func (Fn.func 57) #[str C1] #[], str eph, str lock, str D1, Value.tuple #[str C2, Value.func (Fn.func 57) #[str C2] #[]], str C2, Value.func (Fn.func 57) #[str C2] #[], Value.tuple #[str C3, Value.func (Fn.func 57) #[str C3] #[]], Value.func (Fn.func 57) #[str C2] #[], str me, str lock, str D2, Value.tuple #[str C3, Value.func (Fn.func 57) #[str C3] #[]], str C3, Value.func (Fn.func 57) #[str C3] #[], str C2, str me, .slice (some ⟨O.1, 0, none⟩) 1 1, str PM, .slice (some ⟨O.2.1, 0, none⟩) 2 2, undef, str C3, str stamp, undef, undef, undef, undef, undef, undef, undef, undef, undef, undef, undef, undef, undef, undef, undef], defers := [] }) 5 (fun X O => Below w14.heap.size w14 X ∧ (X.heap[O.1]? = some (.cells #[str me] 9 (0, 0)) ∧ w14.heap.size ≤ O.1) ∧ (X.heap[O.2.1]? = some (.cells #[str C2, str PM] 9 (0, 0)) ∧ w14.heap.size ≤ O.2.1) ∧ True) ?_ (fun T1_2_3_4_7 => ?_)
  · rintro X O ⟨hX, h2, h4, hT⟩
    clear hT
    obtain ⟨m0, m1, m2, m3, m4⟩ := KA.out _ (base BW.out (base HB14.out hX))
    have HX := Lib.hid hX
    have H2 := Lib.hid h2
    have H4 := Lib.hid h4
    clear hX h2 h4
    refine wpAny_ready (rs := [5, 8]) (by kernel_rfl) (by simp) ?_
    refine AllReady.cons rfl (fun K hK => ?_) (AllReady.cons rfl (fun K hK => ?_) AllReady.nil)
    · go_simp
      refine (SAH.out _ _ (rdr.two H4.out.1).1 (rdr.two H4.out.1).2.1 (rdr.two H4.out.1).2.2.2.2).mono ?_
      rintro e x1 ⟨rfl, hb⟩
      refine hK _ _ ?_
      clear hK K
      refine relist (l' := #[true, true, true, true, true, true, true, true, false, false, false, false]) (by kernel_rfl) ?_
      exact T1_2_3_4_5_7 _ (O.1, O.2.1, O.2.2) ⟨(base HX.out hb), ⟨keptB H2.out.1 hb, H2.out.2⟩, ⟨keptB H4.out.1 hb, H4.out.2⟩, True.intro⟩
    · go_simp
      refine hK _ _ ?_
      clear hK K
      refine relist (l' := #[true, true, true, true, true, false, true, true, true, false, false, false]) (by kernel_rfl) ?_
      exact T1_2_3_4_7_8 _ (O.1, O.2.1, X.heap.size) ⟨(al1 HX.out (.cells #[str C3, str stamp] 9)), ⟨keptA H2.out.1 (.cells #[str C3, str stamp] 9), H2.out.2⟩, ⟨keptA H4.out.1 (.cells #[str C3, str stamp] 9), H4.out.2⟩, ⟨heap_alloc_new X (.cells #[str C3, str stamp] 9), HX.out.size⟩, True.intro⟩
  refine split (α := Nat × Nat × Nat) #[true, true, true, true, false, false, true, true, true, false, false, false] (fun O => { tmps := #[Value.pointer (some { block := p0, off := 0 }), Value.pointer (some { block := p1, off := 0 }), Value.pointer (some { block := p2, off := 0 }), Value.pointer (some { block := p3, off := 0 }), Value.pointer (some { block := p4, off := 0 }), Value.pointer (some { block := w.heap.size, off := 0 }), str PE, str C1, Value.func (Fn.func 57) #[str C2] #[], str C2, str C3, Value.func (Fn.func 57) #[str C3] #[], undef, undef, undef, str me, str lock, str eph, str stamp, Value.slice (some { block := w.heap.size + 1, off := 0 }) 4 4, Value.tuple #[], Value.int IntKind.i64 f, Value.bool true, Value.bool true, str me, Value.bool true, Value.bool true, Value.bool true, str lock, Value.bool true, Value.bool true, Value.bool true, str eph, Value.bool true, Value.bool true, Value.bool true, str stamp, Value.bool true, Value.bool true, Value.tuple #[], str eph, Value.slice (some { block := w7.heap.size, off := 0 }) 1 1, str PE, Value.tuple #[str C1, Value.func (Fn.func 57) #[str C1] #[]], str lock, str H0, str PE, Value.tuple #[str C1, Value.func (Fn.func 57) #[str C1] #[]], str C1, Value.func (Fn.func 57) #[str C1] #[], Value.tuple #[str C2, Value.func (Fn.func 57) #[str C2] #[]], Value.func (Fn.func 57) #[str C1] #[], str eph, str lock, str D1, Value.tuple #[str C2, Value.func (Fn.func 57) #[str C2] #[]], str C2, Value.func (Fn.func 57) #[str C2] #[], Value.tuple #[str C3, Value.func (Fn.func 57) #[str C3] #[]], Value.func (Fn.func 57) #[str C2] #[], str me, str lock, str D2, Value.tuple #[str C3, Value.func (Fn.func 57) #[str C3] #[]], str C3, Value.func (Fn.func 57) #[str C3] #[], str C2, str me, .slice (some ⟨O.1, 0, none⟩) 1 1, str PM, undef, undef, str C3, str stamp, .slice (some ⟨O.2.2, 0, none⟩) 2 2, undef, undef, undef, undef, undef, undef, undef, undef, undef, undef, undef, undef, undef, undef], defers := [] }) 5 (fun X O => Below w14.heap.size w14 X ∧ (X.heap[O.1]? = some (.cells #[str me] 9 (0, 0)) ∧ w14.heap.size ≤ O.1) ∧ (X.heap[O.2.2]? = some (.cells #[str C3, str stamp] 9 (0, 0)) ∧ w14.heap.size ≤ O.2.2) ∧ True) ?_ (fun T1_2_3_7_8 => ?_)
  · rintro X O ⟨hX, h2, h8, hT⟩
    clear hT
    obtain ⟨m0, m1, m2, m3, m4⟩ := KA.out _ (base BW.out (base HB14.out hX))
    have HX := Lib.hid hX
    have H2 := Lib.hid h2
    have H8 := Lib.hid h8
    clear hX h2 h8
    refine wpAny_ready (rs := [4]) (by kernel_rfl) (by simp) ?_
    refine AllReady.cons rfl (fun K hK => ?_) AllReady.nil
    go_simp
    refine hK _ _ ?_
    clear hK K
    refine relist (l' := #[true, true, true, true, true, false, true, true, true, false, false, false]) (by kernel_rfl) ?_
    exact T1_2_3_4_7_8 _ (O.1, X.heap.size, O.2.2) ⟨(al1 HX.out (.cells #[str C2, str PM] 9)), ⟨keptA H2.out.1 (.cells #[str C2, str PM] 9), H2.out.2⟩, ⟨heap_alloc_new X (.cells #[str C2, str PM] 9), HX.out.size⟩, ⟨keptA H8.out.1 (.cells #[str C2, str PM] 9), H8.out.2⟩, True.intro⟩
  refine split (α := Nat × Nat × Nat) #[true, true, true, true, true, false, true, false, false, false, false, false] (fun O => { tmps := #[Value.pointer (some { block := p0, off := 0 }), Value.pointer (some { block := p1, off := 0 }), Value.pointer (some { block := p2, off := 0 }), Value.pointer (some { block := p3, off := 0 }), Value.pointer (some { block := p4, off := 0 }), Value.pointer (some { block := w.heap.size, off := 0 }), str PE, str C1, Value.func (Fn.func 57) #[str C2] #[], str C2, str C3, Value.func (Fn.func 57) #[str C3] #[], undef, undef, undef, str me, str lock, str eph, str stamp, Value.slice (some { block := w.heap.size + 1, off := 0 }) 4 4, Value.tuple #[], Value.int IntKind.i64 f, Value.bool true, Value.bool true, str me, Value.bool true, Value.bool true, Value.bool true, str lock, Value.bool true, Value.bool true, Value.bool true, str eph, Value.bool true, Value.bool true, Value.bool true, str stamp, Value.bool true, Value.bool true, Value.tuple #[], str eph, Value.slice (some { block := w7.heap.size, off := 0 }) 1 1, str PE, Value.tuple #[str C1, Value.func (Fn.func 57) #[str C1] #[]], str lock, str H0, str PE, Value.tuple #[str C1, Value.func (Fn.func 57) #[str C1] #[]], str C1, Value.func (Fn.func 57) #[str C1] #[], Value.tuple #[str C2, Value.func (Fn.func 57) #[str C2] #[]], Value.func (Fn.func 57) #[str C1] #[], str eph, str lock, str D1, Value.tuple #[str C2, Value.func (Fn.func 57) #[str C2] #[]], str C2, Value.func (Fn.func 57) #[str C2] #[], Value.tuple #[str C3, Value.func (Fn.func 57) #[str C3] #[]], Value.func (Fn.func 57) #[str C2] #[], str me, str lock, str D2, Value.tuple #[str C3, Value.func (Fn.func 57) #[str C3] #[]], str C3, Value.func (Fn.func 57) #[str C3] #[], str C2, str me, .slice (some ⟨O.1, 0, none⟩) 1 1, str PM, .slice (some ⟨O.2.1, 0, none⟩) 2 2, undef, str C3, undef, undef, undef, undef, undef, undef, undef, undef, undef, undef, undef, undef, undef, undef, undef, undef], defers := [] }) 6 (fun X O => Below w14.heap.size w14 X ∧ (X.heap[O.1]? = some (.cells #[str me] 9 (0, 0)) ∧ w14.heap.size ≤ O.1) ∧ (X.heap[O.2.1]? = some (.cells #[str C2, str PM] 9 (0, 0)) ∧ w14.heap.size ≤ O.2.1) ∧ True) ?_ (fun T1_2_3_4 => ?_)
  · rintro X O ⟨hX, h2, h4, hT⟩
    clear hT
    obtain ⟨m0, m1, m2, m3, m4⟩ := KA.out _ (base BW.out (base HB14.out hX))
    have HX := Lib.hid hX
    have H2 := Lib.hid h2
    have H4 := Lib.hid h4
    clear hX h2 h4
    refine wpAny_ready (rs := [5, 7]) (by kernel_rfl) (by simp) ?_
    refine AllReady.cons rfl (fun K hK => ?_) (AllReady.cons rfl (fun K hK => ?_) AllReady.nil)
    · go_simp
      refine (SAH.out _ _ (rdr.two H4.out.1).1 (rdr.two H4.out.1).2.1 (rdr.two H4.out.1).2.2.2.2).mono ?_
      rintro e x1 ⟨rfl, hb⟩
      refine hK _ _ ?_
      clear hK K
      refine relist (l' := #[true, true, true, true, true, true, true, false, false, false, false, false]) (by kernel_rfl) ?_
      exact T1_2_3_4_5 _ (O.1, O.2.1, O.2.2) ⟨(base HX.out hb), ⟨keptB H2.out.1 hb, H2.out.2⟩, ⟨keptB H4.out.1 hb, H4.out.2⟩, True.intro⟩
    · go_simp
      refine hK _ _ ?_
      clear hK K
      refine relist (l' := #[true, true, true, true, true, false, true, true, false, false, false, false]) (by kernel_rfl) ?_
      exact T1_2_3_4_7 _ (O.1, O.2.1, O.2.2) ⟨HX.out, H2.out, H4.out, True.intro⟩
  refine split (α := Nat × Nat × Nat) #[true, true, true, true, false, false, true, true, false, false, false, false] (fun O => { tmps := #[Value.pointer (some { block := p0, off := 0 }), Value.pointer (some { block := p1, off := 0 }), Value.pointer (some { block := p2, off := 0 }), Value.pointer (some { block := p3, off := 0 }), Value.pointer (some { block := p4, off := 0 }), Value.pointer (some { block := w.heap.size, off := 0 }), str PE, str C1, Value.func (Fn.func 57) #[str C2] #[], str C2, str C3, Value.func (Fn.func 57) #[str C3] #[], undef, undef, undef, str me, str lock, str eph, str stamp, Value.slice (some { block := w.heap.size + 1, off := 0 }) 4 4, Value.tuple #[], Value.int IntKind.i64 f, Value.bool true, Value.bool true, str me, Value.bool true, Value.bool true, Value.bool true, str lock, Value.bool true, Value.bool true, Value.bool true, str eph, Value.bool true, Value.bool true, Value.bool true, str stamp, Value.bool true, Value.bool true, Value.tuple #[], str eph, Value.slice (some { block := w7.heap.size, off := 0 }) 1 1, str PE, Value.tuple #[str C1, Value.func (Fn.func 57) #[str C1] #[]], str lock, str H0, str PE, Value.tuple #[str C1, Value.func (Fn.func 57) #[str C1] #[]], str C1, Value.func (Fn.func 57) #[str C1] #[], Value.tuple #[str C2, Value.func (Fn.func 57) #[str C2] #[]], Value.func (Fn.func 57) #[str C1] #[], str eph, str lock, str D1, Value.tuple #[str C2, Value.func (Fn.func 57) #[str C2] #[]], str C2, Value.func (Fn.func 57) #[str C2] #[], Value.tuple #[str C3, Value.func (Fn.func 57) #[str C3] #[]], Value.func (Fn.func 57) #[str C2] #[], str me, str lock, str D2, Value.tuple #[str C3, Value.func (Fn.func 57) #[str C3] #[]], str C3, Value.func (Fn.func 57) #[str C3] #[], str C2, str me, .slice (some ⟨O.1, 0, none⟩) 1 1, str PM, undef, undef, str C3, str stamp, undef, undef, undef, undef, undef, undef, undef, undef, undef, undef, undef, undef, undef, undef, undef], defers := [] }) 6 (fun X O => Below w14.heap.size w14 X ∧ (X.heap[O.1]? = some (.cells #[str me] 9 (0, 0)) ∧ w14.heap.size ≤ O.1) ∧ True) ?_ (fun T1_2_3_7 => ?_)
  · rintro X O ⟨hX, h2, hT⟩
    clear hT
    obtain ⟨m0, m1, m2, m3, m4⟩ := KA.out _ (base BW.out (base HB14.out hX))
    have HX := Lib.hid hX
    have H2 := Lib.hid h2
    clear hX h2
    refine wpAny_ready (rs := [4, 8]) (by kernel_rfl) (by simp) ?_
    refine AllReady.cons rfl (fun K hK => ?_) (AllReady.cons rfl (fun K hK => ?_) AllReady.nil)
    · go_simp
      refine hK _ _ ?_
      clear hK K
      refine relist (l' := #[true, true, true, true, true, false, true, true, false, false, false, false]) (by kernel_rfl) ?_
      exact T1_2_3_4_7 _ (O.1, X.heap.size, O.2.2) ⟨(al1 HX.out (.cells #[str C2, str PM] 9)), ⟨keptA H2.out.1 (.cells #[str C2, str PM] 9), H2.out.2⟩, ⟨heap_alloc_new X (.cells #[str C2, str PM] 9), HX.out.size⟩, True.intro⟩
    · go_simp
      refine hK _ _ ?_
      clear hK K
      refine relist (l' := #[true, true, true, true, false, false, true, true, true, false, false, false]) (by kernel_rfl) ?_
      exact T1_2_3_7_8 _ (O.1, O.2.1, X.heap.size) ⟨(al1 HX.out (.cells #[str C3, str stamp] 9)), ⟨keptA H2.out.1 (.cells #[str C3, str stamp] 9), H2.out.2⟩, ⟨heap_alloc_new X (.cells #[str C3, str stamp] 9), HX.out.size⟩, True.intro⟩
  refine split (α := Nat × Nat × Nat) #[true, true, true, false, false, false, true, true, true, false, false, false] (fun O => { tmps := #[Value.pointer (some { block := p0, off := 0 }), Value.pointer (some { block := p1, off := 0 }), Value.pointer (some { block := p2, off := 0 }), Value.pointer (some { block := p3, off := 0 }), Value.pointer (some { block := p4, off := 0 }), Value.pointer (some { block := w.heap.size, off := 0 }), str PE, str C1, Value.func (Fn.func 57) #[str C2] #[], str C2, str C3, Value.func (Fn.func 57) #[str C3] #[], undef, undef, undef, str me, str lock, str eph, str stamp, Value.slice (some { block := w.heap.size + 1, off := 0 }) 4 4, Value.tuple #[], Value.int IntKind.i64 f, Value.bool true, Value.bool true, str me, Value.bool true, Value.bool true, Value.bool true, str lock, Value.bool true, Value.bool true, Value.bool true, str eph, Value.bool true, Value.bool true, Value.bool true, str stamp, Value.bool true, Value.bool true, Value.tuple #[], str eph, Value.slice (some { block := w7.heap.size, off := 0 }) 1 1, str PE, Value.tuple #[str C1, Value.func (Fn.func 57) #[str C1] #[]], str lock, str H0, str PE, Value.tuple #[str C1, Value.func (Fn.func 57) #[str C1] #[]], str C1, Value.func (Fn.func 57) #[str C1] #[], Value.tuple #[str C2, Value.func (Fn.func 57) #[str C2] #[]], Value.func (Fn.func 57) #[str C1] #[], str eph, str lock, str D1, Value.tuple #[str C2, Value.func (Fn.func 57) #[str C2] #[]], str C2, Value.func (Fn.func 57) #[str C2] #[], Value.tuple #[str C3, Value.func (Fn.func 57) #[str C3] #[]], Value.func (Fn.func 57) #[str C2] #[], str me, str lock, str D2, Value.tuple #[str C3, Value.func (Fn.func 57) #[str C3] #[]], str C3, Value.func (Fn.func 57) #[str C3] #[], str C2, str me, .slice (some ⟨O.1, 0, none⟩) 1 1, undef, undef, undef, str C3, str stamp, .slice (some ⟨O.2.2, 0, none⟩) 2 2, undef, undef, undef, undef, undef, undef, undef, undef, undef, undef, undef, undef, undef, undef], defers := [] }) 6 (fun X O => Below w14.heap.size w14 X ∧ (X.heap[O.1]? = some (.cells #[str me] 9 (0, 0)) ∧ w14.heap.size ≤ O.1) ∧ (X.heap[O.2.2]? = some (.cells #[str C3, str stamp] 9 (0, 0)) ∧ w14.heap.size ≤ O.2.2) ∧ True) ?_ (fun T1_2_7_8 => ?_)
  · rintro X O ⟨hX, h2, h8, hT⟩
    clear hT
    obtain ⟨m0, m1, m2, m3, m4⟩ := KA.out _ (base BW.out (base HB14.out hX))
    have HX := Lib.hid hX
    have H2 := Lib.hid h2
    have H8 := Lib.hid h8
    clear hX h2 h8
    refine wpAny_ready (rs := [3]) (by kernel_rfl) (by simp) ?_
    refine AllReady.cons rfl (fun K hK => ?_) AllReady.nil
    go_simp
    refine (PVH.out _ _ (grd.one H2.out.1).1 (grd.one H2.out.1).2.2).mono ?_
    rintro e x1 ⟨rfl, hb⟩
    refine hK _ _ ?_
    clear hK K
    refine relist (l' := #[true, true, true, true, false, false, true, true, true, false, false, false]) (by kernel_rfl) ?_
    exact T1_2_3_7_8 _ (O.1, O.2.1, O.2.2) ⟨(base HX.out hb), ⟨keptB H2.out.1 hb, H2.out.2⟩, ⟨keptB H8.out.1 hb, H8.out.2⟩, True.intro⟩
  refine split (α := Nat × Nat × Nat) #[true, true, true, true, false, false, true, false, false, false, false, false] (fun O => { tmps := #[Value.pointer (some { block := p0, off := 0 }), Value.pointer (some { block := p1, off := 0 }), Value.pointer (some { block := p2, off := 0 }), Value.pointer (some { block := p3, off := 0 }), Value.pointer (some { block := p4, off := 0 }), Value.pointer (some { block := w.heap.size, off := 0 }), str PE, str C1, Value.func (Fn.func 57) #[str C2] #[], str C2, str C3, Value.func (Fn.func 57) #[str C3] #[], undef, undef, undef, str me, str lock, str eph, str stamp, Value.slice (some { block := w.heap.size + 1, off := 0 }) 4 4, Value.tuple #[], Value.int IntKind.i64 f, Value.bool true, Value.bool true, str me, Value.bool true, Value.bool true, Value.bool true, str lock, Value.bool true, Value.bool true, Value.bool true, str eph, Value.bool true, Value.bool true, Value.bool true, str stamp, Value.bool true, Value.bool true, Value.tuple #[], str eph, Value.slice (some { block := w7.heap.size, off := 0 }) 1 1, str PE, Value.tuple #[str C1, Value.func (Fn.func 57) #[str C1] #[]], str lock, str H0, str PE, Value.tuple #[str C1, Value.func (Fn.func 57) #[str C1] #[]], str C1, Value.func (Fn.func 57) #[str C1] #[], Value.tuple #[str C2, Value.func (Fn.func 57) #[str C2] #[]], Value.func (Fn.func 57) #[str C1] #[], str eph, str lock, str D1, Value.tuple #[str C2, Value.func (Fn.func 57) #[str C2] #[]], str C2, Value.func (Fn.func 57) #[str C2] #[], Value.tuple #[str C3, Value.func (Fn.func 57) #[str C3] #[]], Value.func (Fn.func 57) #[str C2] #[], str me, str lock, str D2, Value.tuple #[str C3, Value.func (Fn.func 57) #[str C3] #[]], str C3, Value.func (Fn.func 57) #[str C3] #[], str C2, str me, .slice (some ⟨O.1, 0, none⟩) 1 1, str PM, undef, undef, str C3, undef, undef, undef, undef, undef, undef, undef, undef, undef, undef, undef, undef, undef, undef, undef, undef], defers := [] }) 7 (fun X O => Below w14.heap.size w14 X ∧ (X.heap[O.1]? = some (.cells #[str me] 9 (0, 0)) ∧ w14.heap.size ≤ O.1) ∧ True) ?_ (fun T1_2_3 => ?_)
  · rintro X O ⟨hX, h2, hT⟩
    clear hT
    obtain ⟨m0, m1, m2, m3, m4⟩ := KA.out _ (base BW.out (base HB14.out hX))
    have HX := Lib.hid hX
    have H2 := Lib.hid h2
    clear hX h2
    refine wpAny_ready (rs := [4, 7]) (by kernel_rfl) (by simp) ?_
    refine AllReady.cons rfl (fun K hK => ?_) (AllReady.cons rfl (fun K hK => ?_) AllReady.nil)
    · go_simp
      refine hK _ _ ?_
      clear hK K
      refine relist (l' := #[true, true, true, true, true, false, true, false, false, false, false, false]) (by kernel_rfl) ?_
      exact T1_2_3_4 _ (O.1, X.heap.size, O.2.2) ⟨(al1 HX.out (.cells #[str C2, str PM] 9)), ⟨keptA H2.out.1 (.cells #[str C2, str PM] 9), H2.out.2⟩, ⟨heap_alloc_new X (.cells #[str C2, str PM] 9), HX.out.size⟩, True.intro⟩
    · go_simp
      refine hK _ _ ?_
      clear hK K
      refine relist (l' := #[true, true, true, true, false, false, true, true, false, false, false, false]) (by kernel_rfl) ?_
      exact T1_2_3_7 _ (O.1, O.2.1, O.2.2) ⟨HX.out, H2.out, True.intro⟩
  refine split (α := Nat × Nat × Nat) #[true, true, true, false, false, false, true, true, false, false, false, false] (fun O => { tmps := #[Value.pointer (some { block := p0, off := 0 }), Value.pointer (some { block := p1, off := 0 }), Value.pointer (some { block := p2, off := 0 }), Value.pointer (some { block := p3, off := 0 }), Value.pointer (some { block := p4, off := 0 }), Value.pointer (some { block := w.heap.size, off := 0 }), str PE, str C1, Value.func (Fn.func 57) #[str C2] #[], str C2, str C3, Value.func (Fn.func 57) #[str C3] #[], undef, undef, undef, str me, str lock, str eph, str stamp, Value.slice (some { block := w.heap.size + 1, off := 0 }) 4 4, Value.tuple #[], Value.int IntKind.i64 f, Value.bool true, Value.bool true, str me, Value.bool true, Value.bool true, Value.bool true, str lock, Value.bool true, Value.bool true, Value.bool true, str eph, Value.bool true, Value.bool true, Value.bool true, str stamp, Value.bool true, Value.bool true, Value.tuple #[], str eph, Value.slice (some { block := w7.heap.size, off := 0 }) 1 1, str PE, Value.tuple #[str C1, Value.func (Fn.func 57) #[str C1] #[]], str lock, str H0, str PE, Value.tuple #[str C1, Value.func (Fn.func 57) #[str C1] #[]], str C1, Value.func (Fn.func 57) #[str C1] #[], Value.tuple #[str C2, Value.func (Fn.func 57) #[str C2] #[]], Value.func (Fn.func 57) #[str C1] #[], str eph, str lock, str D1, Value.tuple #[str C2, Value.func (Fn.func 57) #[str C2] #[]], str C2, Value.func (Fn.func 57) #[str C2] #[], Value.tuple #[str C3, Value.func (Fn.func 57) #[str C3] #[]], Value.func (Fn.func 57) #[str C2] #[], str me, str lock, str D2, Value.tuple #[str C3, Value.func (Fn.func 57) #[str C3] #[]], str C3, Value.func (Fn.func 57) #[str C3] #[], str C2, str me, .slice (some ⟨O.1, 0, none⟩) 1 1, undef, undef, undef, str C3, str stamp, undef, undef, undef, undef, undef, undef, undef, undef, undef, undef, undef, undef, undef, undef, undef], defers := [] }) 7 (fun X O => Below w14.heap.size w14 X ∧ (X.heap[O.1]? = some (.cells #[str me] 9 (0, 0)) ∧ w14.heap.size ≤ O.1) ∧ True) ?_ (fun T1_2_7 => ?_)
  · rintro X O ⟨hX, h2, hT⟩
    clear hT
    obtain ⟨m0, m1, m2, m3, m4⟩ := KA.out _ (base BW.out (base HB14.out hX))
    have HX := Lib.hid hX
    have H2 := Lib.hid h2
    clear hX h2
    refine wpAny_ready (rs := [3, 8]) (by kernel_rfl) (by simp) ?_
    refine AllReady.cons rfl (fun K hK => ?_) (AllReady.cons rfl (fun K hK => ?_) AllReady.nil)
    · go_simp
      refine (PVH.out _ _ (grd.one H2.out.1).1 (grd.one H2.out.1).2.2).mono ?_
      rintro e x1 ⟨rfl, hb⟩
      refine hK _ _ ?_
      clear hK K
      refine relist (l' := #[true, true, true, true, false, false, true, true, false, false, false, false]) (by kernel_rfl) ?_
      exact T1_2_3_7 _ (O.1, O.2.1, O.2.2) ⟨(base HX.out hb), ⟨keptB H2.out.1 hb, H2.out.2⟩, True.intro⟩
    · go_simp
      refine hK _ _ ?_
      clear hK K
      refine relist (l' := #[true, true, true, false, false, false, true, true, true, false, false, false]) (by kernel_rfl) ?_
      exact T1_2_7_8 _ (O.1, O.2.1, X.heap.size) ⟨(al1 HX.out (.cells #[str C3, str stamp] 9)), ⟨keptA H2.out.1 (.cells #[str C3, str stamp] 9), H2.out.2⟩, ⟨heap_alloc_new X (.cells #[str C3, str stamp] 9), HX.out.size⟩, True.intro⟩
  refine split (α := Nat × Nat × Nat) #[true, true, false, false, false, false, true, true, true, false, false, false] (fun O => { tmps := #[Value.pointer (some { block := p0, off := 0 }), Value.pointer (some { block := p1, off := 0 }), Value.pointer (some { block := p2, off := 0 }), Value.pointer (some { block := p3, off := 0 }), Value.pointer (some { block := p4, off := 0 }), Value.pointer (some { block := w.heap.size, off := 0 }), str PE, str C1, Value.func (Fn.func 57) #[str C2] #[], str C2, str C3, Value.func (Fn.func 57) #[str C3] #[], undef, undef, undef, str me, str lock, str eph, str stamp, Value.slice (some { block := w.heap.size + 1, off := 0 }) 4 4, Value.tuple #[], Value.int IntKind.i64 f, Value.bool true, Value.bool true, str me, Value.bool true, Value.bool true, Value.bool true, str lock, Value.bool true, Value.bool true, Value.bool true, str eph, Value.bool true, Value.bool true, Value.bool true, str stamp, Value.bool true, Value.bool true, Value.tuple #[], str eph, Value.slice (some { block := w7.heap.size, off := 0 }) 1 1, str PE, Value.tuple #[str C1, Value.func (Fn.func 57) #[str C1] #[]], str lock, str H0, str PE, Value.tuple #[str C1, Value.func (Fn.func 57) #[str C1] #[]], str C1, Value.func (Fn.func 57) #[str C1] #[], Value.tuple #[str C2, Value.func (Fn.func 57) #[str C2] #[]], Value.func (Fn.func 57) #[str C1] #[], str eph, str lock, str D1, Value.tuple #[str C2, Value.func (Fn.func 57) #[str C2] #[]], str C2, Value.func (Fn.func 57) #[str C2] #[], Value.tuple #[str C3, Value.func (Fn.func 57) #[str C3] #[]], Value.func (Fn.func 57) #[str C2] #[], str me, str lock, str D2, Value.tuple #[str C3, Value.func (Fn.func 57) #[str C3] #[]], str C3, Value.func (Fn.func 57) #[str C3] #[], str C2, str me, undef, undef, undef, undef, str C3, str stamp, .slice (some ⟨O.2.2, 0, none⟩) 2 2, undef, undef, undef, undef, undef, undef, undef, undef, undef, undef, undef, undef, undef, undef], defers := [] }) 7 (fun X O => Below w14.heap.size w14 X ∧ (X.heap[O.2.2]? = some (.cells #[str C3, str stamp] 9 (0, 0)) ∧ w14.heap.size ≤ O.2.2) ∧ True) ?_ (fun T1_7_8 => ?_)
  · rintro X O ⟨hX, h8, hT⟩
    clear hT
    obtain ⟨m0, m1, m2, m3, m4⟩ := KA.out _ (base BW.out (base HB14.out hX))
    have HX := Lib.hid hX
    have H8 := Lib.hid h8
    clear hX h8
    refine wpAny_ready (rs := [2]) (by kernel_rfl) (by simp) ?_
    refine AllReady.cons rfl (fun K hK => ?_) AllReady.nil
    go_simp
    refine hK _ _ ?_
    clear hK K
    refine relist (l' := #[true, true, true, false, false, false, true, true, true, false, false, false]) (by kernel_rfl) ?_
    exact T1_2_7_8 _ (X.heap.size, O.2.1, O.2.2) ⟨(al1 HX.out (.cells #[str me] 9)), ⟨heap_alloc_new X (.cells #[str me] 9), HX.out.size⟩, ⟨keptA H8.out.1 (.cells #[str me] 9), H8.out.2⟩, True.intro⟩
  refine split (α := Nat × Nat × Nat) #[true, true, true, false, false, false, true, false, false, false, false, false] (fun O => { tmps := #[Value.pointer (some { block := p0, off := 0 }), Value.pointer (some { block := p1, off := 0 }), Value.pointer (some { block := p2, off := 0 }), Value.pointer (some { block := p3, off := 0 }), Value.pointer (some { block := p4, off := 0 }), Value.pointer (some { block := w.heap.size, off := 0 }), str PE, str C1, Value.func (Fn.func 57) #[str C2] #[], str C2, str C3, Value.func (Fn.func 57) #[str C3] #[], undef, undef, undef, str me, str lock, str eph, str stamp, Value.slice (some { block := w.heap.size + 1, off := 0 }) 4 4, Value.tuple #[], Value.int IntKind.i64 f, Value.bool true, Value.bool true, str me, Value.bool true, Value.bool true, Value.bool true, str lock, Value.bool true, Value.bool true, Value.bool true, str eph, Value.bool true, Value.bool true, Value.bool true, str stamp, Value.bool true, Value.bool true, Value.tuple #[], str eph, Value.slice (some { block := w7.heap.size, off := 0 }) 1 1, str PE, Value.tuple #[str C1, Value.func (Fn.func 57) #[str C1] #[]], str lock, str H0, str PE, Value.tuple #[str C1, Value.func (Fn.func 57) #[str C1] #[]], str C1, Value.func (Fn.func 57) #[str C1] #[], Value.tuple #[str C2, Value.func (Fn.func 57) #[str C2] #[]], Value.func (Fn.func 57) #[str C1] #[], str eph, str lock, str D1, Value.tuple #[str C2, Value.func (Fn.func 57) #[str C2] #[]], str C2, Value.func (Fn.func 57) #[str C2] #[], Value.tuple #[str C3, Value.func (Fn.func 57) #[str C3] #[]], Value.func (Fn.func 57) #[str C2] #[], str me, str lock, str D2, Value.tuple #[str C3, Value.func (Fn.func 57) #[str C3] #[]], str C3, Value.func (Fn.func 57) #[str C3] #[], str C2, str me, .slice (some ⟨O.1, 0, none⟩) 1 1, undef, undef, undef, str C3, undef, undef, undef, undef, undef, undef, undef, undef, undef, undef, undef, undef, undef, undef, undef, undef], defers := [] }) 8 (fun X O => Below w14.heap.size w14 X ∧ (X.heap[O.1]? = some (.cells #[str me] 9 (0, 0)) ∧ w14.heap.size ≤ O.1) ∧ True) ?_ (fun T1_2 => ?_)
  · rintro X O ⟨hX, h2, hT⟩
    clear hT
    obtain ⟨m0, m1, m2, m3, m4⟩ := KA.out _ (base BW.out (base HB14.out hX))
    have HX := Lib.hid hX
    have H2 := Lib.hid h2
    clear hX h2
    refine wpAny_ready (rs := [3, 7]) (by kernel_rfl) (by simp) ?_
    refine AllReady.cons rfl (fun K hK => ?_) (AllReady.cons rfl (fun K hK => ?_) AllReady.nil)
    · go_simp
      refine (PVH.out _ _ (grd.one H2.out.1).1 (grd.one H2.out.1).2.2).mono ?_
      rintro e x1 ⟨rfl, hb⟩
      refine hK _ _ ?_
      clear hK K
      refine relist (l' := #[true, true, true, true, false, false, true, false, false, false, false, false]) (by kernel_rfl) ?_
      exact T1_2_3 _ (O.1, O.2.1, O.2.2) ⟨(base HX.out hb), ⟨keptB H2.out.1 hb, H2.out.2⟩, True.intro⟩
    · go_simp
      refine hK _ _ ?_
      clear hK K
      refine relist (l' := #[true, true, true, false, false, false, true, true, false, false, false, false]) (by kernel_rfl) ?_
      exact T1_2_7 _ (O.1, O.2.1, O.2.2) ⟨HX.out, H2.out, True.intro⟩
  refine split (α := Nat × Nat × Nat) #[true, true, false, false, false, false, true, true, false, false, false, false] (fun O => { tmps := #[Value.pointer (some { block := p0, off := 0 }), Value.pointer (some { block := p1, off := 0 }), Value.pointer (some { block := p2, off := 0 }), Value.pointer (some { block := p3, off := 0 }), Value.pointer (some { block := p4, off := 0 }), Value.pointer (some { block := w.heap.size, off := 0 }), str PE, str C1, Value.func (Fn.func 57) #[str C2] #[], str C2, str C3, Value.func (Fn.func 57) #[str C3] #[], undef, undef, undef, str me, str lock, str eph, str stamp, Value.slice (some { block := w.heap.size + 1, off := 0 }) 4 4, Value.tuple #[], Value.int IntKind.i64 f, Value.bool true, Value.bool true, str me, Value.bool true, Value.bool true, Value.bool true, str lock, Value.bool true, Value.bool true, Value.bool true, str eph, Value.bool true, Value.bool true, Value.bool true, str stamp, Value.bool true, Value.bool true, Value.tuple #[], str eph, Value.slice (some { block := w7.heap.size, off := 0 }) 1 1, str PE, Value.tuple #[str C1, Value.func (Fn.func 57) #[str C1] #[]], str lock, str H0, str PE, Value.tuple #[str C1, Value.func (Fn.func 57) #[str C1] #[]], str C1, Value.func (Fn.func 57) #[str C1] #[], Value.tuple #[str C2, Value.func (Fn.func 57) #[str C2] #[]], Value.func (Fn.func 57) #[str C1] #[], str eph, str lock, str D1, Value.tuple #[str C2, Value.func (Fn.func 57) #[str C2] #[]], str C2, Value.func (Fn.func 57) #[str C2] #[], Value.tuple #[str C3, Value.func (Fn.func 57) #[str C3] #[]], Value.func (Fn.func 57) #[str C2] #[], str me, str lock, str D2, Value.tuple #[str C3, Value.func (Fn.func 57) #[str C3] #[]], str C3, Value.func (Fn.func 57) #[str C3] #[], str C2, str me, undef, undef, undef, undef, str C3, str stamp, undef, undef, undef, undef, undef, undef, undef, undef, undef, undef, undef, undef, undef, undef, undef], defers := [] }) 8 (fun X O => Below w14.heap.size w14 X ∧ True) ?_ (fun T1_7 => ?_)
  · rintro X O ⟨hX, hT⟩
    clear hT
    obtain ⟨m0, m1, m2, m3, m4⟩ := KA.out _ (base BW.out (base HB14.out hX))
    have HX := Lib.hid hX
    clear hX 
    refine wpAny_ready (rs := [2, 8]) (by kernel_rfl) (by simp) ?_
    refine AllReady.cons rfl (fun K hK => ?_) (AllReady.cons rfl (fun K hK => ?_) AllReady.nil)
    · go_simp
      refine hK _ _ ?_
      clear hK K
      refine relist (l' := #[true, true, true, false, false, false, true, true, false, false, false, false]) (by kernel_rfl) ?_
      exact T1_2_7 _ (X.heap.size, O.2.1, O.2.2) ⟨(al1 HX.out (.cells #[str me] 9)), ⟨heap_alloc_new X (.cells #[str me] 9), HX.out.size⟩, True.intro⟩
    · go_simp
      refine hK _ _ ?_
      clear hK K
      refine relist (l' := #[true, true, false, false, false, false, true, true, true, false, false, false]) (by kernel_rfl) ?_
      exact T1_7_8 _ (O.1, O.2.1, X.heap.size) ⟨(al1 HX.out (.cells #[str C3, str stamp] 9)), ⟨heap_alloc_new X (.cells #[str C3, str stamp] 9), HX.out.size⟩, True.intro⟩
  refine split (α := Nat × Nat × Nat) #[true, false, false, false, false, false, true, true, true, false, false, false] (fun O => { tmps := #[Value.pointer (some { block := p0, off := 0 }), Value.pointer (some { block := p1, off := 0 }), Value.pointer (some { block := p2, off := 0 }), Value.pointer (some { block := p3, off := 0 }), Value.pointer (some { block := p4, off := 0 }), Value.pointer (some { block := w.heap.size, off := 0 }), str PE, str C1, Value.func (Fn.func 57) #[str C2] #[], str C2, str C3, Value.func (Fn.func 57) #[str C3] #[], undef, undef, undef, str me, str lock, str eph, str stamp, Value.slice (some { block := w.heap.size + 1, off := 0 }) 4 4, Value.tuple #[], Value.int IntKind.i64 f, Value.bool true, Value.bool true, str me, Value.bool true, Value.bool true, Value.bool true, str lock, Value.bool true, Value.bool true, Value.bool true, str eph, Value.bool true, Value.bool true, Value.bool true, str stamp, Value.bool true, Value.bool true, Value.tuple #[], str eph, Value.slice (some { block := w7.heap.size, off := 0 }) 1 1, str PE, Value.tuple #[str C1, Value.func (Fn.func 57) #[str C1] #[]], str lock, str H0, str PE, Value.tuple #[str C1, Value.func (Fn.func 57) #[str C1] #[]], str C1, Value.func (Fn.func 57) #[str C1] #[], Value.tuple #[str C2, Value.func (Fn.func 57) #[str C2] #[]], Value.func (Fn.func 57) #[str C1] #[], str eph, str lock, str D1, Value.tuple #[str C2, Value.func (Fn.func 57) #[str C2] #[]], str C2, Value.func (Fn.func 57) #[str C2] #[], Value.tuple #[str C3, Value.func (Fn.func 57) #[str C3] #[]], Value.func (Fn.func 57) #[str C2] #[], str me, str lock, str D2, Value.tuple #[str C3, Value.func (Fn.func 57) #[str C3] #[]], str C3, Value.func (Fn.func 57) #[str C3] #[], str C2, undef, undef, undef, undef, undef, str C3, str stamp, .slice (some ⟨O.2.2, 0, none⟩) 2 2, undef, undef, undef, undef, undef, undef, undef, undef, undef, undef, undef, undef, undef, undef], defers := [] }) 8 (fun X O => Below w14.heap.size w14 X ∧ (X.heap[O.2.2]? = some (.cells #[str C3, str stamp] 9 (0, 0)) ∧ w14.heap.size ≤ O.2.2) ∧ True) ?_ (fun T7_8 => ?_)
  · rintro X O ⟨hX, h8, hT⟩
    clear hT
    obtain ⟨m0, m1, m2, m3, m4⟩ := KA.out _ (base BW.out (base HB14.out hX))
    have HX := Lib.hid hX
    have H8 := Lib.hid h8
    clear hX h8
    refine wpAny_ready (rs := [1]) (by kernel_rfl) (by simp) ?_
    refine AllReady.cons rfl (fun K hK => ?_) AllReady.nil
    go_simp
    refine hK _ _ ?_
    clear hK K
    refine relist (l' := #[true, true, false, false, false, false, true, true, true, false, false, false]) (by kernel_rfl) ?_
    exact T1_7_8 _ (O.1, O.2.1, O.2.2) ⟨HX.out, H8.out, True.intro⟩
  refine split (α := Nat × Nat × Nat) #[true, true, false, false, false, false, true, false, false, false, false, false] (fun O => { tmps := #[Value.pointer (some { block := p0, off := 0 }), Value.pointer (some { block := p1, off := 0 }), Value.pointer (some { block := p2, off := 0 }), Value.pointer (some { block := p3, off := 0 }), Value.pointer (some { block := p4, off := 0 }), Value.pointer (some { block := w.heap.size, off := 0 }), str PE, str C1, Value.func (Fn.func 57) #[str C2] #[], str C2, str C3, Value.func (Fn.func 57) #[str C3] #[], undef, undef, undef, str me, str lock, str eph, str stamp, Value.slice (some { block := w.heap.size + 1, off := 0 }) 4 4, Value.tuple #[], Value.int IntKind.i64 f, Value.bool true, Value.bool true, str me, Value.bool true, Value.bool true, Value.bool true, str lock, Value.bool true, Value.bool true, Value.bool true, str eph, Value.bool true, Value.bool true, Value.bool true, str stamp, Value.bool true, Value.bool true, Value.tuple #[], str eph, Value.slice (some { block := w7.heap.size, off := 0 }) 1 1, str PE, Value.tuple #[str C1, Value.func (Fn.func 57) #[str C1] #[]], str lock, str H0, str PE, Value.tuple #[str C1, Value.func (Fn.func 57) #[str C1] #[]], str C1, Value.func (Fn.func 57) #[str C1] #[], Value.tuple #[str C2, Value.func (Fn.func 57) #[str C2] #[]], Value.func (Fn.func 57) #[str C1] #[], str eph, str lock, str D1, Value.tuple #[str C2, Value.func (Fn.func 57) #[str C2] #[]], str C2, Value.func (Fn.func 57) #[str C2] #[], Value.tuple #[str C3, Value.func (Fn.func 57) #[str C3] #[]], Value.func (Fn.func 57) #[str C2] #[], str me, str lock, str D2, Value.tuple #[str C3, Value.func (Fn.func 57) #[str C3] #[]], str C3, Value.func (Fn.func 57) #[str C3] #[], str C2, str me, undef, undef, undef, undef, str C3, undef, undef, undef, undef, undef, undef, undef, undef, undef, undef, undef, undef, undef, undef, undef, undef], defers := [] }) 9 (fun X O => Below w14.heap.size w14 X ∧ True) ?_ (fun T1 => ?_)
  · rintro X O ⟨hX, hT⟩
    clear hT
    obtain ⟨m0, m1, m2, m3, m4⟩ := KA.out _ (base BW.out (base HB14.out hX))
    have HX := Lib.hid hX
    clear hX 
    refine wpAny_ready (rs := [2, 7]) (by kernel_rfl) (by simp) ?_
    refine AllReady.cons rfl (fun K hK => ?_) (AllReady.cons rfl (fun K hK => ?_) AllReady.nil)
    · go_simp
      refine hK _ _ ?_
      clear hK K
      refine relist (l' := #[true, true, true, false, false, false, true, false, false, false, false, false]) (by kernel_rfl) ?_
      exact T1_2 _ (X.heap.size, O.2.1, O.2.2) ⟨(al1 HX.out (.cells #[str me] 9)), ⟨heap_alloc_new X (.cells #[str me] 9), HX.out.size⟩, True.intro⟩
    · go_simp
      refine hK _ _ ?_
      clear hK K
      refine relist (l' := #[true, true, false, false, false, false, true, true, false, false, false, false]) (by kernel_rfl) ?_
      exact T1_7 _ (O.1, O.2.1, O.2.2) ⟨HX.out, True.intro⟩
  refine split (α := Nat × Nat × Nat) #[true, false, false, false, false, false, true, true, false, false, false, false] (fun O => { tmps := #[Value.pointer (some { block := p0, off := 0 }), Value.pointer (some { block := p1, off := 0 }), Value.pointer (some { block := p2, off := 0 }), Value.pointer (some { block := p3, off := 0 }), Value.pointer (some { block := p4, off := 0 }), Value.pointer (some { block := w.heap.size, off := 0 }), str PE, str C1, Value.func (Fn.func 57) #[str C2] #[], str C2, str C3, Value.func (Fn.func 57) #[str C3] #[], undef, undef, undef, str me, str lock, str eph, str stamp, Value.slice (some { block := w.heap.size + 1, off := 0 }) 4 4, Value.tuple #[], Value.int IntKind.i64 f, Value.bool true, Value.bool true, str me, Value.bool true, Value.bool true, Value.bool true, str lock, Value.bool true, Value.bool true, Value.bool true, str eph, Value.bool true, Value.bool true, Value.bool true, str stamp, Value.bool true, Value.bool true, Value.tuple #[], str eph, Value.slice (some { block := w7.heap.size, off := 0 }) 1 1, str PE, Value.tuple #[str C1, Value.func (Fn.func 57) #[str C1] #[]], str lock, str H0, str PE, Value.tuple #[str C1, Value.func (Fn.func 57) #[str C1] #[]], str C1, Value.func (Fn.func 57) #[str C1] #[], Value.tuple #[str C2, Value.func (Fn.func 57) #[str C2] #[]], Value.func (Fn.func 57) #[str C1] #[], str eph, str lock, str D1, Value.tuple #[str C2, Value.func (Fn.func 57) #[str C2] #[]], str C2, Value.func (Fn.func 57) #[str C2] #[], Value.tuple #[str C3, Value.func (Fn.func 57) #[str C3] #[]], Value.func (Fn.func 57) #[str C2] #[], str me, str lock, str D2, Value.tuple #[str C3, Value.func (Fn.func 57) #[str C3] #[]], str C3, Value.func (Fn.func 57) #[str C3] #[], str C2, undef, undef, undef, undef, undef, str C3, str stamp, undef, undef, undef, undef, undef, undef, undef, undef, undef, undef, undef, undef, undef, undef, undef], defers := [] }) 9 (fun X O => Below w14.heap.size w14 X ∧ True) ?_ (fun T7 => ?_)
  · rintro X O ⟨hX, hT⟩
    clear hT
    obtain ⟨m0, m1, m2, m3, m4⟩ := KA.out _ (base BW.out (base HB14.out hX))
    have HX := Lib.hid hX
    clear hX 
    refine wpAny_ready (rs := [1, 8]) (by kernel_rfl) (by simp) ?_
    refine AllReady.cons rfl (fun K hK => ?_) (AllReady.cons rfl (fun K hK => ?_) AllReady.nil)
    · go_simp
      refine hK _ _ ?_
      clear hK K
      refine relist (l' := #[true, true, false, false, false, false, true, true, false, false, false, false]) (by kernel_rfl) ?_
      exact T1_7 _ (O.1, O.2.1, O.2.2) ⟨HX.out, True.intro⟩
    · go_simp
      refine hK _ _ ?_
      clear hK K
      refine relist (l' := #[true, false, false, false, false, false, true, true, true, false, false, false]) (by kernel_rfl) ?_
      exact T7_8 _ (O.1, O.2.1, X.heap.size) ⟨(al1 HX.out (.cells #[str C3, str stamp] 9)), ⟨heap_alloc_new X (.cells #[str C3, str stamp] 9), HX.out.size⟩, True.intro⟩
  refine split (α := Nat × Nat × Nat) #[true, false, false, false, false, false, true, false, false, false, false, false] (fun O => { tmps := #[Value.pointer (some { block := p0, off := 0 }), Value.pointer (some { block := p1, off := 0 }), Value.pointer (some { block := p2, off := 0 }), Value.pointer (some { block := p3, off := 0 }), Value.pointer (some { block := p4, off := 0 }), Value.pointer (some { block := w.heap.size, off := 0 }), str PE, str C1, Value.func (Fn.func 57) #[str C2] #[], str C2, str C3, Value.func (Fn.func 57) #[str C3] #[], undef, undef, undef, str me, str lock, str eph, str stamp, Value.slice (some { block := w.heap.size + 1, off := 0 }) 4 4, Value.tuple #[], Value.int IntKind.i64 f, Value.bool true, Value.bool true, str me, Value.bool true, Value.bool true, Value.bool true, str lock, Value.bool true, Value.bool true, Value.bool true, str eph, Value.bool true, Value.bool true, Value.bool true, str stamp, Value.bool true, Value.bool true, Value.tuple #[], str eph, Value.slice (some { block := w7.heap.size, off := 0 }) 1 1, str PE, Value.tuple #[str C1, Value.func (Fn.func 57) #[str C1] #[]], str lock, str H0, str PE, Value.tuple #[str C1, Value.func (Fn.func 57) #[str C1] #[]], str C1, Value.func (Fn.func 57) #[str C1] #[], Value.tuple #[str C2, Value.func (Fn.func 57) #[str C2] #[]], Value.func (Fn.func 57) #[str C1] #[], str eph, str lock, str D1, Value.tuple #[str C2, Value.func (Fn.func 57) #[str C2] #[]], str C2, Value.func (Fn.func 57) #[str C2] #[], Value.tuple #[str C3, Value.func (Fn.func 57) #[str C3] #[]], Value.func (Fn.func 57) #[str C2] #[], str me, str lock, str D2, Value.tuple #[str C3, Value.func (Fn.func 57) #[str C3] #[]], str C3, Value.func (Fn.func 57) #[str C3] #[], str C2, undef, undef, undef, undef, undef, str C3, undef, undef, undef, undef, undef, undef, undef, undef, undef, undef, undef, undef, undef, undef, undef, undef], defers := [] }) 10 (fun X O => Below w14.heap.size w14 X ∧ True) ?_ (fun T0 => ?_)
  · rintro X O ⟨hX, hT⟩
    clear hT
    obtain ⟨m0, m1, m2, m3, m4⟩ := KA.out _ (base BW.out (base HB14.out hX))
    have HX := Lib.hid hX
    clear hX 
    refine wpAny_ready (rs := [1, 7]) (by kernel_rfl) (by simp) ?_
    refine AllReady.cons rfl (fun K hK => ?_) (AllReady.cons rfl (fun K hK => ?_) AllReady.nil)
    · go_simp
      refine hK _ _ ?_
      clear hK K
      refine relist (l' := #[true, true, false, false, false, false, true, false, false, false, false, false]) (by kernel_rfl) ?_
      exact T1 _ (O.1, O.2.1, O.2.2) ⟨HX.out, True.intro⟩
    · go_simp
      refine hK _ _ ?_
      clear hK K
      refine relist (l' := #[true, false, false, false, false, false, true, true, false, false, false, false]) (by kernel_rfl) ?_
      exact T7 _ (O.1, O.2.1, O.2.2) ⟨HX.out, True.intro⟩
  exact T0 _ (0, 0, 0) ⟨(rdr.Still.drewN w14 1).below _, True.intro⟩

set_option maxHeartbeats 8000000 in
set_option maxRecDepth 100000 in
theorem nosign (f : Int) (me lock eph stamp H0 PE C1 D1 C2 D2 C3 PM S1 S2 : Bs) (p0 p1 p2 p3 p4 : Nat) (w : World)
    (hk : ∀ X, Below w.heap.size w X → X.cell? ⟨p0, 0, none⟩ = some (str me) ∧ X.cell? ⟨p1, 0, none⟩ = some (str lock) ∧ X.cell? ⟨p2, 0, none⟩ = some (str eph) ∧ X.cell? ⟨p3, 0, none⟩ = some (str stamp) ∧ X.cell? ⟨p4, 0, none⟩ = some (.int .i64 f))
    (SH : ∀ w v, Rds w v [me, lock, eph, stamp] → Calls Tryz.prog 49 #[v] w fun e w' => e = .returned (.tuple #[]) ∧ w = w')
    (N : ∀ w, Calls Tryz.prog 51 #[.int .i64 f] w fun e w' => e = .returned (.bool true) ∧ w = w')
    (M : ∀ w, Calls Tryz.prog 52 #[str me] w fun e w' => e = .returned (.bool true) ∧ w = w')
    (L : Gives 53 #[str lock] (.bool true))
    (E : ∀ w, Calls Tryz.prog 52 #[str eph] w fun e w' => e = .returned (.bool true) ∧ w = w')
    (S : Gives 54 #[str stamp] (.bool true))
    (PU : (∀ w b, w.cell? ⟨b, 0, none⟩ = some (str eph) → b < w.heap.size → Calls Tryz.prog 55 #[.string ⟨#[112, 117, 98]⟩, .slice (some ⟨b, 0, none⟩) 1 1] w fun e w' => e = .returned (str PE) ∧ Below w.heap.size w w'))
    (BG : Gives 56 #[str lock] (str H0))
    (MA : Gives 57 #[str H0, str PE] (.tuple #[str C1, .func (.func 57) #[str C1] #[]]))
    (DA : Gives 58 #[str eph, str lock] (str D1))
    (MB : Gives 57 #[str C1, str D1] (.tuple #[str C2, .func (.func 57) #[str C2] #[]]))
    (DB : Gives 58 #[str me, str lock] (str D2))
    (MC : Gives 57 #[str C2, str D2] (.tuple #[str C3, .func (.func 57) #[str C3] #[]]))
    (PV : (∀ w b, w.cell? ⟨b, 0, none⟩ = some (str me) → b < w.heap.size → Calls Tryz.prog 55 #[.string ⟨#[112, 117, 98]⟩, .slice (some ⟨b, 0, none⟩) 1 1] w fun e w' => e = .returned (str PM) ∧ Below w.heap.size w w'))
    (SA : (∀ w b, w.cell? ⟨b, 0, none⟩ = some (str C2) → w.cell? ⟨b, 1, none⟩ = some (str PM) → b < w.heap.size → Calls Tryz.prog 55 #[.string ⟨#[115, 104, 117, 116]⟩, .slice (some ⟨b, 0, none⟩) 2 2] w fun e w' => e = .returned (str S1) ∧ Below w.heap.size w w'))
    (SB : (∀ w b, w.cell? ⟨b, 0, none⟩ = some (str C3) → w.cell? ⟨b, 1, none⟩ = some (str stamp) → b < w.heap.size → Calls Tryz.prog 55 #[.string ⟨#[115, 104, 117, 116]⟩, .slice (some ⟨b, 0, none⟩) 2 2] w fun e w' => e = .returned (str S2) ∧ Below w.heap.size w w'))
    (SGN : ∀ w v, Rds w v [PE, S1, S2] → Calls Tryz.prog 59 #[.agg #[.int .i64 1, .int .i64 f, .int .i64 0, .int .i64 0, v, .string ⟨#[]⟩, .string ⟨#[]⟩], str lock] w fun e w' => e = fault 9 ∧ Below w.heap.size w w') :
    Calls Tryz.prog 48 #[.pointer (some ⟨p0, 0, none⟩), .pointer (some ⟨p1, 0, none⟩), .pointer (some ⟨p2, 0, none⟩), .pointer (some ⟨p3, 0, none⟩), .pointer (some ⟨p4, 0, none⟩)] w (fun e w' => e = fault 9 ∧ Below w.heap.size w w') := by
  have SHH := Lib.hid SH
  clear SH
  have NH := Lib.hid N
  clear N
  have MH := Lib.hid M
  clear M
  have LH := Lib.hid L
  clear L
  have EH := Lib.hid E
  clear E
  have SH := Lib.hid S
  clear S
  have PUH := Lib.hid PU
  clear PU
  have BGH := Lib.hid BG
  clear BG
  have MAH := Lib.hid MA
  clear MA
  have DAH := Lib.hid DA
  clear DA
  have MBH := Lib.hid MB
  clear MB
  have DBH := Lib.hid DB
  clear DB
  have MCH := Lib.hid MC
  clear MC
  have PVH := Lib.hid PV
  clear PV
  have SAH := Lib.hid SA
  clear SA
  have SBH := Lib.hid SB
  clear SB
  have SGNH := Lib.hid SGN
  clear SGN
  have hcf := fun x v w => mixer_calls x v w
  have KA := Lib.hid hk
  clear hk
  have X0 := Lib.hid (heap_alloc_new w (.cells #[.int .i64 0, .int .i64 0, .int .i64 0, .int .i64 0, .slice none 0 0, .string ⟨#[]⟩, .string ⟨#[]⟩, .string ⟨#[]⟩, .string ⟨#[]⟩, .string ⟨#[]⟩, .string ⟨#[]⟩, .string ⟨#[]⟩, .string ⟨#[]⟩, .string ⟨#[]⟩, .int .i64 0] 28))
  have BW := Lib.hid (al0 (w := w) (.cells #[.int .i64 0, .int .i64 0, .int .i64 0, .int .i64 0, .slice none 0 0, .string ⟨#[]⟩, .string ⟨#[]⟩, .string ⟨#[]⟩, .string ⟨#[]⟩, .string ⟨#[]⟩, .string ⟨#[]⟩, .string ⟨#[]⟩, .string ⟨#[]⟩, .string ⟨#[]⟩, .int .i64 0] 28))
  have HB0 := Lib.hid (Below.refl (w.alloc (.cells #[.int .i64 0, .int .i64 0, .int .i64 0, .int .i64 0, .slice none 0 0, .string ⟨#[]⟩, .string ⟨#[]⟩, .string ⟨#[]⟩, .string ⟨#[]⟩, .string ⟨#[]⟩, .string ⟨#[]⟩, .string ⟨#[]⟩, .string ⟨#[]⟩, .string ⟨#[]⟩, .int .i64 0] 28)).heap.size (w.alloc (.cells #[.int .i64 0, .int .i64 0, .int .i64 0, .int .i64 0, .slice none 0 0, .string ⟨#[]⟩, .string ⟨#[]⟩, .string ⟨#[]⟩, .string ⟨#[]⟩, .string ⟨#[]⟩, .string ⟨#[]⟩, .string ⟨#[]⟩, .string ⟨#[]⟩, .string ⟨#[]⟩, .int .i64 0] 28)))
  obtain ⟨m0, m1, m2, m3, m4⟩ := KA.out _ BW.out
  go_enter Tryz.func48, Tryz.ntmps48
  go_wp2_with fail
  refine (still (by first | exact HB0.out | exact al1 HB0.out _ | exact al2 HB0.out _ _ | exact al3 HB0.out _ _ _) (SHH.out _ _ (rds4 (newA (by simp))))).mono ?_
  rintro e w1 ⟨rfl, hb⟩
  have HB1 := Lib.hid hb
  clear hb
  clear m0 m1 m2 m3 m4
  obtain ⟨m0, m1, m2, m3, m4⟩ := KA.out _ (base BW.out HB1.out)
  go_wp2_with fail
  refine (still (by first | exact HB1.out | exact al1 HB1.out _ | exact al2 HB1.out _ _ | exact al3 HB1.out _ _ _) (NH.out _)).mono ?_
  rintro e w2 ⟨rfl, hb⟩
  have HB2 := Lib.hid hb
  clear hb
  clear m0 m1 m2 m3 m4
  obtain ⟨m0, m1, m2, m3, m4⟩ := KA.out _ (base BW.out HB2.out)
  go_wp2_with fail
  refine (still (by first | exact HB2.out | exact al1 HB2.out _ | exact al2 HB2.out _ _ | exact al3 HB2.out _ _ _) (MH.out _)).mono ?_
  rintro e w3 ⟨rfl, hb⟩
  have HB3 := Lib.hid hb
  clear hb
  clear m0 m1 m2 m3 m4
  obtain ⟨m0, m1, m2, m3, m4⟩ := KA.out _ (base BW.out HB3.out)
  go_wp2_with fail
  refine (on (by first | exact HB3.out | exact al1 HB3.out _ | exact al2 HB3.out _ _ | exact al3 HB3.out _ _ _) (LH.out _)).mono ?_
  rintro e w4 ⟨rfl, hb⟩
  have HB4 := Lib.hid hb
  clear hb
  clear m0 m1 m2 m3 m4
  obtain ⟨m0, m1, m2, m3, m4⟩ := KA.out _ (base BW.out HB4.out)
  go_wp2_with fail
  refine (still (by first | exact HB4.out | exact al1 HB4.out _ | exact al2 HB4.out _ _ | exact al3 HB4.out _ _ _) (EH.out _)).mono ?_
  rintro e w5 ⟨rfl, hb⟩
  have HB5 := Lib.hid hb
  clear hb
  clear m0 m1 m2 m3 m4
  obtain ⟨m0, m1, m2, m3, m4⟩ := KA.out _ (base BW.out HB5.out)
  go_wp2_with fail
  refine (on (by first | exact HB5.out | exact al1 HB5.out _ | exact al2 HB5.out _ _ | exact al3 HB5.out _ _ _) (SH.out _)).mono ?_
  rintro e w6 ⟨rfl, hb⟩
  have HB6 := Lib.hid hb
  clear hb
  clear m0 m1 m2 m3 m4
  obtain ⟨m0, m1, m2, m3, m4⟩ := KA.out _ (base BW.out HB6.out)
  go_wp2_with fail
  refine (still (by first | exact HB6.out | exact al1 HB6.out _ | exact al2 HB6.out _ _ | exact al3 HB6.out _ _ _) (need_yes _ _)).mono ?_
  rintro e w7 ⟨rfl, hb⟩
  have HB7 := Lib.hid hb
  clear hb
  clear m0 m1 m2 m3 m4
  obtain ⟨m0, m1, m2, m3, m4⟩ := KA.out _ (base BW.out HB7.out)
  go_wp2_with fail
  refine (on (by first | exact HB7.out | exact al1 HB7.out _ | exact al2 HB7.out _ _ | exact al3 HB7.out _ _ _) (PUH.out _ _ (by simp [go_sem]) (by simp))).mono ?_
  rintro e w8 ⟨rfl, hb⟩
  have HB8 := Lib.hid hb
  clear hb
  clear m0 m1 m2 m3 m4
  obtain ⟨m0, m1, m2, m3, m4⟩ := KA.out _ (base BW.out HB8.out)
  go_wp2_with fail
  refine (on (by first | exact HB8.out | exact al1 HB8.out _ | exact al2 HB8.out _ _ | exact al3 HB8.out _ _ _) (BGH.out _)).mono ?_
  rintro e w9 ⟨rfl, hb⟩
  have HB9 := Lib.hid hb
  clear hb
  clear m0 m1 m2 m3 m4
  obtain ⟨m0, m1, m2, m3, m4⟩ := KA.out _ (base BW.out HB9.out)
  go_wp2_with fail
  refine (on (by first | exact HB9.out | exact al1 HB9.out _ | exact al2 HB9.out _ _ | exact al3 HB9.out _ _ _) (MAH.out _)).mono ?_
  rintro e w10 ⟨rfl, hb⟩
  have HB10 := Lib.hid hb
  clear hb
  clear m0 m1 m2 m3 m4
  obtain ⟨m0, m1, m2, m3, m4⟩ := KA.out _ (base BW.out HB10.out)
  go_wp2_with fail
  refine (on (by first | exact HB10.out | exact al1 HB10.out _ | exact al2 HB10.out _ _ | exact al3 HB10.out _ _ _) (DAH.out _)).mono ?_
  rintro e w11 ⟨rfl, hb⟩
  have HB11 := Lib.hid hb
  clear hb
  clear m0 m1 m2 m3 m4
  obtain ⟨m0, m1, m2, m3, m4⟩ := KA.out _ (base BW.out HB11.out)
  go_wp2_with fail
  refine (on (by first | exact HB11.out | exact al1 HB11.out _ | exact al2 HB11.out _ _ | exact al3 HB11.out _ _ _) (MBH.out _)).mono ?_
  rintro e w12 ⟨rfl, hb⟩
  have HB12 := Lib.hid hb
  clear hb
  clear m0 m1 m2 m3 m4
  obtain ⟨m0, m1, m2, m3, m4⟩ := KA.out _ (base BW.out HB12.out)
  go_wp2_with fail
  refine (on (by first | exact HB12.out | exact al1 HB12.out _ | exact al2 HB12.out _ _ | exact al3 HB12.out _ _ _) (DBH.out _)).mono ?_
  rintro e w13 ⟨rfl, hb⟩
  have HB13 := Lib.hid hb
  clear hb
  clear m0 m1 m2 m3 m4
  obtain ⟨m0, m1, m2, m3, m4⟩ := KA.out _ (base BW.out HB13.out)
  go_wp2_with fail
  refine (on (by first | exact HB13.out | exact al1 HB13.out _ | exact al2 HB13.out _ _ | exact al3 HB13.out _ _ _) (MCH.out _)).mono ?_
  rintro e w14 ⟨rfl, hb⟩
  have HB14 := Lib.hid hb
  clear hb
  clear m0 m1 m2 m3 m4
  obtain ⟨m0, m1, m2, m3, m4⟩ := KA.out _ (base BW.out HB14.out)
  go_wp2_with fail
  refine wp_region_any (by kernel_rfl) ?_
  change wpAny _ _ _ _ _ _ _ (World.drew _)
  refine wpAny_take (i := 0) (v := str C2) rfl (by kernel_rfl) (by kernel_rfl) (by kernel_rfl) (fun _ _ _ h => h) (Or.inl ⟨by kernel_rfl, ?_⟩) ?_
  · intro w; go_simp; first | done | with_reducible rfl | rfl
  refine wpAny_take (i := 6) (v := str C3) rfl (by kernel_rfl) (by kernel_rfl) (by kernel_rfl) (fun _ _ _ h => h) (Or.inl ⟨by kernel_rfl, ?_⟩) ?_
  · intro w; go_simp; first | done | with_reducible rfl | rfl
  refine relist (l' := #[true, false, false, false, false, false, true, false, false, false, false, false]) (by kernel_rfl) ?_
  refine split (α := Nat × Nat × Nat) #[true, true, true, true, true, true, true, true, true, true, true, true] (fun O => { tmps := #[Value.pointer (some { block := p0, off := 0 }), Value.pointer (some { block := p1, off := 0 }), Value.pointer (some { block := p2, off := 0 }), Value.pointer (some { block := p3, off := 0 }), Value.pointer (some { block := p4, off := 0 }), Value.pointer (some { block := w.heap.size, off := 0 }), str PE, str C1, Value.func (Fn.func 57) #[str C2] #[], str C2, str C3, Value.func (Fn.func 57) #[str C3] #[], str S1, str S2, undef, str me, str lock, str eph, str stamp, Value.slice (some { block := w.heap.size + 1, off := 0 }) 4 4, Value.tuple #[], Value.int IntKind.i64 f, Value.bool true, Value.bool true, str me, Value.bool true, Value.bool true, Value.bool true, str lock, Value.bool true, Value.bool true, Value.bool true, str eph, Value.bool true, Value.bool true, Value.bool true, str stamp, Value.bool true, Value.bool true, Value.tuple #[], str eph, Value.slice (some { block := w7.heap.size, off := 0 }) 1 1, str PE, Value.tuple #[str C1, Value.func (Fn.func 57) #[str C1] #[]], str lock, str H0, str PE, Value.tuple #[str C1, Value.func (Fn.func 57) #[str C1] #[]], str C1, Value.func (Fn.func 57) #[str C1] #[], Value.tuple #[str C2, Value.func (Fn.func 57) #[str C2] #[]], Value.func (Fn.func 57) #[str C1] #[], str eph, str lock, str D1, Value.tuple #[str C2, Value.func (Fn.func 57) #[str C2] #[]], str C2, Value.func (Fn.func 57) #[str C2] #[], Value.tuple #[str C3, Value.func (Fn.func 57) #[str C3] #[]], Value.func (Fn.func 57) #[str C2] #[], str me, str lock, str D2, Value.tuple #[str C3, Value.func (Fn.func 57) #[str C3] #[]], str C3, Value.func (Fn.func 57) #[str C3] #[], str C2, str me, .slice (some ⟨O.1, 0, none⟩) 1 1, str PM, .slice (some ⟨O.2.1, 0, none⟩) 2 2, str S1, str C3, str stamp, .slice (some ⟨O.2.2, 0, none⟩) 2 2, str S2, undef, undef, undef, undef, undef, undef, undef, undef, undef, undef, undef, undef, undef], defers := [] }) 0 (fun X O => Below w14.heap.size w14 X ∧ (X.heap[O.1]? = some (.cells #[str me] 9 (0, 0)) ∧ w14.heap.size ≤ O.1) ∧ (X.heap[O.2.1]? = some (.cells #[str C2, str PM] 9 (0, 0)) ∧ w14.heap.size ≤ O.2.1) ∧ (X.heap[O.2.2]? = some (.cells #[str C3, str stamp] 9 (0, 0)) ∧ w14.heap.size ≤ O.2.2) ∧ True) ?_ (fun T1_2_3_4_5_7_8_9 => ?_)
  · rintro X O ⟨hX, h2, h4, h8, hT⟩
    clear hT
    obtain ⟨m0, m1, m2, m3, m4⟩ := KA.out _ (base BW.out (base HB14.out hX))
    have HX := Lib.hid hX
    have H2 := Lib.hid h2
    have H4 := Lib.hid h4
    have H8 := Lib.hid h8
    clear hX h2 h4 h8
    refine wpAny_done (by kernel_rfl) ?_ _
    have HR := Lib.hid (base HB14.out HX.out)
    clear HX H2 H4 H8
    clear m0 m1 m2 m3 m4
    obtain ⟨m0, m1, m2, m3, m4⟩ := KA.out _ (base BW.out HR.out)
    go_wp2_with fail
    have R3 := Lib.hid (rds3 (cap := 3) (keptA (heap_alloc_new X (.cells #[str PE, str S1, str S2] 9)) (.cells #[.int .i64 1, .int .i64 f, .int .i64 0, .int .i64 0, (.slice (some ⟨X.heap.size, 0, none⟩) 3 3), .string ⟨#[]⟩, .string ⟨#[]⟩] 24)))
    have L7 := Lib.hid (sgv.alloc2 X (.cells #[str PE, str S1, str S2] 9) (.cells #[.int .i64 1, .int .i64 f, .int .i64 0, .int .i64 0, (.slice (some ⟨X.heap.size, 0, none⟩) 3 3), .string ⟨#[]⟩, .string ⟨#[]⟩] 24)).2
    have HS := Lib.hid (al2 HR.out (.cells #[str PE, str S1, str S2] 9) (.cells #[.int .i64 1, .int .i64 f, .int .i64 0, .int .i64 0, (.slice (some ⟨X.heap.size, 0, none⟩) 3 3), .string ⟨#[]⟩, .string ⟨#[]⟩] 24))
    generalize hWW : (X.alloc (.cells #[str PE, str S1, str S2] 9)).alloc (.cells #[.int .i64 1, .int .i64 f, .int .i64 0, .int .i64 0, (.slice (some ⟨X.heap.size, 0, none⟩) 3 3), .string ⟨#[]⟩, .string ⟨#[]⟩] 24) = WW
    rw [hWW] at R3 L7 HS
    clear hWW m0 m1 m2 m3 m4
    refine wp_region_any (by kernel_rfl) ?_
    change wpAny _ _ _ _ _ _ _ (World.drew _)
    refine wpAny_take (i := 5) (v := str C3) rfl (by kernel_rfl) (by kernel_rfl) (by kernel_rfl) (fun _ _ _ h => h) (Or.inl ⟨by kernel_rfl, ?_⟩) ?_
    · intro w; go_simp; first | done | with_reducible rfl | rfl
    refine relist (l' := #[false, false, false, false, false, true, false, false]) (by kernel_rfl) ?_
    refine split (α := Unit) #[true, true, false, true, false, true, false, false] (fun P => { tmps := #[Value.pointer (some { block := p0, off := 0 }), Value.pointer (some { block := p1, off := 0 }), Value.pointer (some { block := p2, off := 0 }), Value.pointer (some { block := p3, off := 0 }), Value.pointer (some { block := p4, off := 0 }), Value.pointer (some { block := w.heap.size, off := 0 }), str PE, str C1, Value.func (Fn.func 57) #[str C2] #[], str C2, str C3, Value.func (Fn.func 57) #[str C3] #[], str S1, str S2, Value.pointer (some { block := X.heap.size + 1, off := 0 }), str me, str lock, str eph, str stamp, Value.slice (some { block := w.heap.size + 1, off := 0 }) 4 4, Value.tuple #[], Value.int IntKind.i64 f, Value.bool true, Value.bool true, str me, Value.bool true, Value.bool true, Value.bool true, str lock, Value.bool true, Value.bool true, Value.bool true, str eph, Value.bool true, Value.bool true, Value.bool true, str stamp, Value.bool true, Value.bool true, Value.tuple #[], str eph, Value.slice (some { block := w7.heap.size, off := 0 }) 1 1, str PE, Value.tuple #[str C1, Value.func (Fn.func 57) #[str C1] #[]], str lock, str H0, str PE, Value.tuple #[str C1, Value.func (Fn.func 57) #[str C1] #[]], str C1, Value.func (Fn.func 57) #[str C1] #[], Value.tuple #[str C2, Value.func (Fn.func 57) #[str C2] #[]], Value.func (Fn.func 57) #[str C1] #[], str eph, str lock, str D1, Value.tuple #[str C2, Value.func (Fn.func 57) #[str C2] #[]], str C2, Value.func (Fn.func 57) #[str C2] #[], Value.tuple #[str C3, Value.func (Fn.func 57) #[str C3] #[]], Value.func (Fn.func 57) #[str C2] #[], str me, str lock, str D2, Value.tuple #[str C3, Value.func (Fn.func 57) #[str C3] #[]], str C3, Value.func (Fn.func 57) #[str C3] #[], str C2, str me, Value.slice (some { block := O.fst, off := 0 }) 1 1, str PM, Value.slice (some { block := O.snd.fst, off := 0 }) 2 2, str S1, str C3, str stamp, Value.slice (some { block := O.snd.snd, off := 0 }) 2 2, str S2, Value.int IntKind.i64 f, str PE, str S1, str S2, Value.slice (some { block := X.heap.size, off := 0 }) 3 3, Value.agg #[Value.int IntKind.i64 1, Value.int IntKind.i64 f, Value.int IntKind.i64 0, Value.int IntKind.i64 0, Value.slice (some { block := X.heap.size, off := 0 }) 3 3, Value.string { data := #[] }, Value.string { data := #[] }], .agg #[.int .i64 1, .int .i64 f, .int .i64 0, .int .i64 0, (.slice (some ⟨X.heap.size, 0, none⟩) 3 3), .string ⟨#[]⟩, .string ⟨#[]⟩], str lock, undef, str eph, undef, str C3, undef], defers := [] }) 4 (fun Y P => Below WW.heap.size WW Y ∧ True) ?_ (fun T0_1_3 => ?_)
    · rintro Y P ⟨hX, hT⟩
      clear hT
      obtain ⟨m0, m1, m2, m3, m4⟩ := KA.out _ (base BW.out (base HS.out hX))
      obtain ⟨l0, l1, l2, l3, l4, l5, l6, lz, lf⟩ := hms.seven (keptB L7.out hX)
      have HX := Lib.hid hX
      clear hX 
      refine wpAny_ready (rs := [2]) (by kernel_rfl) (by simp) ?_
      refine AllReady.cons rfl (fun K hK => ?_) AllReady.nil
      go_simp
      refine (SGNH.out _ _ (Rds.below R3.out HX.out)).mono ?_
      rintro e x1 ⟨rfl, hb⟩
      exact ⟨rfl, rfl, base (base BW.out HS.out) (base HX.out hb)⟩
    refine split (α := Unit) #[true, true, false, false, false, true, false, false] (fun P => { tmps := #[Value.pointer (some { block := p0, off := 0 }), Value.pointer (some { block := p1, off := 0 }), Value.pointer (some { block := p2, off := 0 }), Value.pointer (some { block := p3, off := 0 }), Value.pointer (some { block := p4, off := 0 }), Value.pointer (some { block := w.heap.size, off := 0 }), str PE, str C1, Value.func (Fn.func 57) #[str C2] #[], str C2, str C3, Value.func (Fn.func 57) #[str C3] #[], str S1, str S2, Value.pointer (some { block := X.heap.size + 1, off := 0 }), str me, str lock, str eph, str stamp, Value.slice (some { block := w.heap.size + 1, off := 0 }) 4 4, Value.tuple #[], Value.int IntKind.i64 f, Value.bool true, Value.bool true, str me, Value.bool true, Value.bool true, Value.bool true, str lock, Value.bool true, Value.bool true, Value.bool true, str eph, Value.bool true, Value.bool true, Value.bool true, str stamp, Value.bool true, Value.bool true, Value.tuple #[], str eph, Value.slice (some { block := w7.heap.size, off := 0 }) 1 1, str PE, Value.tuple #[str C1, Value.func (Fn.func 57) #[str C1] #[]], str lock, str H0, str PE, Value.tuple #[str C1, Value.func (Fn.func 57) #[str C1] #[]], str C1, Value.func (Fn.func 57) #[str C1] #[], Value.tuple #[str C2, Value.func (Fn.func 57) #[str C2] #[]], Value.func (Fn.func 57) #[str C1] #[], str eph, str lock, str D1, Value.tuple #[str C2, Value.func (Fn.func 57) #[str C2] #[]], str C2, Value.func (Fn.func 57) #[str C2] #[], Value.tuple #[str C3, Value.func (Fn.func 57) #[str C3] #[]], Value.func (Fn.func 57) #[str C2] #[], str me, str lock, str D2, Value.tuple #[str C3, Value.func (Fn.func 57) #[str C3] #[]], str C3, Value.func (Fn.func 57) #[str C3] #[], str C2, str me, Value.slice (some { block := O.fst, off := 0 }) 1 1, str PM, Value.slice (some { block := O.snd.fst, off := 0 }) 2 2, str S1, str C3, str stamp, Value.slice (some { block := O.snd.snd, off := 0 }) 2 2, str S2, Value.int IntKind.i64 f, str PE, str S1, str S2, Value.slice (some { block := X.heap.size, off := 0 }) 3 3, Value.agg #[Value.int IntKind.i64 1, Value.int IntKind.i64 f, Value.int IntKind.i64 0, Value.int IntKind.i64 0, Value.slice (some { block := X.heap.size, off := 0 }) 3 3, Value.string { data := #[] }, Value.string { data := #[] }], .agg #[.int .i64 1, .int .i64 f, .int .i64 0, .int .i64 0, (.slice (some ⟨X.heap.size, 0, none⟩) 3 3), .string ⟨#[]⟩, .string ⟨#[]⟩], str lock, undef, undef, undef, str C3, undef], defers := [] }) 5 (fun Y P => Below WW.heap.size WW Y ∧ True) ?_ (fun T0_1 => ?_)
    · rintro Y P ⟨hX, hT⟩
      clear hT
      obtain ⟨m0, m1, m2, m3, m4⟩ := KA.out _ (base BW.out (base HS.out hX))
      obtain ⟨l0, l1, l2, l3, l4, l5, l6, lz, lf⟩ := hms.seven (keptB L7.out hX)
      have HX := Lib.hid hX
      clear hX 
      refine wpAny_ready (rs := [2, 3]) (by kernel_rfl) (by simp) ?_
      refine AllReady.cons rfl (fun K hK => ?_) (AllReady.cons rfl (fun K hK => ?_) AllReady.nil)
      · go_simp
        refine (SGNH.out _ _ (Rds.below R3.out HX.out)).mono ?_
        rintro e x1 ⟨rfl, hb⟩
        exact ⟨rfl, rfl, base (base BW.out HS.out) (base HX.out hb)⟩
      · go_simp
        refine hK _ _ ?_
        clear hK K
        refine relist (l' := #[true, true, false, true, false, true, false, false]) (by kernel_rfl) ?_
        exact T0_1_3 _ () ⟨HX.out, True.intro⟩
    refine split (α := Unit) #[true, false, false, true, false, true, false, false] (fun P => { tmps := #[Value.pointer (some { block := p0, off := 0 }), Value.pointer (some { block := p1, off := 0 }), Value.pointer (some { block := p2, off := 0 }), Value.pointer (some { block := p3, off := 0 }), Value.pointer (some { block := p4, off := 0 }), Value.pointer (some { block := w.heap.size, off := 0 }), str PE, str C1, Value.func (Fn.func 57) #[str C2] #[], str C2, str C3, Value.func (Fn.func 57) #[str C3] #[], str S1, str S2, Value.pointer (some { block := X.heap.size + 1, off := 0 }), str me, str lock, str eph, str stamp, Value.slice (some { block := w.heap.size + 1, off := 0 }) 4 4, Value.tuple #[], Value.int IntKind.i64 f, Value.bool true, Value.bool true, str me, Value.bool true, Value.bool true, Value.bool true, str lock, Value.bool true, Value.bool true, Value.bool true, str eph, Value.bool true, Value.bool true, Value.bool true, str stamp, Value.bool true, Value.bool true, Value.tuple #[], str eph, Value.slice (some { block := w7.heap.size, off := 0 }) 1 1, str PE, Value.tuple #[str C1, Value.func (Fn.func 57) #[str C1] #[]], str lock, str H0, str PE, Value.tuple #[str C1, Value.func (Fn.func 57) #[str C1] #[]], str C1, Value.func (Fn.func 57) #[str C1] #[], Value.tuple #[str C2, Value.func (Fn.func 57) #[str C2] #[]], Value.func (Fn.func 57) #[str C1] #[], str eph, str lock, str D1, Value.tuple #[str C2, Value.func (Fn.func 57) #[str C2] #[]], str C2, Value.func (Fn.func 57) #[str C2] #[], Value.tuple #[str C3, Value.func (Fn.func 57) #[str C3] #[]], Value.func (Fn.func 57) #[str C2] #[], str me, str lock, str D2, Value.tuple #[str C3, Value.func (Fn.func 57) #[str C3] #[]], str C3, Value.func (Fn.func 57) #[str C3] #[], str C2, str me, Value.slice (some { block := O.fst, off := 0 }) 1 1, str PM, Value.slice (some { block := O.snd.fst, off := 0 }) 2 2, str S1, str C3, str stamp, Value.slice (some { block := O.snd.snd, off := 0 }) 2 2, str S2, Value.int IntKind.i64 f, str PE, str S1, str S2, Value.slice (some { block := X.heap.size, off := 0 }) 3 3, Value.agg #[Value.int IntKind.i64 1, Value.int IntKind.i64 f, Value.int IntKind.i64 0, Value.int IntKind.i64 0, Value.slice (some { block := X.heap.size, off := 0 }) 3 3, Value.string { data := #[] }, Value.string { data := #[] }], .agg #[.int .i64 1, .int .i64 f, .int .i64 0, .int .i64 0, (.slice (some ⟨X.heap.size, 0, none⟩) 3 3), .string ⟨#[]⟩, .string ⟨#[]⟩], undef, undef, str eph, undef, str C3, undef], defers := [] }) 5 (fun Y P => Below WW.heap.size WW Y ∧ True) ?_ (fun T0_3 => ?_)
    · rintro Y P ⟨hX, hT⟩
      clear hT
      obtain ⟨m0, m1, m2, m3, m4⟩ := KA.out _ (base BW.out (base HS.out hX))
      obtain ⟨l0, l1, l2, l3, l4, l5, l6, lz, lf⟩ := hms.seven (keptB L7.out hX)
      have HX := Lib.hid hX
      clear hX 
      refine wpAny_ready (rs := [1]) (by kernel_rfl) (by simp) ?_
      refine AllReady.cons rfl (fun K hK => ?_) AllReady.nil
      go_simp
      refine hK _ _ ?_
      clear hK K
      refine relist (l' := #[true, true, false, true, false, true, false, false]) (by kernel_rfl) ?_
      exact T0_1_3 _ () ⟨HX.out, True.intro⟩
    refine split (α := Unit) #[false, true, false, true, false, true, false, false] (fun P => { tmps := #[Value.pointer (some { block := p0, off := 0 }), Value.pointer (some { block := p1, off := 0 }), Value.pointer (some { block := p2, off := 0 }), Value.pointer (some { block := p3, off := 0 }), Value.pointer (some { block := p4, off := 0 }), Value.pointer (some { block := w.heap.size, off := 0 }), str PE, str C1, Value.func (Fn.func 57) #[str C2] #[], str C2, str C3, Value.func (Fn.func 57) #[str C3] #[], str S1, str S2, Value.pointer (some { block := X.heap.size + 1, off := 0 }), str me, str lock, str eph, str stamp, Value.slice (some { block := w.heap.size + 1, off := 0 }) 4 4, Value.tuple #[], Value.int IntKind.i64 f, Value.bool true, Value.bool true, str me, Value.bool true, Value.bool true, Value.bool true, str lock, Value.bool true, Value.bool true, Value.bool true, str eph, Value.bool true, Value.bool true, Value.bool true, str stamp, Value.bool true, Value.bool true, Value.tuple #[], str eph, Value.slice (some { block := w7.heap.size, off := 0 }) 1 1, str PE, Value.tuple #[str C1, Value.func (Fn.func 57) #[str C1] #[]], str lock, str H0, str PE, Value.tuple #[str C1, Value.func (Fn.func 57) #[str C1] #[]], str C1, Value.func (Fn.func 57) #[str C1] #[], Value.tuple #[str C2, Value.func (Fn.func 57) #[str C2] #[]], Value.func (Fn.func 57) #[str C1] #[], str eph, str lock, str D1, Value.tuple #[str C2, Value.func (Fn.func 57) #[str C2] #[]], str C2, Value.func (Fn.func 57) #[str C2] #[], Value.tuple #[str C3, Value.func (Fn.func 57) #[str C3] #[]], Value.func (Fn.func 57) #[str C2] #[], str me, str lock, str D2, Value.tuple #[str C3, Value.func (Fn.func 57) #[str C3] #[]], str C3, Value.func (Fn.func 57) #[str C3] #[], str C2, str me, Value.slice (some { block := O.fst, off := 0 }) 1 1, str PM, Value.slice (some { block := O.snd.fst, off := 0 }) 2 2, str S1, str C3, str stamp, Value.slice (some { block := O.snd.snd, off := 0 }) 2 2, str S2, Value.int IntKind.i64 f, str PE, str S1, str S2, Value.slice (some { block := X.heap.size, off := 0 }) 3 3, Value.agg #[Value.int IntKind.i64 1, Value.int IntKind.i64 f, Value.int IntKind.i64 0, Value.int IntKind.i64 0, Value.slice (some { block := X.heap.size, off := 0 }) 3 3, Value.string { data := #[] }, Value.string { data := #[] }], undef, str lock, undef, str eph, undef, str C3, undef], defers := [] }) 5 (fun Y P => Below WW.heap.size WW Y ∧ True) ?_ (fun T1_3 => ?_)
    · rintro Y P ⟨hX, hT⟩
      clear hT
      obtain ⟨m0, m1, m2, m3, m4⟩ := KA.out _ (base BW.out (base HS.out hX))
      obtain ⟨l0, l1, l2, l3, l4, l5, l6, lz, lf⟩ := hms.seven (keptB L7.out hX)
      have HX := Lib.hid hX
      clear hX 
      refine wpAny_ready (rs := [0]) (by kernel_rfl) (by simp) ?_
      refine AllReady.cons rfl (fun K hK => ?_) AllReady.nil
      go_simp
      refine hK _ _ ?_
      clear hK K
      refine relist (l' := #[true, true, false, true, false, true, false, false]) (by kernel_rfl) ?_
      exact T0_1_3 _ () ⟨HX.out, True.intro⟩
    refine split (α := Unit) #[true, false, false, false, false, true, false, false] (fun P => { tmps := #[Value.pointer (some { block := p0, off := 0 }), Value.pointer (some { block := p1, off := 0 }), Value.pointer (some { block := p2, off := 0 }), Value.pointer (some { block := p3, off := 0 }), Value.pointer (some { block := p4, off := 0 }), Value.pointer (some { block := w.heap.size, off := 0 }), str PE, str C1, Value.func (Fn.func 57) #[str C2] #[], str C2, str C3, Value.func (Fn.func 57) #[str C3] #[], str S1, str S2, Value.pointer (some { block := X.heap.size + 1, off := 0 }), str me, str lock, str eph, str stamp, Value.slice (some { block := w.heap.size + 1, off := 0 }) 4 4, Value.tuple #[], Value.int IntKind.i64 f, Value.bool true, Value.bool true, str me, Value.bool true, Value.bool true, Value.bool true, str lock, Value.bool true, Value.bool true, Value.bool true, str eph, Value.bool true, Value.bool true, Value.bool true, str stamp, Value.bool true, Value.bool true, Value.tuple #[], str eph, Value.slice (some { block := w7.heap.size, off := 0 }) 1 1, str PE, Value.tuple #[str C1, Value.func (Fn.func 57) #[str C1] #[]], str lock, str H0, str PE, Value.tuple #[str C1, Value.func (Fn.func 57) #[str C1] #[]], str C1, Value.func (Fn.func 57) #[str C1] #[], Value.tuple #[str C2, Value.func (Fn.func 57) #[str C2] #[]], Value.func (Fn.func 57) #[str C1] #[], str eph, str lock, str D1, Value.tuple #[str C2, Value.func (Fn.func 57) #[str C2] #[]], str C2, Value.func (Fn.func 57) #[str C2] #[], Value.tuple #[str C3, Value.func (Fn.func 57) #[str C3] #[]], Value.func (Fn.func 57) #[str C2] #[], str me, str lock, str D2, Value.tuple #[str C3, Value.func (Fn.func 57) #[str C3] #[]], str C3, Value.func (Fn.func 57) #[str C3] #[], str C2, str me, Value.slice (some { block := O.fst, off := 0 }) 1 1, str PM, Value.slice (some { block := O.snd.fst, off := 0 }) 2 2, str S1, str C3, str stamp, Value.slice (some { block := O.snd.snd, off := 0 }) 2 2, str S2, Value.int IntKind.i64 f, str PE, str S1, str S2, Value.slice (some { block := X.heap.size, off := 0 }) 3 3, Value.agg #[Value.int IntKind.i64 1, Value.int IntKind.i64 f, Value.int IntKind.i64 0, Value.int IntKind.i64 0, Value.slice (some { block := X.heap.size, off := 0 }) 3 3, Value.string { data := #[] }, Value.string { data := #[] }], .agg #[.int .i64 1, .int .i64 f, .int .i64 0, .int .i64 0, (.slice (some ⟨X.heap.size, 0, none⟩) 3 3), .string ⟨#[]⟩, .string ⟨#[]⟩], undef, undef, undef, undef, str C3, undef], defers := [] }) 6 (fun Y P => Below WW.heap.size WW Y ∧ True) ?_ (fun T0 => ?_)
    · rintro Y P ⟨hX, hT⟩
      clear hT
      obtain ⟨m0, m1, m2, m3, m4⟩ := KA.out _ (base BW.out (base HS.out hX))
      obtain ⟨l0, l1, l2, l3, l4, l5, l6, lz, lf⟩ := hms.seven (keptB L7.out hX)
      have HX := Lib.hid hX
      clear hX 
      refine wpAny_ready (rs := [1, 3]) (by kernel_rfl) (by simp) ?_
      refine AllReady.cons rfl (fun K hK => ?_) (AllReady.cons rfl (fun K hK => ?_) AllReady.nil)
      · go_simp
        refine hK _ _ ?_
        clear hK K
        refine relist (l' := #[true, true, false, false, false, true, false, false]) (by kernel_rfl) ?_
        exact T0_1 _ () ⟨HX.out, True.intro⟩
      · go_simp
        refine hK _ _ ?_
        clear hK K
        refine relist (l' := #[true, false, false, true, false, true, false, false]) (by kernel_rfl) ?_
        exact T0_3 _ () ⟨HX.out, True.intro⟩
    refine split (α := Unit) #[false, true, false, false, false, true, false, false] (fun P => { tmps := #[Value.pointer (some { block := p0, off := 0 }), Value.pointer (some { block := p1, off := 0 }), Value.pointer (some { block := p2, off := 0 }), Value.pointer (some { block := p3, off := 0 }), Value.pointer (some { block := p4, off := 0 }), Value.pointer (some { block := w.heap.size, off := 0 }), str PE, str C1, Value.func (Fn.func 57) #[str C2] #[], str C2, str C3, Value.func (Fn.func 57) #[str C3] #[], str S1, str S2, Value.pointer (some { block := X.heap.size + 1, off := 0 }), str me, str lock, str eph, str stamp, Value.slice (some { block := w.heap.size + 1, off := 0 }) 4 4, Value.tuple #[], Value.int IntKind.i64 f, Value.bool true, Value.bool true, str me, Value.bool true, Value.bool true, Value.bool true, str lock, Value.bool true, Value.bool true, Value.bool true, str eph, Value.bool true, Value.bool true, Value.bool true, str stamp, Value.bool true, Value.bool true, Value.tuple #[], str eph, Value.slice (some { block := w7.heap.size, off := 0 }) 1 1, str PE, Value.tuple #[str C1, Value.func (Fn.func 57) #[str C1] #[]], str lock, str H0, str PE, Value.tuple #[str C1, Value.func (Fn.func 57) #[str C1] #[]], str C1, Value.func (Fn.func 57) #[str C1] #[], Value.tuple #[str C2, Value.func (Fn.func 57) #[str C2] #[]], Value.func (Fn.func 57) #[str C1] #[], str eph, str lock, str D1, Value.tuple #[str C2, Value.func (Fn.func 57) #[str C2] #[]], str C2, Value.func (Fn.func 57) #[str C2] #[], Value.tuple #[str C3, Value.func (Fn.func 57) #[str C3] #[]], Value.func (Fn.func 57) #[str C2] #[], str me, str lock, str D2, Value.tuple #[str C3, Value.func (Fn.func 57) #[str C3] #[]], str C3, Value.func (Fn.func 57) #[str C3] #[], str C2, str me, Value.slice (some { block := O.fst, off := 0 }) 1 1, str PM, Value.slice (some { block := O.snd.fst, off := 0 }) 2 2, str S1, str C3, str stamp, Value.slice (some { block := O.snd.snd, off := 0 }) 2 2, str S2, Value.int IntKind.i64 f, str PE, str S1, str S2, Value.slice (some { block := X.heap.size, off := 0 }) 3 3, Value.agg #[Value.int IntKind.i64 1, Value.int IntKind.i64 f, Value.int IntKind.i64 0, Value.int IntKind.i64 0, Value.slice (some { block := X.heap.size, off := 0 }) 3 3, Value.string { data := #[] }, Value.string { data := #[] }], undef, str lock, undef, undef, undef, str C3, undef], defers := [] }) 6 (fun Y P => Below WW.heap.size WW Y ∧ True) ?_ (fun T1 => ?_)
    · rintro Y P ⟨hX, hT⟩
      clear hT
      obtain ⟨m0, m1, m2, m3, m4⟩ := KA.out _ (base BW.out (base HS.out hX))
      obtain ⟨l0, l1, l2, l3, l4, l5, l6, lz, lf⟩ := hms.seven (keptB L7.out hX)
      have HX := Lib.hid hX
      clear hX 
      refine wpAny_ready (rs := [0, 3]) (by kernel_rfl) (by simp) ?_
      refine AllReady.cons rfl (fun K hK => ?_) (AllReady.cons rfl (fun K hK => ?_) AllReady.nil)
      · go_simp
        refine hK _ _ ?_
        clear hK K
        refine relist (l' := #[true, true, false, false, false, true, false, false]) (by kernel_rfl) ?_
        exact T0_1 _ () ⟨HX.out, True.intro⟩
      · go_simp
        refine hK _ _ ?_
        clear hK K
        refine relist (l' := #[false, true, false, true, false, true, false, false]) (by kernel_rfl) ?_
        exact T1_3 _ () ⟨HX.out, True.intro⟩
    refine split (α := Unit) #[false, false, false, true, false, true, false, false] (fun P => { tmps := #[Value.pointer (some { block := p0, off := 0 }), Value.pointer (some { block := p1, off := 0 }), Value.pointer (some { block := p2, off := 0 }), Value.pointer (some { block := p3, off := 0 }), Value.pointer (some { block := p4, off := 0 }), Value.pointer (some { block := w.heap.size, off := 0 }), str PE, str C1, Value.func (Fn.func 57) #[str C2] #[], str C2, str C3, Value.func (Fn.func 57) #[str C3] #[], str S1, str S2, Value.pointer (some { block := X.heap.size + 1, off := 0 }), str me, str lock, str eph, str stamp, Value.slice (some { block := w.heap.size + 1, off := 0 }) 4 4, Value.tuple #[], Value.int IntKind.i64 f, Value.bool true, Value.bool true, str me, Value.bool true, Value.bool true, Value.bool true, str lock, Value.bool true, Value.bool true, Value.bool true, str eph, Value.bool true, Value.bool true, Value.bool true, str stamp, Value.bool true, Value.bool true, Value.tuple #[], str eph, Value.slice (some { block := w7.heap.size, off := 0 }) 1 1, str PE, Value.tuple #[str C1, Value.func (Fn.func 57) #[str C1] #[]], str lock, str H0, str PE, Value.tuple #[str C1, Value.func (Fn.func 57) #[str C1] #[]], str C1, Value.func (Fn.func 57) #[str C1] #[], Value.tuple #[str C2, Value.func (Fn.func 57) #[str C2] #[]], Value.func (Fn.func 57) #[str C1] #[], str eph, str lock, str D1, Value.tuple #[str C2, Value.func (Fn.func 57) #[str C2] #[]], str C2, Value.func (Fn.func 57) #[str C2] #[], Value.tuple #[str C3, Value.func (Fn.func 57) #[str C3] #[]], Value.func (Fn.func 57) #[str C2] #[], str me, str lock, str D2, Value.tuple #[str C3, Value.func (Fn.func 57) #[str C3] #[]], str C3, Value.func (Fn.func 57) #[str C3] #[], str C2, str me, Value.slice (some { block := O.fst, off := 0 }) 1 1, str PM, Value.slice (some { block := O.snd.fst, off := 0 }) 2 2, str S1, str C3, str stamp, Value.slice (some { block := O.snd.snd, off := 0 }) 2 2, str S2, Value.int IntKind.i64 f, str PE, str S1, str S2, Value.slice (some { block := X.heap.size, off := 0 }) 3 3, Value.agg #[Value.int IntKind.i64 1, Value.int IntKind.i64 f, Value.int IntKind.i64 0, Value.int IntKind.i64 0, Value.slice (some { block := X.heap.size, off := 0 }) 3 3, Value.string { data := #[] }, Value.string { data := #[] }], undef, undef, undef, str eph, undef, str C3, undef], defers := [] }) 6 (fun Y P => Below WW.heap.size WW Y ∧ True) ?_ (fun T3 => ?_)
    · rintro Y P ⟨hX, hT⟩
      clear hT
      obtain ⟨m0, m1, m2, m3, m4⟩ := KA.out _ (base BW.out (base HS.out hX))
      obtain ⟨l0, l1, l2, l3, l4, l5, l6, lz, lf⟩ := hms.seven (keptB L7.out hX)
      have HX := Lib.hid hX
      clear hX 
      refine wpAny_ready (rs := [0, 1]) (by kernel_rfl) (by simp) ?_
      refine AllReady.cons rfl (fun K hK => ?_) (AllReady.cons rfl (fun K hK => ?_) AllReady.nil)
      · go_simp
        refine hK _ _ ?_
        clear hK K
        refine relist (l' := #[true, false, false, true, false, true, false, false]) (by kernel_rfl) ?_
        exact T0_3 _ () ⟨HX.out, True.intro⟩
      · go_simp
        refine hK _ _ ?_
        clear hK K
        refine relist (l' := #[false, true, false, true, false, true, false, false]) (by kernel_rfl) ?_
        exact T1_3 _ () ⟨HX.out, True.intro⟩
    refine split (α := Unit) #[false, false, false, false, false, true, false, false] (fun P => { tmps := #[Value.pointer (some { block := p0, off := 0 }), Value.pointer (some { block := p1, off := 0 }), Value.pointer (some { block := p2, off := 0 }), Value.pointer (some { block := p3, off := 0 }), Value.pointer (some { block := p4, off := 0 }), Value.pointer (some { block := w.heap.size, off := 0 }), str PE, str C1, Value.func (Fn.func 57) #[str C2] #[], str C2, str C3, Value.func (Fn.func 57) #[str C3] #[], str S1, str S2, Value.pointer (some { block := X.heap.size + 1, off := 0 }), str me, str lock, str eph, str stamp, Value.slice (some { block := w.heap.size + 1, off := 0 }) 4 4, Value.tuple #[], Value.int IntKind.i64 f, Value.bool true, Value.bool true, str me, Value.bool true, Value.bool true, Value.bool true, str lock, Value.bool true, Value.bool true, Value.bool true, str eph, Value.bool true, Value.bool true, Value.bool true, str stamp, Value.bool true, Value.bool true, Value.tuple #[], str eph, Value.slice (some { block := w7.heap.size, off := 0 }) 1 1, str PE, Value.tuple #[str C1, Value.func (Fn.func 57) #[str C1] #[]], str lock, str H0, str PE, Value.tuple #[str C1, Value.func (Fn.func 57) #[str C1] #[]], str C1, Value.func (Fn.func 57) #[str C1] #[], Value.tuple #[str C2, Value.func (Fn.func 57) #[str C2] #[]], Value.func (Fn.func 57) #[str C1] #[], str eph, str lock, str D1, Value.tuple #[str C2, Value.func (Fn.func 57) #[str C2] #[]], str C2, Value.func (Fn.func 57) #[str C2] #[], Value.tuple #[str C3, Value.func (Fn.func 57) #[str C3] #[]], Value.func (Fn.func 57) #[str C2] #[], str me, str lock, str D2, Value.tuple #[str C3, Value.func (Fn.func 57) #[str C3] #[]], str C3, Value.func (Fn.func 57) #[str C3] #[], str C2, str me, Value.slice (some { block := O.fst, off := 0 }) 1 1, str PM, Value.slice (some { block := O.snd.fst, off := 0 }) 2 2, str S1, str C3, str stamp, Value.slice (some { block := O.snd.snd, off := 0 }) 2 2, str S2, Value.int IntKind.i64 f, str PE, str S1, str S2, Value.slice (some { block := X.heap.size, off := 0 }) 3 3, Value.agg #[Value.int IntKind.i64 1, Value.int IntKind.i64 f, Value.int IntKind.i64 0, Value.int IntKind.i64 0, Value.slice (some { block := X.heap.size, off := 0 }) 3 3, Value.string { data := #[] }, Value.string { data := #[] }], undef, undef, undef, undef, undef, str C3, undef], defers := [] }) 7 (fun Y P => Below WW.heap.size WW Y ∧ True) ?_ (fun T0 => ?_)
    · rintro Y P ⟨hX, hT⟩
      clear hT
      obtain ⟨m0, m1, m2, m3, m4⟩ := KA.out _ (base BW.out (base HS.out hX))
      obtain ⟨l0, l1, l2, l3, l4, l5, l6, lz, lf⟩ := hms.seven (keptB L7.out hX)
      have HX := Lib.hid hX
      clear hX 
      refine wpAny_ready (rs := [0, 1, 3]) (by kernel_rfl) (by simp) ?_
      refine AllReady.cons rfl (fun K hK => ?_) (AllReady.cons rfl (fun K hK => ?_) (AllReady.cons rfl (fun K hK => ?_) AllReady.nil))
      · go_simp
        refine hK _ _ ?_
        clear hK K
        refine relist (l' := #[true, false, false, false, false, true, false, false]) (by kernel_rfl) ?_
        exact T0 _ () ⟨HX.out, True.intro⟩
      · go_simp
        refine hK _ _ ?_
        clear hK K
        refine relist (l' := #[false, true, false, false, false, true, false, false]) (by kernel_rfl) ?_
        exact T1 _ () ⟨HX.out, True.intro⟩
      · go_simp
        refine hK _ _ ?_
        clear hK K
        refine relist (l' := #[false, false, false, true, false, true, false, false]) (by kernel_rfl) ?_
        exact T3 _ () ⟨HX.out, True.intro⟩
    exact T0 _ () ⟨(rdr.Still.drewN WW 1).below _, True.intro⟩
  refine split (α := Nat × Nat × Nat) #[true, true, true, true, true, true, true, true, true, false, false, false] (fun O => { tmps := #[Value.pointer (some { block := p0, off := 0 }), Value.pointer (some { block := p1, off := 0 }), Value.pointer (some { block := p2, off := 0 }), Value.pointer (some { block := p3, off := 0 }), Value.pointer (some { block := p4, off := 0 }), Value.pointer (some { block := w.heap.size, off := 0 }), str PE, str C1, Value.func (Fn.func 57) #[str C2] #[], str C2, str C3, Value.func (Fn.func 57) #[str C3] #[], undef, undef, undef, str me, str lock, str eph, str stamp, Value.slice (some { block := w.heap.size + 1, off := 0 }) 4 4, Value.tuple #[], Value.int IntKind.i64 f, Value.bool true, Value.bool true, str me, Value.bool true, Value.bool true, Value.bool true, str lock, Value.bool true, Value.bool true, Value.bool true, str eph, Value.bool true, Value.bool true, Value.bool true, str stamp, Value.bool true, Value.bool true, Value.tuple #[], str eph, Value.slice (some { block := w7.heap.size, off := 0 }) 1 1, str PE, Value.tuple #[str C1, Value.func (Fn.func 57) #[str C1] #[]], str lock, str H0, str PE, Value.tuple #[str C1, Value.func (Fn.func 57) #[str C1] #[]], str C1, Value.func (Fn.func 57) #[str C1] #[], Value.tuple #[str C2, Value.func (Fn.func 57) #[str C2] #[]], Value.func (Fn.func 57) #[str C1] #[], str eph, str lock, str D1, Value.tuple #[str C2, Value.func (Fn.func 57) #[str C2] #[]], str C2, Value.func (Fn.func 57) #[str C2] #[], Value.tuple #[str C3, Value.func (Fn.func 57) #[str C3] #[]], Value.func (Fn.func 57) #[str C2] #[], str me, str lock, str D2, Value.tuple #[str C3, Value.func (Fn.func 57) #[str C3] #[]], str C3, Value.func (Fn.func 57) #[str C3] #[], str C2, str me, .slice (some ⟨O.1, 0, none⟩) 1 1, str PM, .slice (some ⟨O.2.1, 0, none⟩) 2 2, str S1, str C3, str stamp, .slice (some ⟨O.2.2, 0, none⟩) 2 2, undef, undef, undef, undef, undef, undef, undef, undef, undef, undef, undef, undef, undef, undef], defers := [] }) 3 (fun X O => Below w14.heap.size w14 X ∧ (X.heap[O.1]? = some (.cells #[str me] 9 (0, 0)) ∧ w14.heap.size ≤ O.1) ∧ (X.heap[O.2.1]? = some (.cells #[str C2, str PM] 9 (0, 0)) ∧ w14.heap.size ≤ O.2.1) ∧ (X.heap[O.2.2]? = some (.cells #[str C3, str stamp] 9 (0, 0)) ∧ w14.heap.size ≤ O.2.2) ∧ True) ?_ (fun T1_2_3_4_5_7_8 => ?_)
  · rintro X O ⟨hX, h2, h4, h8, hT⟩
    clear hT
    obtain ⟨m0, m1, m2, m3, m4⟩ := KA.out _ (base BW.out (base HB14.out hX))
    have HX := Lib.hid hX
    have H2 := Lib.hid h2
    have H4 := Lib.hid h4
    have H8 := Lib.hid h8
    clear hX h2 h4 h8
    refine wpAny_ready (rs := [9]) (by kernel_rfl) (by simp) ?_
    refine AllReady.cons rfl (fun K hK => ?_) AllReady.nil
    go_simp
    refine (SBH.out _ _ (rdr.two H8.out.1).1 (rdr.two H8.out.1).2.1 (rdr.two H8.out.1).2.2.2.2).mono ?_
    rintro e x1 ⟨rfl, hb⟩
    refine hK _ _ ?_
    clear hK K
    refine wpAny_take (i := 10) (v := str S1) rfl (by kernel_rfl) (by kernel_rfl) (by kernel_rfl) (fun _ _ _ h => h) (Or.inl ⟨by kernel_rfl, ?_⟩) ?_
    · intro w; go_simp; first | done | with_reducible rfl | rfl
    refine wpAny_take (i := 11) (v := str S2) rfl (by kernel_rfl) (by kernel_rfl) (by kernel_rfl) (fun _ _ _ h => h) (Or.inl ⟨by kernel_rfl, ?_⟩) ?_
    · intro w; go_simp; first | done | with_reducible rfl | rfl
    refine relist (l' := #[true, true, true, true, true, true, true, true, true, true, true, true]) (by kernel_rfl) ?_
    exact T1_2_3_4_5_7_8_9 _ (O.1, O.2.1, O.2.2) ⟨(base HX.out hb), ⟨keptB H2.out.1 hb, H2.out.2⟩, ⟨keptB H4.out.1 hb, H4.out.2⟩, ⟨keptB H8.out.1 hb, H8.out.2⟩, True.intro⟩
  refine split (α := Nat × Nat × Nat) #[true, true, true, true, true, true, true, true, false, false, false, false] (fun O => { tmps := #[Value.pointer (some { block := p0, off := 0 }), Value.pointer (some { block := p1, off := 0 }), Value.pointer (some { block := p2, off := 0 }), Value.pointer (some { block := p3, off := 0 }), Value.pointer (some { block := p4, off := 0 }), Value.pointer (some { block := w.heap.size, off := 0 }), str PE, str C1, Value.func (Fn.func 57) #[str C2] #[], str C2, str C3, Value.func (Fn.func 57) #[str C3] #[], undef, undef, undef, str me, str lock, str eph, str stamp, Value.slice (some { block := w.heap.size + 1, off := 0 }) 4 4, Value.tuple #[], Value.int IntKind.i64 f, Value.bool true, Value.bool true, str me, Value.bool true, Value.bool true, Value.bool true, str lock, Value.bool true, Value.bool true, Value.bool true, str eph, Value.bool true, Value.bool true, Value.bool true, str stamp, Value.bool true, Value.bool true, Value.tuple #[], str eph, Value.slice (some { block := w7.heap.size, off := 0 }) 1 1, str PE, Value.tuple #[str C1, Value.func (Fn.func 57) #[str C1] #[]], str lock, str H0, str PE, Value.tuple #[str C1, Value.func (Fn.func 57) #[str C1] #[]], str C1, Value.func (Fn.func 57) #[str C1] #[], Value.tuple #[str C2, Value.func (Fn.func 57) #[str C2] #[]], Value.func (Fn.func 57) #[str C1] #[], str eph, str lock, str D1, Value.tuple #[str C2, Value.func (Fn.func 57) #[str C2] #[]], str C2, Value.func (Fn.func 57) #[str C2] #[], Value.tuple #[str C3, Value.func (Fn.func 57) #[str C3] #[]], Value.func (Fn.func 57) #[str C2] #[], str me, str lock, str D2, Value.tuple #[str C3, Value.func (Fn.func 57) #[str C3] #[]], str C3, Value.func (Fn.func 57) #[str C3] #[], str C2, str me, .slice (some ⟨O.1, 0, none⟩) 1 1, str PM, .slice (some ⟨O.2.1, 0, none⟩) 2 2, str S1, str C3, str stamp, undef, undef, undef, undef, undef, undef, undef, undef, undef, undef, undef, undef, undef, undef, undef], defers := [] }) 4 (fun X O => Below w14.heap.size w14 X ∧ (X.heap[O.1]? = some (.cells #[str me] 9 (0, 0)) ∧ w14.heap.size ≤ O.1) ∧ (X.heap[O.2.1]? = some (.cells #[str C2, str PM] 9 (0, 0)) ∧ w14.heap.size ≤ O.2.1) ∧ True) ?_ (fun T1_2_3_4_5_7 => ?_)
  · rintro X O ⟨hX, h2, h4, hT⟩
    clear hT
    obtain ⟨m0, m1, m2, m3, m4⟩ := KA.out _ (base BW.out (base HB14.out hX))
    have HX := Lib.hid hX
    have H2 := Lib.hid h2
    have H4 := Lib.hid h4
    clear hX h2 h4
    refine wpAny_ready (rs := [8]) (by kernel_rfl) (by simp) ?_
    refine AllReady.cons rfl (fun K hK => ?_) AllReady.nil
    go_simp
    refine hK _ _ ?_
    clear hK K
    refine relist (l' := #[true, true, true, true, true, true, true, true, true, false, false, false]) (by kernel_rfl) ?_
    exact T1_2_3_4_5_7_8 _ (O.1, O.2.1, X.heap.size) ⟨(al1 HX.out (.cells #[str C3, str stamp] 9)), ⟨keptA H2.out.1 (.cells #[str C3, str stamp] 9), H2.out.2⟩, ⟨keptA H4.out.1 (.cells #[str C3, str stamp] 9), H4.out.2⟩, ⟨heap_alloc_new X (.cells #[str C3, str stamp] 9), HX.out.size⟩, True.intro⟩
  refine split (α := Nat × Nat × Nat) #[true, true, true, true, true, false, true, true, true, false, false, false] (fun O => { tmps := #[Value.pointer (some { block := p0, off := 0 }), Value.pointer (some { block := p1, off := 0 }), Value.pointer (some { block := p2, off := 0 }), Value.pointer (some { block := p3, off := 0 }), Value.pointer (some { block := p4, off := 0 }), Value.pointer (some { block := w.heap.size, off := 0 }), str PE, str C1, Value.func (Fn.func 57) #[str C2] #[], str C2, str C3, Value.func (Fn.func 57) #[str C3] #[], undef, undef, undef, str me, str lock, str eph, str stamp, Value.slice (some { block := w.heap.size + 1, off := 0 }) 4 4, Value.tuple #[], Value.int IntKind.i64 f, Value.bool true, Value.bool true, str me, Value.bool true, Value.bool true, Value.bool true, str lock, Value.bool true, Value.bool true, Value.bool true, str eph, Value.bool true, Value.bool true, Value.bool true, str stamp, Value.bool true, Value.bool true, Value.tuple #[], str eph, Value.slice (some { block := w7.heap.size, off := 0 }) 1 1, str PE, Value.tuple #[str C1, Value.func (Fn.func 57) #[str C1] #[]], str lock, str H0, str PE, Value.tuple #[str C1, Value.func (Fn.func 57) #[str C1] #[]], str C1, Value.func (Fn.func 57) #[str C1] #[], Value.tuple #[str C2, Value.func (Fn.func 57) #[str C2] #[]], Value.func (Fn.func 57) #[str C1] #[], str eph, str lock, str D1, Value.tuple #[str C2, Value.func (Fn.func 57) #[str C2] #[]], str C2, Value.func (Fn.func 57) #[str C2] #[], Value.tuple #[str C3, Value.func (Fn.func 57) #[str C3] #[]], Value.func (Fn.func 57) #[str C2] #[], str me, str lock, str D2, Value.tuple #[str C3, Value.func (Fn.func 57) #[str C3] #[]], str C3, Value.func (Fn.func 57) #[str C3] #[], str C2, str me, .slice (some ⟨O.1, 0, none⟩) 1 1, str PM, .slice (some ⟨O.2.1, 0, none⟩) 2 2, undef, str C3, str stamp, .slice (some ⟨O.2.2, 0, none⟩) 2 2, undef, undef, undef, undef, undef, undef, undef, undef, undef, undef, undef, undef, undef, undef], defers := [] }) 4 (fun X O => Below w14.heap.size w14 X ∧ (X.heap[O.1]? = some (.cells #[str me] 9 (0, 0)) ∧ w14.heap.size ≤ O.1) ∧ (X.heap[O.2.1]? = some (.cells #[str C2, str PM] 9 (0, 0)) ∧ w14.heap.size ≤ O.2.1) ∧ (X.heap[O.2.2]? = some (.cells #[str C3, str stamp] 9 (0, 0)) ∧ w14.heap.size ≤ O.2.2) ∧ True) ?_ (fun T1_2_3_4_7_8 => ?_)
  · rintro X O ⟨hX, h2, h4, h8, hT⟩
    clear hT
    obtain ⟨m0, m1, m2, m3, m4⟩ := KA.out _ (base BW.out (base HB14.out hX))
    have HX := Lib.hid hX
    have H2 := Lib.hid h2
    have H4 := Lib.hid h4
    have H8 := Lib.hid h8
    clear hX h2 h4 h8
    refine wpAny_ready (rs := [5]) (by kernel_rfl) (by simp) ?_
    refine AllReady.cons rfl (fun K hK => ?_) AllReady.nil
    go_simp
    refine (SAH.out _ _ (rdr.two H4.out.1).1 (rdr.two H4.out.1).2.1 (rdr.two H4.out.1).2.2.2.2).mono ?_
    rintro e x1 ⟨rfl, hb⟩
    refine hK _ _ ?_
    clear hK K
    refine relist (l' := #[true, true, true, true, true, true, true, true, true, false, false, false]) (by kernel_rfl) ?_
    exact T1_2_3_4_5_7_8 _ (O.1, O.2.1, O.2.2) ⟨(base HX.out hb), ⟨keptB H2.out.1 hb, H2.out.2⟩, ⟨keptB H4.out.1 hb, H4.out.2⟩, ⟨keptB H8.out.1 hb, H8.out.2⟩, True.intro⟩
  refine split (α := Nat × Nat × Nat) #[true, true, true, true, true, true, true, false, false, false, false, false] (fun O => { tmps := #[Value.pointer (some { block := p0, off := 0 }), Value.pointer (some { block := p1, off := 0 }), Value.pointer (some { block := p2, off := 0 }), Value.pointer (some { block := p3, off := 0 }), Value.pointer (some { block := p4, off := 0 }), Value.pointer (some { block := w.heap.size, off := 0 }), str PE, str C1, Value.func (Fn.func 57) #[str C2] #[], str C2, str C3, Value.func (Fn.func 57) #[str C3] #[], undef, undef, undef, str me, str lock, str eph, str stamp, Value.slice (some { block := w.heap.size + 1, off := 0 }) 4 4, Value.tuple #[], Value.int IntKind.i64 f, Value.bool true, Value.bool true, str me, Value.bool true, Value.bool true, Value.bool true, str lock, Value.bool true, Value.bool true, Value.bool true, str eph, Value.bool true, Value.bool true, Value.bool true, str stamp, Value.bool true, Value.bool true, Value.tuple #[], str eph, Value.slice (some { block := w7.heap.size, off := 0 }) 1 1, str PE, Value.tuple #[str C1, Value.func (Fn.func 57) #[str C1] #[]], str lock, str H0, str PE, Value.tuple #[str C1, Value.func (Fn.func 57) #[str C1] #[]], str C1, Value.func (Fn.func 57) #[str C1] #[], Value.tuple #[str C2, Value.func (Fn.func 57) #[str C2] #[]], Value.func (Fn.func 57) #[str C1] #[], str eph, str lock, str D1, Value.tuple #[str C2, Value.func (Fn.func 57) #[str C2] #[]], str C2, Value.func (Fn.func 57) #[str C2] #[], Value.tuple #[str C3, Value.func (Fn.func 57) #[str C3] #[]], Value.func (Fn.func 57) #[str C2] #[], str me, str lock, str D2, Value.tuple #[str C3, Value.func (Fn.func 57) #[str C3] #[]], str C3, Value.func (Fn.func 57) #[str C3] #[], str C2, str me, .slice (some ⟨O.1, 0, none⟩) 1 1, str PM, .slice (some ⟨O.2.1, 0, none⟩) 2 2, str S1, str C3, undef, undef, undef, undef, undef, undef, undef, undef, undef, undef, undef, undef, undef, undef, undef, undef], defers := [] }) 5 (fun X O => Below w14.heap.size w14 X ∧ (X.heap[O.1]? = some (.cells #[str me] 9 (0, 0)) ∧ w14.heap.size ≤ O.1) ∧ (X.heap[O.2.1]? = some (.cells #[str C2, str PM] 9 (0, 0)) ∧ w14.heap.size ≤ O.2.1) ∧ True) ?_ (fun T1_2_3_4_5 => ?_)
  · rintro X O ⟨hX, h2, h4, hT⟩
    clear hT
    obtain ⟨m0, m1, m2, m3, m4⟩ := KA.out _ (base BW.out (base HB14.out hX))
    have HX := Lib.hid hX
    have H2 := Lib.hid h2
    have H4 := Lib.hid h4
    clear hX h2 h4
    refine wpAny_ready (rs := [7]) (by kernel_rfl) (by simp) ?_
    refine AllReady.cons rfl (fun K hK => ?_) AllReady.nil
    go_simp
    refine hK _ _ ?_
    clear hK K
    refine relist (l' := #[true, true, true, true, true, true, true, true, false, false, false, false]) (by kernel_rfl) ?_
    exact T1_2_3_4_5_7 _ (O.1, O.2.1, O.2.2) ⟨HX.out, H2.out, H4.out, True.intro⟩
  refine split (α := Nat × Nat × Nat) #[true, true, true, true, true, false, true, true, false, false, false, false] (fun O => { tmps := #[Value.pointer (some { block := p0, off := 0 }), Value.pointer (some { block := p1, off := 0 }), Value.pointer (some { block := p2, off := 0 }), Value.pointer (some { block := p3, off := 0 }), Value.pointer (some { block := p4, off := 0 }), Value.pointer (some { block := w.heap.size, off := 0 }), str PE, str C1, Value.func (Fn.func 57) #[str C2] #[], str C2, str C3, Value.func (Fn.func 57) #[str C3] #[], undef, undef, undef, str me, str lock, str eph, str stamp, Value.slice (some { block := w.heap.size + 1, off := 0 }) 4 4, Value.tuple #[], Value.int IntKind.i64 f, Value.bool true, Value.bool true, str me, Value.bool true, Value.bool true, Value.bool true, str lock, Value.bool true, Value.bool true, Value.bool true, str eph, Value.bool true, Value.bool true, Value.bool true, str stamp, Value.bool true, Value.bool true, Value.tuple #[], str eph, Value.slice (some { block := w7.heap.size, off := 0 }) 1 1, str PE, Value.tuple #[str C1, Value.func (Fn.func 57) #[str C1] #[]], str lock, str H0, str PE, Value.tuple #[str C1, Value.func (Fn.func 57) #[str C1] #[]], str C1, Value.func (Fn.func 57) #[str C1] #[], Value.tuple #[str C2, Value.func (Fn.func 57) #[str C2] #[]], Value.func (Fn.func 57) #[str C1] #[], str eph, str lock, str D1, Value.tuple #[str C2, Value.func (Fn.func 57) #[str C2] #[]], str C2, Value.func (Fn.func 57) #[str C2] #[], Value.tuple #[str C3, Value.func (Fn.func 57) #[str C3] #[]], Value.func (Fn.func 57) #[str C2] #[], str me, str lock, str D2, Value.tuple #[str C3, Value.func (Fn.func 57) #[str C3] #[]], str C3, Value.func (Fn.func 57) #[str C3] #[], str C2, str me, .slice (some ⟨O.1, 0, none⟩) 1 1, str PM, .slice (some ⟨O.2.1, 0, none⟩) 2 2, undef, str C3, str stamp, undef, undef, undef, undef, undef, undef, undef, undef, undef, undef, undef, undef, undef, undef, undef], defers := [] }) 5 (fun X O => Below w14.heap.size w14 X ∧ (X.heap[O.1]? = some (.cells #[str me] 9 (0, 0)) ∧ w14.heap.size ≤ O.1) ∧ (X.heap[O.2.1]? = some (.cells #[str C2, str PM] 9 (0, 0)) ∧ w14.heap.size ≤ O.2.1) ∧ True) ?_ (fun T1_2_3_4_7 => ?_)
  · rintro X O ⟨hX, h2, h4, hT⟩
    clear hT
    obtain ⟨m0, m1, m2, m3, m4⟩ := KA.out _ (base BW.out (base HB14.out hX))
    have HX := Lib.hid hX
    have H2 := Lib.hid h2
    have H4 := Lib.hid h4
    clear hX h2 h4
    refine wpAny_ready (rs := [5, 8]) (by kernel_rfl) (by simp) ?_
    refine AllReady.cons rfl (fun K hK => ?_) (AllReady.cons rfl (fun K hK => ?_) AllReady.nil)
    · go_simp
      refine (SAH.out _ _ (rdr.two H4.out.1).1 (rdr.two H4.out.1).2.1 (rdr.two H4.out.1).2.2.2.2).mono ?_
      rintro e x1 ⟨rfl, hb⟩
      refine hK _ _ ?_
      clear hK K
      refine relist (l' := #[true, true, true, true, true, true, true, true, false, false, false, false]) (by kernel_rfl) ?_
      exact T1_2_3_4_5_7 _ (O.1, O.2.1, O.2.2) ⟨(base HX.out hb), ⟨keptB H2.out.1 hb, H2.out.2⟩, ⟨keptB H4.out.1 hb, H4.out.2⟩, True.intro⟩
    · go_simp
      refine hK _ _ ?_
      clear hK K
      refine relist (l' := #[true, true, true, true, true, false, true, true, true, false, false, false]) (by kernel_rfl) ?_
      exact T1_2_3_4_7_8 _ (O.1, O.2.1, X.heap.size) ⟨(al1 HX.out (.cells #[str C3, str stamp] 9)), ⟨keptA H2.out.1 (.cells #[str C3, str stamp] 9), H2.out.2⟩, ⟨keptA H4.out.1 (.cells #[str C3, str stamp] 9), H4.out.2⟩, ⟨heap_alloc_new X (.cells #[str C3, str stamp] 9), HX.out.size⟩, True.intro⟩
  refine split (α := Nat × Nat × Nat) #[true, true, true, true, false, false, true, true, true, false, false, false] (fun O => { tmps := #[Value.pointer (some { block := p0, off := 0 }), Value.pointer (some { block := p1, off := 0 }), Value.pointer (some { block := p2, off := 0 }), Value.pointer (some { block := p3, off := 0 }), Value.pointer (some { block := p4, off := 0 }), Value.pointer (some { block := w.heap.size, off := 0 }), str PE, str C1, Value.func (Fn.func 57) #[str C2] #[], str C2, str C3, Value.func (Fn.func 57) #[str C3] #[], undef, undef, undef, str me, str lock, str eph, str stamp, Value.slice (some { block := w.heap.size + 1, off := 0 }) 4 4, Value.tuple #[], Value.int IntKind.i64 f, Value.bool true, Value.bool true, str me, Value.bool true, Value.bool true, Value.bool true, str lock, Value.bool true, Value.bool true, Value.bool true, str eph, Value.bool true, Value.bool true, Value.bool true, str stamp, Value.bool true, Value.bool true, Value.tuple #[], str eph, Value.slice (some { block := w7.heap.size, off := 0 }) 1 1, str PE, Value.tuple #[str C1, Value.func (Fn.func 57) #[str C1] #[]], str lock, str H0, str PE, Value.tuple #[str C1, Value.func (Fn.func 57) #[str C1] #[]], str C1, Value.func (Fn.func 57) #[str C1] #[], Value.tuple #[str C2, Value.func (Fn.func 57) #[str C2] #[]], Value.func (Fn.func 57) #[str C1] #[], str eph, str lock, str D1, Value.tuple #[str C2, Value.func (Fn.func 57) #[str C2] #[]], str C2, Value.func (Fn.func 57) #[str C2] #[], Value.tuple #[str C3, Value.func (Fn.func 57) #[str C3] #[]], Value.func (Fn.func 57) #[str C2] #[], str me, str lock, str D2, Value.tuple #[str C3, Value.func (Fn.func 57) #[str C3] #[]], str C3, Value.func (Fn.func 57) #[str C3] #[], str C2, str me, .slice (some ⟨O.1, 0, none⟩) 1 1, str PM, undef, undef, str C3, str stamp, .slice (some ⟨O.2.2, 0, none⟩) 2 2, undef, undef, undef, undef, undef, undef, undef, undef, undef, undef, undef, undef, undef, undef], defers := [] }) 5 (fun X O => Below w14.heap.size w14 X ∧ (X.heap[O.1]? = some (.cells #[str me] 9 (0, 0)) ∧ w14.heap.size ≤ O.1) ∧ (X.heap[O.2.2]? = some (.cells #[str C3, str stamp] 9 (0, 0)) ∧ w14.heap.size ≤ O.2.2) ∧ True) ?_ (fun T1_2_3_7_8 => ?_)
  · rintro X O ⟨hX, h2, h8, hT⟩
    clear hT
    obtain ⟨m0, m1, m2, m3, m4⟩ := KA.out _ (base BW.out (base HB14.out hX))
    have HX := Lib.hid hX
    have H2 := Lib.hid h2
    have H8 := Lib.hid h8
    clear hX h2 h8
    refine wpAny_ready (rs := [4]) (by kernel_rfl) (by simp) ?_
    refine AllReady.cons rfl (fun K hK => ?_) AllReady.nil
    go_simp
    refine hK _ _ ?_
    clear hK K
    refine relist (l' := #[true, true, true, true, true, false, true, true, true, false, false, false]) (by kernel_rfl) ?_
    exact T1_2_3_4_7_8 _ (O.1, X.heap.size, O.2.2) ⟨(al1 HX.out (.cells #[str C2, str PM] 9)), ⟨keptA H2.out.1 (.cells #[str C2, str PM] 9), H2.out.2⟩, ⟨heap_alloc_new X (.cells #[str C2, str PM] 9), HX.out.size⟩, ⟨keptA H8.out.1 (.cells #[str C2, str PM] 9), H8.out.2⟩, True.intro⟩
  refine split (α := Nat × Nat × Nat) #[true, true, true, true, true, false, true, false, false, false, false, false] (fun O => { tmps := #[Value.pointer (some { block := p0, off := 0 }), Value.pointer (some { block := p1, off := 0 }), Value.pointer (some { block := p2, off := 0 }), Value.pointer (some { block := p3, off := 0 }), Value.pointer (some { block := p4, off := 0 }), Value.pointer (some { block := w.heap.size, off := 0 }), str PE, str C1, Value.func (Fn.func 57) #[str C2] #[], str C2, str C3, Value.func (Fn.func 57) #[str C3] #[], undef, undef, undef, str me, str lock, str eph, str stamp, Value.slice (some { block := w.heap.size + 1, off := 0 }) 4 4, Value.tuple #[], Value.int IntKind.i64 f, Value.bool true, Value.bool true, str me, Value.bool true, Value.bool true, Value.bool true, str lock, Value.bool true, Value.bool true, Value.bool true, str eph, Value.bool true, Value.bool true, Value.bool true, str stamp, Value.bool true, Value.bool true, Value.tuple #[], str eph, Value.slice (some { block := w7.heap.size, off := 0 }) 1 1, str PE, Value.tuple #[str C1, Value.func (Fn.func 57) #[str C1] #[]], str lock, str H0, str PE, Value.tuple #[str C1, Value.func (Fn.func 57) #[str C1] #[]], str C1, Value.func (Fn.func 57) #[str C1] #[], Value.tuple #[str C2, Value.func (Fn.func 57) #[str C2] #[]], Value.func (Fn.func 57) #[str C1] #[], str eph, str lock, str D1, Value.tuple #[str C2, Value.func (Fn.func 57) #[str C2] #[]], str C2, Value.func (Fn.func 57) #[str C2] #[], Value.tuple #[str C3, Value.func (Fn.func 57) #[str C3] #[]], Value.func (Fn.func 57) #[str C2] #[], str me, str lock, str D2, Value.tuple #[str C3, Value.func (Fn.func 57) #[str C3] #[]], str C3, Value.func (Fn.func 57) #[str C3] #[], str C2, str me, .slice (some ⟨O.1, 0, none⟩) 1 1, str PM, .slice (some ⟨O.2.1, 0, none⟩) 2 2, undef, str C3, undef, undef, undef, undef, undef, undef, undef, undef, undef, undef, undef, undef, undef, undef, undef, undef], defers := [] }) 6 (fun X O => Below w14.heap.size w14 X ∧ (X.heap[O.1]? = some (.cells #[str me] 9 (0, 0)) ∧ w14.heap.size ≤ O.1) ∧ (X.heap[O.2.1]? = some (.cells #[str C2, str PM] 9 (0, 0)) ∧ w14.heap.size ≤ O.2.1) ∧ True) ?_ (fun T1_2_3_4 => ?_)
  · rintro X O ⟨hX, h2, h4, hT⟩
    clear hT
    obtain ⟨m0, m1, m2, m3, m4⟩ := KA.out _ (base BW.out (base HB14.out hX))
    have HX := Lib.hid hX
    have H2 := Lib.hid h2
    have H4 := Lib.hid h4
    clear hX h2 h4
    refine wpAny_ready (rs := [5, 7]) (by kernel_rfl) (by simp) ?_
    refine AllReady.cons rfl (fun K hK => ?_) (AllReady.cons rfl (fun K hK => ?_) AllReady.nil)
    · go_simp
      refine (SAH.out _ _ (rdr.two H4.out.1).1 (rdr.two H4.out.1).2.1 (rdr.two H4.out.1).2.2.2.2).mono ?_
      rintro e x1 ⟨rfl, hb⟩
      refine hK _ _ ?_
      clear hK K
      refine relist (l' := #[true, true, true, true, true, true, true, false, false, false, false, false]) (by kernel_rfl) ?_
      exact T1_2_3_4_5 _ (O.1, O.2.1, O.2.2) ⟨(base HX.out hb), ⟨keptB H2.out.1 hb, H2.out.2⟩, ⟨keptB H4.out.1 hb, H4.out.2⟩, True.intro⟩
    · go_simp
      refine hK _ _ ?_
      clear hK K
      refine relist (l' := #[true, true, true, true, true, false, true, true, false, false, false, false]) (by kernel_rfl) ?_
      exact T1_2_3_4_7 _ (O.1, O.2.1, O.2.2) ⟨HX.out, H2.out, H4.out, True.intro⟩
  refine split (α := Nat × Nat × Nat) #[true, true, true, true, false, false, true, true, false, false, false, false] (fun O => { tmps := #[Value.pointer (some { block := p0, off := 0 }), Value.pointer (some { block := p1, off := 0 }), Value.pointer (some { block := p2, off := 0 }), Value.pointer (some { block := p3, off := 0 }), Value.pointer (some { block := p4, off := 0 }), Value.pointer (some { block := w.heap.size, off := 0 }), str PE, str C1, Value.func (Fn.func 57) #[str C2] #[], str C2, str C3, Value.func (Fn.func 57) #[str C3] #[], undef, undef, undef, str me, str lock, str eph, str stamp, Value.slice (some { block := w.heap.size + 1, off := 0 }) 4 4, Value.tuple #[], Value.int IntKind.i64 f, Value.bool true, Value.bool true, str me, Value.bool true, Value.bool true, Value.bool true, str lock, Value.bool true, Value.bool true, Value.bool true, str eph, Value.bool true, Value.bool true, Value.bool true, str stamp, Value.bool true, Value.bool true, Value.tuple #[], str eph, Value.slice (some { block := w7.heap.size, off := 0 }) 1 1, str PE, Value.tuple #[str C1, Value.func (Fn.func 57) #[str C1] #[]], str lock, str H0, str PE, Value.tuple #[str C1, Value.func (Fn.func 57) #[str C1] #[]], str C1, Value.func (Fn.func 57) #[str C1] #[], Value.tuple #[str C2, Value.func (Fn.func 57) #[str C2] #[]], Value.func (Fn.func 57) #[str C1] #[], str eph, str lock, str D1, Value.tuple #[str C2, Value.func (Fn.func 57) #[str C2] #[]], str C2, Value.func (Fn.func 57) #[str C2] #[], Value.tuple #[str C3, Value.func (Fn.func 57) #[str C3] #[]], Value.func (Fn.func 57) #[str C2] #[], str me, str lock, str D2, Value.tuple #[str C3, Value.func (Fn.func 57) #[str C3] #[]], str C3, Value.func (Fn.func 57) #[str C3] #[], str C2, str me, .slice (some ⟨O.1, 0, none⟩) 1 1, str PM, undef, undef, str C3, str stamp, undef, undef, undef, undef, undef, undef, undef, undef, undef, undef, undef, undef, undef, undef, undef], defers := [] }) 6 (fun X O => Below w14.heap.size w14 X ∧ (X.heap[O.1]? = some (.cells #[str me] 9 (0, 0)) ∧ w14.heap.size ≤ O.1) ∧ True) ?_ (fun T1_2_3_7 => ?_)
  · rintro X O ⟨hX, h2, hT⟩
    clear hT
    obtain ⟨m0, m1, m2, m3, m4⟩ := KA.out _ (base BW.out (base HB14.out hX))
    have HX := Lib.hid hX
    have H2 := Lib.hid h2
    clear hX h2
    refine wpAny_ready (rs := [4, 8]) (by kernel_rfl) (by simp) ?_
    refine AllReady.cons rfl (fun K hK => ?_) (AllReady.cons rfl (fun K hK => ?_) AllReady.nil)
    · go_simp
      refine hK _ _ ?_
      clear hK K
      refine relist (l' := #[true, true, true, true, true, false, true, true, false, false, false, false]) (by kernel_rfl) ?_
      exact T1_2_3_4_7 _ (O.1, X.heap.size, O.2.2) ⟨(al1 HX.out (.cells #[str C2, str PM] 9)), ⟨keptA H2.out.1 (.cells #[str C2, str PM] 9), H2.out.2⟩, ⟨heap_alloc_new X (.cells #[str C2, str PM] 9), HX.out.size⟩, True.intro⟩
    · go_simp
      refine hK _ _ ?_
      clear hK K
      refine relist (l' := #[true, true, true, true, false, false, true, true, true, false, false, false]) (by kernel_rfl) ?_
      exact T1_2_3_7_8 _ (O.1, O.2.1, X.heap.size) ⟨(al1 HX.out (.cells #[str C3, str stamp] 9)), ⟨keptA H2.out.1 (.cells #[str C3, str stamp] 9), H2.out.2⟩, ⟨heap_alloc_new X (.cells #[str C3, str stamp] 9), HX.out.size⟩, True.intro⟩
  refine split (α := Nat × Nat × Nat) #[true, true, true, false, false, false, true, true, true, false, false, false] (fun O => { tmps := #[Value.pointer (some { block := p0, off := 0 }), Value.pointer (some { block := p1, off := 0 }), Value.pointer (some { block := p2, off := 0 }), Value.pointer (some { block := p3, off := 0 }), Value.pointer (some { block := p4, off := 0 }), Value.pointer (some { block := w.heap.size, off := 0 }), str PE, str C1, Value.func (Fn.func 57) #[str C2] #[], str C2, str C3, Value.func (Fn.func 57) #[str C3] #[], undef, undef, undef, str me, str lock, str eph, str stamp, Value.slice (some { block := w.heap.size + 1, off := 0 }) 4 4, Value.tuple #[], Value.int IntKind.i64 f, Value.bool true, Value.bool true, str me, Value.bool true, Value.bool true, Value.bool true, str lock, Value.bool true, Value.bool true, Value.bool true, str eph, Value.bool true, Value.bool true, Value.bool true, str stamp, Value.bool true, Value.bool true, Value.tuple #[], str eph, Value.slice (some { block := w7.heap.size, off := 0 }) 1 1, str PE, Value.tuple #[str C1, Value.func (Fn.func 57) #[str C1] #[]], str lock, str H0, str PE, Value.tuple #[str C1, Value.func (Fn.func 57) #[str C1] #[]], str C1, Value.func (Fn.func 57) #[str C1] #[], Value.tuple #[str C2, Value.func (Fn.func 57) #[str C2] #[]], Value.func (Fn.func 57) #[str C1] #[], str eph, str lock, str D1, Value.tuple #[str C2, Value.func (Fn.func 57) #[str C2] #[]], str C2, Value.func (Fn.func 57) #[str C2] #[], Value.tuple #[str C3, Value.func (Fn.func 57) #[str C3] #[]], Value.func (Fn.func 57) #[str C2] #[], str me, str lock, str D2, Value.tuple #[str C3, Value.func (Fn.func 57) #[str C3] #[]], str C3, Value.func (Fn.func 57) #[str C3] #[], str C2, str me, .slice (some ⟨O.1, 0, none⟩) 1 1, undef, undef, undef, str C3, str stamp, .slice (some ⟨O.2.2, 0, none⟩) 2 2, undef, undef, undef, undef, undef, undef, undef, undef, undef, undef, undef, undef, undef, undef], defers := [] }) 6 (fun X O => Below w14.heap.size w14 X ∧ (X.heap[O.1]? = some (.cells #[str me] 9 (0, 0)) ∧ w14.heap.size ≤ O.1) ∧ (X.heap[O.2.2]? = some (.cells #[str C3, str stamp] 9 (0, 0)) ∧ w14.heap.size ≤ O.2.2) ∧ True) ?_ (fun T1_2_7_8 => ?_)
  · rintro X O ⟨hX, h2, h8, hT⟩
    clear hT
    obtain ⟨m0, m1, m2, m3, m4⟩ := KA.out _ (base BW.out (base HB14.out hX))
    have HX := Lib.hid hX
    have H2 := Lib.hid h2
    have H8 := Lib.hid h8
    clear hX h2 h8
    refine wpAny_ready (rs := [3]) (by kernel_rfl) (by simp) ?_
    refine AllReady.cons rfl (fun K hK => ?_) AllReady.nil
    go_simp
    refine (PVH.out _ _ (grd.one H2.out.1).1 (grd.one H2.out.1).2.2).mono ?_
    rintro e x1 ⟨rfl, hb⟩
    refine hK _ _ ?_
    clear hK K
    refine relist (l' := #[true, true, true, true, false, false, true, true, true, false, false, false]) (by kernel_rfl) ?_
    exact T1_2_3_7_8 _ (O.1, O.2.1, O.2.2) ⟨(base HX.out hb), ⟨keptB H2.out.1 hb, H2.out.2⟩, ⟨keptB H8.out.1 hb, H8.out.2⟩, True.intro⟩
  refine split (α := Nat × Nat × Nat) #[true, true, true, true, false, false, true, false, false, false, false, false] (fun O => { tmps := #[Value.pointer (some { block := p0, off := 0 }), Value.pointer (some { block := p1, off := 0 }), Value.pointer (some { block := p2, off := 0 }), Value.pointer (some { block := p3, off := 0 }), Value.pointer (some { block := p4, off := 0 }), Value.pointer (some { block := w.heap.size, off := 0 }), str PE, str C1, Value.func (Fn.func 57) #[str C2] #[], str C2, str C3, Value.func (Fn.func 57) #[str C3] #[], undef, undef, undef, str me, str lock, str eph, str stamp, Value.slice (some { block := w.heap.size + 1, off := 0 }) 4 4, Value.tuple #[], Value.int IntKind.i64 f, Value.bool true, Value.bool true, str me, Value.bool true, Value.bool true, Value.bool true, str lock, Value.bool true, Value.bool true, Value.bool true, str eph, Value.bool true, Value.bool true, Value.bool true, str stamp, Value.bool true, Value.bool true, Value.tuple #[], str eph, Value.slice (some { block := w7.heap.size, off := 0 }) 1 1, str PE, Value.tuple #[str C1, Value.func (Fn.func 57) #[str C1] #[]], str lock, str H0, str PE, Value.tuple #[str C1, Value.func (Fn.func 57) #[str C1] #[]], str C1, Value.func (Fn.func 57) #[str C1] #[], Value.tuple #[str C2, Value.func (Fn.func 57) #[str C2] #[]], Value.func (Fn.func 57) #[str C1] #[], str eph, str lock, str D1, Value.tuple #[str C2, Value.func (Fn.func 57) #[str C2] #[]], str C2, Value.func (Fn.func 57) #[str C2] #[], Value.tuple #[str C3, Value.func (Fn.func 57) #[str C3] #[]], Value.func (Fn.func 57) #[str C2] #[], str me, str lock, str D2, Value.tuple #[str C3, Value.func (Fn.func 57) #[str C3] #[]], str C3, Value.func (Fn.func 57) #[str C3] #[], str C2, str me, .slice (some ⟨O.1, 0, none⟩) 1 1, str PM, undef, undef, str C3, undef, undef, undef, undef, undef, undef, undef, undef, undef, undef, undef, undef, undef, undef, undef, undef], defers := [] }) 7 (fun X O => Below w14.heap.size w14 X ∧ (X.heap[O.1]? = some (.cells #[str me] 9 (0, 0)) ∧ w14.heap.size ≤ O.1) ∧ True) ?_ (fun T1_2_3 => ?_)
  · rintro X O ⟨hX, h2, hT⟩
    clear hT
    obtain ⟨m0, m1, m2, m3, m4⟩ := KA.out _ (base BW.out (base HB14.out hX))
    have HX := Lib.hid hX
    have H2 := Lib.hid h2
    clear hX h2
    refine wpAny_ready (rs := [4, 7]) (by kernel_rfl) (by simp) ?_
    refine AllReady.cons rfl (fun K hK => ?_) (AllReady.cons rfl (fun K hK => ?_) AllReady.nil)
    · go_simp
      refine hK _ _ ?_
      clear hK K
      refine relist (l' := #[true, true, true, true, true, false, true, false, false, false, false, false]) (by kernel_rfl) ?_
      exact T1_2_3_4 _ (O.1, X.heap.size, O.2.2) ⟨(al1 HX.out (.cells #[str C2, str PM] 9)), ⟨keptA H2.out.1 (.cells #[str C2, str PM] 9), H2.out.2⟩, ⟨heap_alloc_new X (.cells #[str C2, str PM] 9), HX.out.size⟩, True.intro⟩
    · go_simp
      refine hK _ _ ?_
      clear hK K
      refine relist (l' := #[true, true, true, true, false, false, true, true, false, false, false, false]) (by kernel_rfl) ?_
      exact T1_2_3_7 _ (O.1, O.2.1, O.2.2) ⟨HX.out, H2.out, True.intro⟩
  refine split (α := Nat × Nat × Nat) #[true, true, true, false, false, false, true, true, false, false, false, false] (fun O => { tmps := #[Value.pointer (some { block := p0, off := 0 }), Value.pointer (some { block := p1, off := 0 }), Value.pointer (some { block := p2, off := 0 }), Value.pointer (some { block := p3, off := 0 }), Value.pointer (some { block := p4, off := 0 }), Value.pointer (some { block := w.heap.size, off := 0 }), str PE, str C1, Value.func (Fn.func 57) #[str C2] #[], str C2, str C3, Value.func (Fn.func 57) #[str C3] #[], undef, undef, undef, str me, str lock, str eph, str stamp, Value.slice (some { block := w.heap.size + 1, off := 0 }) 4 4, Value.tuple #[], Value.int IntKind.i64 f, Value.bool true, Value.bool true, str me, Value.bool true, Value.bool true, Value.bool true, str lock, Value.bool true, Value.bool true, Value.bool true, str eph, Value.bool true, Value.bool true, Value.bool true, str stamp, Value.bool true, Value.bool true, Value.tuple #[], str eph, Value.slice (some { block := w7.heap.size, off := 0 }) 1 1, str PE, Value.tuple #[str C1, Value.func (Fn.func 57) #[str C1] #[]], str lock, str H0, str PE, Value.tuple #[str C1, Value.func (Fn.func 57) #[str C1] #[]], str C1, Value.func (Fn.func 57) #[str C1] #[], Value.tuple #[str C2, Value.func (Fn.func 57) #[str C2] #[]], Value.func (Fn.func 57) #[str C1] #[], str eph, str lock, str D1, Value.tuple #[str C2, Value.func (Fn.func 57) #[str C2] #[]], str C2, Value.func (Fn.func 57) #[str C2] #[], Value.tuple #[str C3, Value.func (Fn.func 57) #[str C3] #[]], Value.func (Fn.func 57) #[str C2] #[], str me, str lock, str D2, Value.tuple #[str C3, Value.func (Fn.func 57) #[str C3] #[]], str C3, Value.func (Fn.func 57) #[str C3] #[], str C2, str me, .slice (some ⟨O.1, 0, none⟩) 1 1, undef, undef, undef, str C3, str stamp, undef, undef, undef, undef, undef, undef, undef, undef, undef, undef, undef, undef, undef, undef, undef], defers := [] }) 7 (fun X O => Below w14.heap.size w14 X ∧ (X.heap[O.1]? = some (.cells #[str me] 9 (0, 0)) ∧ w14.heap.size ≤ O.1) ∧ True) ?_ (fun T1_2_7 => ?_)
  · rintro X O ⟨hX, h2, hT⟩
    clear hT
    obtain ⟨m0, m1, m2, m3, m4⟩ := KA.out _ (base BW.out (base HB14.out hX))
    have HX := Lib.hid hX
    have H2 := Lib.hid h2
    clear hX h2
    refine wpAny_ready (rs := [3, 8]) (by kernel_rfl) (by simp) ?_
    refine AllReady.cons rfl (fun K hK => ?_) (AllReady.cons rfl (fun K hK => ?_) AllReady.nil)
    · go_simp
      refine (PVH.out _ _ (grd.one H2.out.1).1 (grd.one H2.out.1).2.2).mono ?_
      rintro e x1 ⟨rfl, hb⟩
      refine hK _ _ ?_
      clear hK K
      refine relist (l' := #[true, true, true, true, false, false, true, true, false, false, false, false]) (by kernel_rfl) ?_
      exact T1_2_3_7 _ (O.1, O.2.1, O.2.2) ⟨(base HX.out hb), ⟨keptB H2.out.1 hb, H2.out.2⟩, True.intro⟩
    · go_simp
      refine hK _ _ ?_
      clear hK K
      refine relist (l' := #[true, true, true, false, false, false, true, true, true, false, false, false]) (by kernel_rfl) ?_
      exact T1_2_7_8 _ (O.1, O.2.1, X.heap.size) ⟨(al1 HX.out (.cells #[str C3, str stamp] 9)), ⟨keptA H2.out.1 (.cells #[str C3, str stamp] 9), H2.out.2⟩, ⟨heap_alloc_new X (.cells #[str C3, str stamp] 9), HX.out.size⟩, True.intro⟩
  refine split (α := Nat × Nat × Nat) #[true, true, false, false, false, false, true, true, true, false, false, false] (fun O => { tmps := #[Value.pointer (some { block := p0, off := 0 }), Value.pointer (some { block := p1, off := 0 }), Value.pointer (some { block := p2, off := 0 }), Value.pointer (some { block := p3, off := 0 }), Value.pointer (some { block := p4, off := 0 }), Value.pointer (some { block := w.heap.size, off := 0 }), str PE, str C1, Value.func (Fn.func 57) #[str C2] #[], str C2, str C3, Value.func (Fn.func 57) #[str C3] #[], undef, undef, undef, str me, str lock, str eph, str stamp, Value.slice (some { block := w.heap.size + 1, off := 0 }) 4 4, Value.tuple #[], Value.int IntKind.i64 f, Value.bool true, Value.bool true, str me, Value.bool true, Value.bool true, Value.bool true, str lock, Value.bool true, Value.bool true, Value.bool true, str eph, Value.bool true, Value.bool true, Value.bool true, str stamp, Value.bool true, Value.bool true, Value.tuple #[], str eph, Value.slice (some { block := w7.heap.size, off := 0 }) 1 1, str PE, Value.tuple #[str C1, Value.func (Fn.func 57) #[str C1] #[]], str lock, str H0, str PE, Value.tuple #[str C1, Value.func (Fn.func 57) #[str C1] #[]], str C1, Value.func (Fn.func 57) #[str C1] #[], Value.tuple #[str C2, Value.func (Fn.func 57) #[str C2] #[]], Value.func (Fn.func 57) #[str C1] #[], str eph, str lock, str D1, Value.tuple #[str C2, Value.func (Fn.func 57) #[str C2] #[]], str C2, Value.func (Fn.func 57) #[str C2] #[], Value.tuple #[str C3, Value.func (Fn.func 57) #[str C3] #[]], Value.func (Fn.func 57) #[str C2] #[], str me, str lock, str D2, Value.tuple #[str C3, Value.func (Fn.func 57) #[str C3] #[]], str C3, Value.func (Fn.func 57) #[str C3] #[], str C2, str me, undef, undef, undef, undef, str C3, str stamp, .slice (some ⟨O.2.2, 0, none⟩) 2 2, undef, undef, undef, undef, undef, undef, undef, undef, undef, undef, undef, undef, undef, undef], defers := [] }) 7 (fun X O => Below w14.heap.size w14 X ∧ (X.heap[O.2.2]? = some (.cells #[str C3, str stamp] 9 (0, 0)) ∧ w14.heap.size ≤ O.2.2) ∧ True) ?_ (fun T1_7_8 => ?_)
  · rintro X O ⟨hX, h8, hT⟩
    clear hT
    obtain ⟨m0, m1, m2, m3, m4⟩ := KA.out _ (base BW.out (base HB14.out hX))
    have HX := Lib.hid hX
    have H8 := Lib.hid h8
    clear hX h8
    refine wpAny_ready (rs := [2]) (by kernel_rfl) (by simp) ?_
    refine AllReady.cons rfl (fun K hK => ?_) AllReady.nil
    go_simp
    refine hK _ _ ?_
    clear hK K
    refine relist (l' := #[true, true, true, false, false, false, true, true, true, false, false, false]) (by kernel_rfl) ?_
    exact T1_2_7_8 _ (X.heap.size, O.2.1, O.2.2) ⟨(al1 HX.out (.cells #[str me] 9)), ⟨heap_alloc_new X (.cells #[str me] 9), HX.out.size⟩, ⟨keptA H8.out.1 (.cells #[str me] 9), H8.out.2⟩, True.intro⟩
  refine split (α := Nat × Nat × Nat) #[true, true, true, false, false, false, true, false, false, false, false, false] (fun O => { tmps := #[Value.pointer (some { block := p0, off := 0 }), Value.pointer (some { block := p1, off := 0 }), Value.pointer (some { block := p2, off := 0 }), Value.pointer (some { block := p3, off := 0 }), Value.pointer (some { block := p4, off := 0 }), Value.pointer (some { block := w.heap.size, off := 0 }), str PE, str C1, Value.func (Fn.func 57) #[str C2] #[], str C2, str C3, Value.func (Fn.func 57) #[str C3] #[], undef, undef, undef, str me, str lock, str eph, str stamp, Value.slice (some { block := w.heap.size + 1, off := 0 }) 4 4, Value.tuple #[], Value.int IntKind.i64 f, Value.bool true, Value.bool true, str me, Value.bool true, Value.bool true, Value.bool true, str lock, Value.bool true, Value.bool true, Value.bool true, str eph, Value.bool true, Value.bool true, Value.bool true, str stamp, Value.bool true, Value.bool true, Value.tuple #[], str eph, Value.slice (some { block := w7.heap.size, off := 0 }) 1 1, str PE, Value.tuple #[str C1, Value.func (Fn.func 57) #[str C1] #[]], str lock, str H0, str PE, Value.tuple #[str C1, Value.func (Fn.func 57) #[str C1] #[]], str C1, Value.func (Fn.func 57) #[str C1] #[], Value.tuple #[str C2, Value.func (Fn.func 57) #[str C2] #[]], Value.func (Fn.func 57) #[str C1] #[], str eph, str lock, str D1, Value.tuple #[str C2, Value.func (Fn.func 57) #[str C2] #[]], str C2, Value.func (Fn.func 57) #[str C2] #[], Value.tuple #[str C3, Value.func (Fn.func 57) #[str C3] #[]], Value.func (Fn.func 57) #[str C2] #[], str me, str lock, str D2, Value.tuple #[str C3, Value.func (Fn.func 57) #[str C3] #[]], str C3, Value.func (Fn.func 57) #[str C3] #[], str C2, str me, .slice (some ⟨O.1, 0, none⟩) 1 1, undef, undef, undef, str C3, undef, undef, undef, undef, undef, undef, undef, undef, undef, undef, undef, undef, undef, undef, undef, undef], defers := [] }) 8 (fun X O => Below w14.heap.size w14 X ∧ (X.heap[O.1]? = some (.cells #[str me] 9 (0, 0)) ∧ w14.heap.size ≤ O.1) ∧ True) ?_ (fun T1_2 => ?_)
  · rintro X O ⟨hX, h2, hT⟩
    clear hT
    obtain ⟨m0, m1, m2, m3, m4⟩ := KA.out _ (base BW.out (base HB14.out hX))
    have HX := Lib.hid hX
    have H2 := Lib.hid h2
    clear hX h2
    refine wpAny_ready (rs := [3, 7]) (by kernel_rfl) (by simp) ?_
    refine AllReady.cons rfl (fun K hK => ?_) (AllReady.cons rfl (fun K hK => ?_) AllReady.nil)
    · go_simp
      refine (PVH.out _ _ (grd.one H2.out.1).1 (grd.one H2.out.1).2.2).mono ?_
      rintro e x1 ⟨rfl, hb⟩
      refine hK _ _ ?_
      clear hK K
      refine relist (l' := #[true, true, true, true, false, false, true, false, false, false, false, false]) (by kernel_rfl) ?_
      exact T1_2_3 _ (O.1, O.2.1, O.2.2) ⟨(base HX.out hb), ⟨keptB H2.out.1 hb, H2.out.2⟩, True.intro⟩
    · go_simp
      refine hK _ _ ?_
      clear hK K
      refine relist (l' := #[true, true, true, false, false, false, true, true, false, false, false, false]) (by kernel_rfl) ?_
      exact T1_2_7 _ (O.1, O.2.1, O.2.2) ⟨HX.out, H2.out, True.intro⟩
  refine split (α := Nat × Nat × Nat) #[true, true, false, false, false, false, true, true, false, false, false, false] (fun O => { tmps := #[Value.pointer (some { block := p0, off := 0 }), Value.pointer (some { block := p1, off := 0 }), Value.pointer (some { block := p2, off := 0 }), Value.pointer (some { block := p3, off := 0 }), Value.pointer (some { block := p4, off := 0 }), Value.pointer (some { block := w.heap.size, off := 0 }), str PE, str C1, Value.func (Fn.func 57) #[str C2] #[], str C2, str C3, Value.func (Fn.func 57) #[str C3] #[], undef, undef, undef, str me, str lock, str eph, str stamp, Value.slice (some { block := w.heap.size + 1, off := 0 }) 4 4, Value.tuple #[], Value.int IntKind.i64 f, Value.bool true, Value.bool true, str me, Value.bool true, Value.bool true, Value.bool true, str lock, Value.bool true, Value.bool true, Value.bool true, str eph, Value.bool true, Value.bool true, Value.bool true, str stamp, Value.bool true, Value.bool true, Value.tuple #[], str eph, Value.slice (some { block := w7.heap.size, off := 0 }) 1 1, str PE, Value.tuple #[str C1, Value.func (Fn.func 57) #[str C1] #[]], str lock, str H0, str PE, Value.tuple #[str C1, Value.func (Fn.func 57) #[str C1] #[]], str C1, Value.func (Fn.func 57) #[str C1] #[], Value.tuple #[str C2, Value.func (Fn.func 57) #[str C2] #[]], Value.func (Fn.func 57) #[str C1] #[], str eph, str lock, str D1, Value.tuple #[str C2, Value.func (Fn.func 57) #[str C2] #[]], str C2, Value.func (Fn.func 57) #[str C2] #[], Value.tuple #[str C3, Value.func (Fn.func 57) #[str C3] #[]], Value.func (Fn.func 57) #[str C2] #[], str me, str lock, str D2, Value.tuple #[str C3, Value.func (Fn.func 57) #[str C3] #[]], str C3, Value.func (Fn.func 57) #[str C3] #[], str C2, str me, undef, undef, undef, undef, str C3, str stamp, undef, undef, undef, undef, undef, undef, undef, undef, undef, undef, undef, undef, undef, undef, undef], defers := [] }) 8 (fun X O => Below w14.heap.size w14 X ∧ True) ?_ (fun T1_7 => ?_)
  · rintro X O ⟨hX, hT⟩
    clear hT
    obtain ⟨m0, m1, m2, m3, m4⟩ := KA.out _ (base BW.out (base HB14.out hX))
    have HX := Lib.hid hX
    clear hX 
    refine wpAny_ready (rs := [2, 8]) (by kernel_rfl) (by simp) ?_
    refine AllReady.cons rfl (fun K hK => ?_) (AllReady.cons rfl (fun K hK => ?_) AllReady.nil)
    · go_simp
      refine hK _ _ ?_
      clear hK K
      refine relist (l' := #[true, true, true, false, false, false, true, true, false, false, false, false]) (by kernel_rfl) ?_
      exact T1_2_7 _ (X.heap.size, O.2.1, O.2.2) ⟨(al1 HX.out (.cells #[str me] 9)), ⟨heap_alloc_new X (.cells #[str me] 9), HX.out.size⟩, True.intro⟩
    · go_simp
      refine hK _ _ ?_
      clear hK K
      refine relist (l' := #[true, true, false, false, false, false, true, true, true, false, false, false]) (by kernel_rfl) ?_
      exact T1_7_8 _ (O.1, O.2.1, X.heap.size) ⟨(al1 HX.out (.cells #[str C3, str stamp] 9)), ⟨heap_alloc_new X (.cells #[str C3, str stamp] 9), HX.out.size⟩, True.intro⟩
  refine split (α := Nat × Nat × Nat) #[true, false, false, false, false, false, true, true, true, false, false, false] (fun O => { tmps := #[Value.pointer (some { block := p0, off := 0 }), Value.pointer (some { block := p1, off := 0 }), Value.pointer (some { block := p2, off := 0 }), Value.pointer (some { block := p3, off := 0 }), Value.pointer (some { block := p4, off := 0 }), Value.pointer (some { block := w.heap.size, off := 0 }), str PE, str C1, Value.func (Fn.func 57) #[str C2] #[], str C2, str C3, Value.func (Fn.func 57) #[str C3] #[], undef, undef, undef, str me, str lock, str eph, str stamp, Value.slice (some { block := w.heap.size + 1, off := 0 }) 4 4, Value.tuple #[], Value.int IntKind.i64 f, Value.bool true, Value.bool true, str me, Value.bool true, Value.bool true, Value.bool true, str lock, Value.bool true, Value.bool true, Value.bool true, str eph, Value.bool true, Value.bool true, Value.bool true, str stamp, Value.bool true, Value.bool true, Value.tuple #[], str eph, Value.slice (some { block := w7.heap.size, off := 0 }) 1 1, str PE, Value.tuple #[str C1, Value.func (Fn.func 57) #[str C1] #[]], str lock, str H0, str PE, Value.tuple #[str C1, Value.func (Fn.func 57) #[str C1] #[]], str C1, Value.func (Fn.func 57) #[str C1] #[], Value.tuple #[str C2, Value.func (Fn.func 57) #[str C2] #[]], Value.func (Fn.func 57) #[str C1] #[], str eph, str lock, str D1, Value.tuple #[str C2, Value.func (Fn.func 57) #[str C2] #[]], str C2, Value.func (Fn.func 57) #[str C2] #[], Value.tuple #[str C3, Value.func (Fn.func 57) #[str C3] #[]], Value.func (Fn.func 57) #[str C2] #[], str me, str lock, str D2, Value.tuple #[str C3, Value.func (Fn.func 57) #[str C3] #[]], str C3, Value.func (Fn.func 57) #[str C3] #[], str C2, undef, undef, undef, undef, undef, str C3, str stamp, .slice (some ⟨O.2.2, 0, none⟩) 2 2, undef, undef, undef, undef, undef, undef, undef, undef, undef, undef, undef, undef, undef, undef], defers := [] }) 8 (fun X O => Below w14.heap.size w14 X ∧ (X.heap[O.2.2]? = some (.cells #[str C3, str stamp] 9 (0, 0)) ∧ w14.heap.size ≤ O.2.2) ∧ True) ?_ (fun T7_8 => ?_)
  · rintro X O ⟨hX, h8, hT⟩
    clear hT
    obtain ⟨m0, m1, m2, m3, m4⟩ := KA.out _ (base BW.out (base HB14.out hX))
    have HX := Lib.hid hX
    have H8 := Lib.hid h8
    clear hX h8
    refine wpAny_ready (rs := [1]) (by kernel_rfl) (by simp) ?_
    refine AllReady.cons rfl (fun K hK => ?_) AllReady.nil
    go_simp
    refine hK _ _ ?_
    clear hK K
    refine relist (l' := #[true, true, false, false, false, false, true, true, true, false, false, false]) (by kernel_rfl) ?_
    exact T1_7_8 _ (O.1, O.2.1, O.2.2) ⟨HX.out, H8.out, True.intro⟩
  refine split (α := Nat × Nat × Nat) #[true, true, false, false, false, false, true, false, false, false, false, false] (fun O => { tmps := #[Value.pointer (some { block := p0, off := 0 }), Value.pointer (some { block := p1, off := 0 }), Value.pointer (some { block := p2, off := 0 }), Value.pointer (some { block := p3, off := 0 }), Value.pointer (some { block := p4, off := 0 }), Value.pointer (some { block := w.heap.size, off := 0 }), str PE, str C1, Value.func (Fn.func 57) #[str C2] #[], str C2, str C3, Value.func (Fn.func 57) #[str C3] #[], undef, undef, undef, str me, str lock, str eph, str stamp, Value.slice (some { block := w.heap.size + 1, off := 0 }) 4 4, Value.tuple #[], Value.int IntKind.i64 f, Value.bool true, Value.bool true, str me, Value.bool true, Value.bool true, Value.bool true, str lock, Value.bool true, Value.bool true, Value.bool true, str eph, Value.bool true, Value.bool true, Value.bool true, str stamp, Value.bool true, Value.bool true, Value.tuple #[], str eph, Value.slice (some { block := w7.heap.size, off := 0 }) 1 1, str PE, Value.tuple #[str C1, Value.func (Fn.func 57) #[str C1] #[]], str lock, str H0, str PE, Value.tuple #[str C1, Value.func (Fn.func 57) #[str C1] #[]], str C1, Value.func (Fn.func 57) #[str C1] #[], Value.tuple #[str C2, Value.func (Fn.func 57) #[str C2] #[]], Value.func (Fn.func 57) #[str C1] #[], str eph, str lock, str D1, Value.tuple #[str C2, Value.func (Fn.func 57) #[str C2] #[]], str C2, Value.func (Fn.func 57) #[str C2] #[], Value.tuple #[str C3, Value.func (Fn.func 57) #[str C3] #[]], Value.func (Fn.func 57) #[str C2] #[], str me, str lock, str D2, Value.tuple #[str C3, Value.func (Fn.func 57) #[str C3] #[]], str C3, Value.func (Fn.func 57) #[str C3] #[], str C2, str me, undef, undef, undef, undef, str C3, undef, undef, undef, undef, undef, undef, undef, undef, undef, undef, undef, undef, undef, undef, undef, undef], defers := [] }) 9 (fun X O => Below w14.heap.size w14 X ∧ True) ?_ (fun T1 => ?_)
  · rintro X O ⟨hX, hT⟩
    clear hT
    obtain ⟨m0, m1, m2, m3, m4⟩ := KA.out _ (base BW.out (base HB14.out hX))
    have HX := Lib.hid hX
    clear hX 
    refine wpAny_ready (rs := [2, 7]) (by kernel_rfl) (by simp) ?_
    refine AllReady.cons rfl (fun K hK => ?_) (AllReady.cons rfl (fun K hK => ?_) AllReady.nil)
    · go_simp
      refine hK _ _ ?_
      clear hK K
      refine relist (l' := #[true, true, true, false, false, false, true, false, false, false, false, false]) (by kernel_rfl) ?_
      exact T1_2 _ (X.heap.size, O.2.1, O.2.2) ⟨(al1 HX.out (.cells #[str me] 9)), ⟨heap_alloc_new X (.cells #[str me] 9), HX.out.size⟩, True.intro⟩
    · go_simp
      refine hK _ _ ?_
      clear hK K
      refine relist (l' := #[true, true, false, false, false, false, true, true, false, false, false, false]) (by kernel_rfl) ?_
      exact T1_7 _ (O.1, O.2.1, O.2.2) ⟨HX.out, True.intro⟩
  refine split (α := Nat × Nat × Nat) #[true, false, false, false, false, false, true, true, false, false, false, false] (fun O => { tmps := #[Value.pointer (some { block := p0, off := 0 }), Value.pointer (some { block := p1, off := 0 }), Value.pointer (some { block := p2, off := 0 }), Value.pointer (some { block := p3, off := 0 }), Value.pointer (some { block := p4, off := 0 }), Value.pointer (some { block := w.heap.size, off := 0 }), str PE, str C1, Value.func (Fn.func 57) #[str C2] #[], str C2, str C3, Value.func (Fn.func 57) #[str C3] #[], undef, undef, undef, str me, str lock, str eph, str stamp, Value.slice (some { block := w.heap.size + 1, off := 0 }) 4 4, Value.tuple #[], Value.int IntKind.i64 f, Value.bool true, Value.bool true, str me, Value.bool true, Value.bool true, Value.bool true, str lock, Value.bool true, Value.bool true, Value.bool true, str eph, Value.bool true, Value.bool true, Value.bool true, str stamp, Value.bool true, Value.bool true, Value.tuple #[], str eph, Value.slice (some { block := w7.heap.size, off := 0 }) 1 1, str PE, Value.tuple #[str C1, Value.func (Fn.func 57) #[str C1] #[]], str lock, str H0, str PE, Value.tuple #[str C1, Value.func (Fn.func 57) #[str C1] #[]], str C1, Value.func (Fn.func 57) #[str C1] #[], Value.tuple #[str C2, Value.func (Fn.func 57) #[str C2] #[]], Value.func (Fn.func 57) #[str C1] #[], str eph, str lock, str D1, Value.tuple #[str C2, Value.func (Fn.func 57) #[str C2] #[]], str C2, Value.func (Fn.func 57) #[str C2] #[], Value.tuple #[str C3, Value.func (Fn.func 57) #[str C3] #[]], Value.func (Fn.func 57) #[str C2] #[], str me, str lock, str D2, Value.tuple #[str C3, Value.func (Fn.func 57) #[str C3] #[]], str C3, Value.func (Fn.func 57) #[str C3] #[], str C2, undef, undef, undef, undef, undef, str C3, str stamp, undef, undef, undef, undef, undef, undef, undef, undef, undef, undef, undef, undef, undef, undef, undef], defers := [] }) 9 (fun X O => Below w14.heap.size w14 X ∧ True) ?_ (fun T7 => ?_)
  · rintro X O ⟨hX, hT⟩
    clear hT
    obtain ⟨m0, m1, m2, m3, m4⟩ := KA.out _ (base BW.out (base HB14.out hX))
    have HX := Lib.hid hX
    clear hX 
    refine wpAny_ready (rs := [1, 8]) (by kernel_rfl) (by simp) ?_
    refine AllReady.cons rfl (fun K hK => ?_) (AllReady.cons rfl (fun K hK => ?_) AllReady.nil)
    · go_simp
      refine hK _ _ ?_
      clear hK K
      refine relist (l' := #[true, true, false, false, false, false, true, true, false, false, false, false]) (by kernel_rfl) ?_
      exact T1_7 _ (O.1, O.2.1, O.2.2) ⟨HX.out, True.intro⟩
    · go_simp
      refine hK _ _ ?_
      clear hK K
      refine relist (l' := #[true, false, false, false, false, false, true, true, true, false, false, false]) (by kernel_rfl) ?_
      exact T7_8 _ (O.1, O.2.1, X.heap.size) ⟨(al1 HX.out (.cells #[str C3, str stamp] 9)), ⟨heap_alloc_new X (.cells #[str C3, str stamp] 9), HX.out.size⟩, True.intro⟩
  refine split (α := Nat × Nat × Nat) #[true, false, false, false, false, false, true, false, false, false, false, false] (fun O => { tmps := #[Value.pointer (some { block := p0, off := 0 }), Value.pointer (some { block := p1, off := 0 }), Value.pointer (some { block := p2, off := 0 }), Value.pointer (some { block := p3, off := 0 }), Value.pointer (some { block := p4, off := 0 }), Value.pointer (some { block := w.heap.size, off := 0 }), str PE, str C1, Value.func (Fn.func 57) #[str C2] #[], str C2, str C3, Value.func (Fn.func 57) #[str C3] #[], undef, undef, undef, str me, str lock, str eph, str stamp, Value.slice (some { block := w.heap.size + 1, off := 0 }) 4 4, Value.tuple #[], Value.int IntKind.i64 f, Value.bool true, Value.bool true, str me, Value.bool true, Value.bool true, Value.bool true, str lock, Value.bool true, Value.bool true, Value.bool true, str eph, Value.bool true, Value.bool true, Value.bool true, str stamp, Value.bool true, Value.bool true, Value.tuple #[], str eph, Value.slice (some { block := w7.heap.size, off := 0 }) 1 1, str PE, Value.tuple #[str C1, Value.func (Fn.func 57) #[str C1] #[]], str lock, str H0, str PE, Value.tuple #[str C1, Value.func (Fn.func 57) #[str C1] #[]], str C1, Value.func (Fn.func 57) #[str C1] #[], Value.tuple #[str C2, Value.func (Fn.func 57) #[str C2] #[]], Value.func (Fn.func 57) #[str C1] #[], str eph, str lock, str D1, Value.tuple #[str C2, Value.func (Fn.func 57) #[str C2] #[]], str C2, Value.func (Fn.func 57) #[str C2] #[], Value.tuple #[str C3, Value.func (Fn.func 57) #[str C3] #[]], Value.func (Fn.func 57) #[str C2] #[], str me, str lock, str D2, Value.tuple #[str C3, Value.func (Fn.func 57) #[str C3] #[]], str C3, Value.func (Fn.func 57) #[str C3] #[], str C2, undef, undef, undef, undef, undef, str C3, undef, undef, undef, undef, undef, undef, undef, undef, undef, undef, undef, undef, undef, undef, undef, undef], defers := [] }) 10 (fun X O => Below w14.heap.size w14 X ∧ True) ?_ (fun T0 => ?_)
  · rintro X O ⟨hX, hT⟩
    clear hT
    obtain ⟨m0, m1, m2, m3, m4⟩ := KA.out _ (base BW.out (base HB14.out hX))
    have HX := Lib.hid hX
    clear hX 
    refine wpAny_ready (rs := [1, 7]) (by kernel_rfl) (by simp) ?_
    refine AllReady.cons rfl (fun K hK => ?_) (AllReady.cons rfl (fun K hK => ?_) AllReady.nil)
    · go_simp
      refine hK _ _ ?_
      clear hK K
      refine relist (l' := #[true, true, false, false, false, false, true, false, false, false, false, false]) (by kernel_rfl) ?_
      exact T1 _ (O.1, O.2.1, O.2.2) ⟨HX.out, True.intro⟩
    · go_simp
      refine hK _ _ ?_
      clear hK K
      refine relist (l' := #[true, false, false, false, false, false, true, true, false, false, false, false]) (by kernel_rfl) ?_
      exact T7 _ (O.1, O.2.1, O.2.2) ⟨HX.out, True.intro⟩
  exact T0 _ (0, 0, 0) ⟨(rdr.Still.drewN w14 1).below _, True.intro⟩

end Go.Proofs.YtonjohlecomeoaaGreat.iih
