/- Contracts of madeOf and GateKey of the program, of l04Gate and GateKey of the model. -/
import Derived.Test.YtnlinlodgpbnlaaImk
import Derived.Test.YtnlinlodgpbnlaaSay
import Derived.Test.YtnlinlodgpbnlaaLtp
namespace Go.Proofs.Ytnlinlodgpbnlaa.gky
open Go.RowKit Go.Proofs.Ytnlinlodgpbnlaa.tm Go.Proofs.Ytnlinlodgpbnlaa.lib Go.Proofs.Ytnlinlodgpbnlaa.rdr Go.Proofs.Ytnlinlodgpbnlaa.bld Go.Proofs.Ytnlinlodgpbnlaa.app Go.Proofs.Ytnlinlodgpbnlaa.sop Go.Proofs.Ytnlinlodgpbnlaa.mkp Go.Proofs.Ytnlinlodgpbnlaa.mrk Go.Proofs.Ytnlinlodgpbnlaa.ltp Go.Proofs.Ytnlinlodgpbnlaa.ltq Go.Proofs.Ytnlinlodgpbnlaa.ltv
set_option linter.unusedVariables false

theorem out_term (x : Bs) (y : Int) (w : World) : (Instr.field 56 (.agg #[str x, .int .i64 y]) 0).run Try.prog w = .ok (str x) w := by kernel_rfl

theorem rds_one {w : World} {b cap : Nat} {x : Bs} (c0 : w.cell? ⟨b, 0, none⟩ = some (str x)) (hb : b < w.heap.size) : Rds w (.slice (some ⟨b, 0, none⟩) 1 cap) [x] :=
  .inr ⟨b, 0, cap, rfl, hb, fun j l hj => by
    match j, hj with
    | 0, hj => simp at hj; subst hj; exact c0
    | j + 1, hj => simp at hj⟩
theorem rds_two' {w : World} {b cap : Nat} {x y : Bs} (c0 : w.cell? ⟨b, 0, none⟩ = some (str x)) (c1 : w.cell? ⟨b, 1, none⟩ = some (str y)) (hb : b < w.heap.size) : Rds w (.slice (some ⟨b, 0, none⟩) 2 cap) [x, y] :=
  .inr ⟨b, 0, cap, rfl, hb, fun j l hj => by
    match j, hj with
    | 0, hj => simp at hj; subst hj; exact c0
    | 1, hj => simp at hj; subst hj; exact c1
    | j + 2, hj => simp at hj⟩

theorem made_len (op : Bs) (args : List Bs) : (makeR op args).1.length ≤ 3000 := by
  unfold makeR finR
  repeat' split
  all_goals first | (simp; done) | skip
  rename_i h
  exact okT_len h

set_option maxHeartbeats 1000000 in
set_option maxRecDepth 100000 in
theorem madeOf_calls (op : Bs) (ad : Option Addr) (n cap : Nat) (args : List Bs) (w : World) (hn : n = args.length) (h : Rds w (.slice ad n cap) args) (hop : op.length ≤ 4000000) (hl : args.length ≤ 4000000) (hs : ∀ x ∈ args, x.length ≤ 4000000) :
    Calls Try.prog 31 #[str op, .slice ad n cap] w fun e w' => e = .returned (str (makeR op args).1) ∧ Below w.heap.size w w' := by
  have c := imk.implMake_calls op ad n cap args w hn h hop hl hs
  unfold sop.outVal at c
  obtain ⟨x, hx⟩ : ∃ x, x = (makeR op args).1 := ⟨_, rfl⟩
  obtain ⟨y, hy⟩ : ∃ y, y = (makeR op args).2 := ⟨_, rfl⟩
  rw [← hx, ← hy] at c
  rw [← hx]
  have C := Lib.hid c
  have hfd := out_term x y
  clear c h hs hn hx hy
  go_enter Try.func31, Try.ntmps31
  go_wp2_with fail
  refine C.out.mono ?_
  rintro e w1 ⟨rfl, hb⟩
  have HB := Lib.hid hb
  clear hb
  go_wp2_with fail
  go_ret
  exact ⟨rfl, HB.out⟩

theorem madeTwo (op x y : Bs) (b cap : Nat) (w : World) (c0 : w.cell? ⟨b, 0, none⟩ = some (str x)) (c1 : w.cell? ⟨b, 1, none⟩ = some (str y)) (hb : b < w.heap.size) (hop : op.length ≤ 4000000) (hx : x.length ≤ 4000000) (hy : y.length ≤ 4000000) (z : Bs) (hz : (makeR op [x, y]).1 = z) :
    Calls Try.prog 31 #[str op, .slice (some ⟨b, 0, none⟩) 2 cap] w fun e w' => e = .returned (str z) ∧ Below w.heap.size w w' := by
  rw [← hz]
  exact madeOf_calls op _ 2 cap [x, y] w rfl (rds_two' c0 c1 hb) hop (by simp) (by simp [hx, hy])
theorem madeOne (op x : Bs) (b cap : Nat) (w : World) (c0 : w.cell? ⟨b, 0, none⟩ = some (str x)) (hb : b < w.heap.size) (hop : op.length ≤ 4000000) (hx : x.length ≤ 4000000) (z : Bs) (hz : (makeR op [x]).1 = z) :
    Calls Try.prog 31 #[str op, .slice (some ⟨b, 0, none⟩) 1 cap] w fun e w' => e = .returned (str z) ∧ Below w.heap.size w w' := by
  rw [← hz]
  exact madeOf_calls op _ 1 cap [x] w rfl (rds_one c0 hb) hop (by simp) (by simp [hx])

set_option maxHeartbeats 1000000 in
set_option maxRecDepth 100000 in
theorem implGateKey_calls (lock : Bs) (hl : lock.length ≤ 4000000) (w : World) :
    Calls Try.prog 14 #[str lock] w fun e w' => e = .returned (str (gateR lock)) ∧ Below w.heap.size w w' := by
  rw [← gate_made lock]
  obtain ⟨P, hP⟩ : ∃ P, (makeR oPair [oGate, lock]).1 = P := ⟨_, rfl⟩
  rw [hP]
  have hPl : P.length ≤ 4000000 := by have := made_len oPair [oGate, lock]; rw [hP] at this; omega
  obtain ⟨G, hG⟩ : ∃ G, (makeR oHash [P]).1 = G := ⟨_, rfl⟩
  rw [hG]
  have c1 := fun (w : World) (b : Nat) h0 h1 hb => madeTwo oPair oGate lock b 2 w h0 h1 hb (by decide) (by decide) hl P hP
  have c2 := fun (w : World) (b : Nat) h0 hb => madeOne oHash P b 1 w h0 hb (by decide) hPl G hG
  have C1 := Lib.hid c1
  have C2 := Lib.hid c2
  unfold oPair oGate at C1
  unfold oHash at C2
  clear c1 c2 hP hG hPl
  go_enter Try.func14, Try.ntmps14
  go_wp2_with fail
  refine (C1.out _ _ (by simp [go_sem]) (by simp [go_sem]) (by simp)).mono ?_
  rintro e w1 ⟨rfl, hb1⟩
  have HB1 := Lib.hid (((Below.refl _ w).alloc (Nat.le_refl _) _).trans (hb1.mono (by simp)))
  clear hb1
  go_wp2_with fail
  refine (C2.out _ _ (by simp [go_sem]) (by simp)).mono ?_
  rintro e w2 ⟨rfl, hb2⟩
  have HB2 := Lib.hid ((HB1.out.alloc HB1.out.size _).trans (hb2.mono (by have := HB1.out.size; simp; omega)))
  clear hb2
  go_wp2_with fail
  go_ret
  exact ⟨rfl, HB2.out⟩

/-- TermRight of the model at any text. -/
theorem right_any (l : Bs) (b : Bool) (h : okT l = b) (hl : l.length ≤ 4000000) (w : World) :
    Calls Try.prog 18 #[str l] w fun e w' => e = .returned (.bool b) ∧ Below w.heap.size w w' := by
  have := srt.specTermRight_calls ⟨l.toArray⟩ (by unfold maxLen; show l.toArray.size ≤ _; simp; omega) w
  rw [show (term (⟨l.toArray⟩ : ByteArray).data.toList).isSome = b from h] at this
  exact this
/-- .. of the program. -/
theorem iright_any (l : Bs) (b : Bool) (h : okT l = b) (hl : l.length ≤ 4000000) (w : World) :
    Calls Try.prog 34 #[str l] w fun e w' => e = .returned (.bool b) ∧ Below w.heap.size w w' := by
  have := grd.implTermRight_calls ⟨l.toArray⟩ (by unfold maxLen; show l.toArray.size ≤ _; simp; omega) w
  rw [show (term (⟨l.toArray⟩ : ByteArray).data.toList).isSome = b from h] at this
  exact this

set_option maxHeartbeats 1000000 in
set_option maxRecDepth 100000 in
theorem l04Gate_calls (lock : Bs) (hl : lock.length ≤ 100000) (w : World) :
    Calls Try.prog 30 #[str lock] w fun e w' => e = .returned (str (gate lock)) ∧ Below w.heap.size w w' := by
  unfold gate
  obtain ⟨P, hP⟩ : ∃ P, P = say oPair [oGate, lock] := ⟨_, rfl⟩
  have hPl : P.length ≤ 4000000 := by rw [hP]; simp [say, oPair, oGate]; omega
  have c1 := fun (w : World) (b : Nat) h0 h1 => ssy.say_two oPair oGate lock b 0 2 w h0 h1 (by decide) (by decide) (by omega)
  rw [← hP] at c1 ⊢
  have c2 := fun (w : World) (b : Nat) h0 => ssy.say_one oHash P b 0 1 w h0 (by decide) hPl
  obtain ⟨G, hG⟩ : ∃ G, G = say oHash [P] := ⟨_, rfl⟩
  rw [← hG] at c2 ⊢
  have C1 := Lib.hid c1
  have C2 := Lib.hid c2
  unfold oPair oGate at C1
  unfold oHash at C2
  clear c1 c2 hP hG hPl
  go_enter Try.func30, Try.ntmps30
  go_wp2_with fail
  refine (C1.out _ _ (by simp [go_sem]) (by simp [go_sem])).mono ?_
  rintro e w1 ⟨rfl, hb1⟩
  have HB1 := Lib.hid (((Below.refl _ w).alloc (Nat.le_refl _) _).trans (hb1.mono (by simp)))
  clear hb1
  go_wp2_with fail
  refine (C2.out _ _ (by simp [go_sem])).mono ?_
  rintro e w2 ⟨rfl, hb2⟩
  have HB2 := Lib.hid ((HB1.out.alloc HB1.out.size _).trans (hb2.mono (by have := HB1.out.size; simp; omega)))
  clear hb2
  go_wp2_with fail
  go_ret
  exact ⟨rfl, HB2.out⟩

theorem gate_len (lock : Bs) : (gate lock).length = lock.length + 19 := by simp [gate, say, oHash, oPair, oGate]
end Go.Proofs.Ytnlinlodgpbnlaa.gky
