/- Contract of madeOf of the program. -/
import Derived.Test.YtonjohlecomeoaaImk
import Derived.Test.YtonjohlecomeoaaLtp
namespace Go.Proofs.Ytonjohlecomeoaa.gky
open Go.RowKit Go.Proofs.Ytonjohlecomeoaa.tm Go.Proofs.Ytonjohlecomeoaa.lib Go.Proofs.Ytonjohlecomeoaa.rdr Go.Proofs.Ytonjohlecomeoaa.bld Go.Proofs.Ytonjohlecomeoaa.app Go.Proofs.Ytonjohlecomeoaa.sop Go.Proofs.Ytonjohlecomeoaa.mkp Go.Proofs.Ytonjohlecomeoaa.mrk Go.Proofs.Ytonjohlecomeoaa.ltp Go.Proofs.Ytonjohlecomeoaa.ltq Go.Proofs.Ytonjohlecomeoaa.ltv
set_option linter.unusedVariables false

theorem out_term (x : Bs) (y : Int) (w : World) : (Instr.field 67 (.agg #[str x, .int .i64 y]) 0).run Try.prog w = .ok (str x) w := by kernel_rfl

theorem rds_one {w : World} {b cap : Nat} {x : Bs} (c0 : w.cell? ⟨b, 0, none⟩ = some (str x)) (hb : b < w.heap.size) : Rds w (.slice (some ⟨b, 0, none⟩) 1 cap) [x] :=
  .inr ⟨b, 0, cap, rfl, hb, fun j l hj => by
    match j, hj with
    | 0, hj => simp at hj; subst hj; exact c0
    | j + 1, hj => simp at hj⟩
theorem rds_two' {w : World} {b cap : Nat} {x y : Bs} (c0 : w.cell? ⟨b, 0, none⟩ = some (str x)) (c1 : w.cell? ⟨b, 1, none⟩ = some (str y)) (hb : b < w.heap.size) : Rds w (.slice (some ⟨b, 0, none⟩) 2 cap) [x, y] :=
  .inr ⟨b, 0, cap, rfl, hb, fun j l hj => by
    match j, hj with
    | 0, hj => simp at hj; subst hj; exact c0
    | 1, hj => simp at hj; subst hj; exact c1
    | j + 2, hj => simp at hj⟩

theorem made_len (op : Bs) (args : List Bs) : (makeR op args).1.length ≤ 3000 := by
  unfold makeR finR
  repeat' split
  all_goals first | (simp; done) | skip
  rename_i h
  exact okT_len h

set_option maxHeartbeats 1000000 in
set_option maxRecDepth 100000 in
theorem madeOf_calls (op : Bs) (ad : Option Addr) (n cap : Nat) (args : List Bs) (w : World) (hn : n = args.length) (h : Rds w (.slice ad n cap) args) (hop : op.length ≤ 4000000) (hl : args.length ≤ 4000000) (hs : ∀ x ∈ args, x.length ≤ 4000000) :
    Calls Try.prog 19 #[str op, .slice ad n cap] w fun e w' => e = .returned (str (makeR op args).1) ∧ Below w.heap.size w w' := by
  have c := imk.implMake_calls op ad n cap args w hn h hop hl hs
  unfold sop.outVal at c
  obtain ⟨x, hx⟩ : ∃ x, x = (makeR op args).1 := ⟨_, rfl⟩
  obtain ⟨y, hy⟩ : ∃ y, y = (makeR op args).2 := ⟨_, rfl⟩
  rw [← hx, ← hy] at c
  rw [← hx]
  have C := Lib.hid c
  have hfd := out_term x y
  clear c h hs hn hx hy
  go_enter Try.func19, Try.ntmps19
  go_wp2_with fail
  refine C.out.mono ?_
  rintro e w1 ⟨rfl, hb⟩
  have HB := Lib.hid hb
  clear hb
  go_wp2_with fail
  go_ret
  exact ⟨rfl, HB.out⟩

theorem madeTwo (op x y : Bs) (b cap : Nat) (w : World) (c0 : w.cell? ⟨b, 0, none⟩ = some (str x)) (c1 : w.cell? ⟨b, 1, none⟩ = some (str y)) (hb : b < w.heap.size) (hop : op.length ≤ 4000000) (hx : x.length ≤ 4000000) (hy : y.length ≤ 4000000) (z : Bs) (hz : (makeR op [x, y]).1 = z) :
    Calls Try.prog 19 #[str op, .slice (some ⟨b, 0, none⟩) 2 cap] w fun e w' => e = .returned (str z) ∧ Below w.heap.size w w' := by
  rw [← hz]
  exact madeOf_calls op _ 2 cap [x, y] w rfl (rds_two' c0 c1 hb) hop (by simp) (by simp [hx, hy])
theorem madeOne (op x : Bs) (b cap : Nat) (w : World) (c0 : w.cell? ⟨b, 0, none⟩ = some (str x)) (hb : b < w.heap.size) (hop : op.length ≤ 4000000) (hx : x.length ≤ 4000000) (z : Bs) (hz : (makeR op [x]).1 = z) :
    Calls Try.prog 19 #[str op, .slice (some ⟨b, 0, none⟩) 1 cap] w fun e w' => e = .returned (str z) ∧ Below w.heap.size w w' := by
  rw [← hz]
  exact madeOf_calls op _ 1 cap [x] w rfl (rds_one c0 hb) hop (by simp) (by simp [hx])

end Go.Proofs.Ytonjohlecomeoaa.gky
