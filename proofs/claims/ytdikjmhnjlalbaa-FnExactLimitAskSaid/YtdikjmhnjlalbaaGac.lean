/- A gate at work: what it is told of the time; what a bucket has; gateOf; limit. -/
import Derived.Test.YtdikjmhnjlalbaaGmp
import Derived.Test.YtdikjmhnjlalbaaBkr
import Derived.Test.YtdikjmhnjlalbaaGl0
import Derived.Test.YtdikjmhnjlalbaaClo
import Derived.StillTailTactics
import Derived.Lib.QuietBelow
namespace Go.Proofs.Ytdikjmhnjlalbaa.gac
open Go.RowKit Go.Sort Go.Maps Go.Proofs.Ytdikjmhnjlalbaa.tm Go.Proofs.Ytdikjmhnjlalbaa.lib Go.Proofs.Ytdikjmhnjlalbaa.rdr Go.Proofs.Ytdikjmhnjlalbaa.bld Go.Proofs.Ytdikjmhnjlalbaa.app Go.Proofs.Ytdikjmhnjlalbaa.gdp Go.Proofs.Ytdikjmhnjlalbaa.gdm Go.Proofs.Ytdikjmhnjlalbaa.rbk Go.Proofs.Ytdikjmhnjlalbaa.bkr Go.Proofs.Ytdikjmhnjlalbaa.gmp Go.Proofs.Ytdikjmhnjlalbaa.glh
set_option linter.unusedVariables false

/-- A clock: a closure over the time. -/
def clkV (F : FuncId) (p : Nat) : Value := .func (.func F) #[] #[.pointer (some ⟨p, 0, none⟩)]
def gateA (rate burst : Int) (b : Nat) (F : FuncId) (p : Nat) : Array Value := #[.int .i64 rate, .int .i64 burst, .map (some b), clkV F p]
structure Clk (F : FuncId) : Prop where
  ent : ∀ (cap : Array Value) (w : World), (callFunc F cap).run Try.prog w = .ok (.enter F cap) w
  tell : ∀ (p : Nat) (now : Int) (w : World), w.cell? ⟨p, 0, none⟩ = some (.int .i64 now) → Calls Try.prog F #[.pointer (some ⟨p, 0, none⟩)] w fun e w' => e = .returned (.int .i64 now) ∧ Below w.heap.size w w'
  tell0 : ∀ (p : Nat) (now : Int) (w : World), w.cell? ⟨p, 0, none⟩ = some (.int .i64 now) → Calls Try.prog F #[.pointer (some ⟨p, 0, none⟩)] w fun e w' => e = .returned (.int .i64 now) ∧ w' = w

set_option maxRecDepth 100000 in
theorem clkAsk : Clk 49 := by
  refine ⟨fun cap w => by first | exact enters_of Try.func49 (by kernel_rfl) rfl cap w | rfl, fun p now w c => ?_, fun p now w c => ?_⟩
  · go_enter Try.func49, Try.ntmps49
    go_wp2_with fail
    go_ret
    exact ⟨rfl, Below.refl _ _⟩
  · go_enter Try.func49, Try.ntmps49
    go_wp2_with fail
    go_ret
    exact ⟨rfl, rfl⟩
set_option maxRecDepth 100000 in
theorem clkClean : Clk 56 := by
  refine ⟨fun cap w => by first | exact enters_of Try.func56 (by kernel_rfl) rfl cap w | rfl, fun p now w c => ?_, fun p now w c => ?_⟩
  · go_enter Try.func56, Try.ntmps56
    go_wp2_with fail
    go_ret
    exact ⟨rfl, Below.refl _ _⟩
  · go_enter Try.func56, Try.ntmps56
    go_wp2_with fail
    go_ret
    exact ⟨rfl, rfl⟩

set_option maxHeartbeats 2000000 in
set_option maxRecDepth 100000 in
theorem has_calls (F : FuncId) (hF : Clk F) (rate burst : Int) (b p : Nat) (now : Int) (k : Bk) (w : World) (c : w.cell? ⟨p, 0, none⟩ = some (.int .i64 now))
    (r1 : 0 ≤ rate) (r2 : rate ≤ 10) (b1 : 0 ≤ burst) (b2 : burst ≤ 100) (k1 : 0 ≤ k.left) (k2 : k.left ≤ 100) (t1 : 0 ≤ k.at_) (t2 : k.at_ ≤ now) (t3 : now ≤ 1000000) :
    Calls Try.prog 72 #[.agg (gateA rate burst b F p), .agg (bkA k)] w fun e w' => e = .returned (.int .i64 (nowR rate burst k now)) ∧ Below w.heap.size w w' := by
  have hent := hF.ent
  obtain ⟨s, x, t⟩ := k
  have hm1 : 0 ≤ rate * (now - t) := Int.mul_nonneg r1 (by simp at t2; omega)
  have hm2 : rate * (now - t) ≤ 10 * 1000000 := by
    simp only at t1 t2
    exact Int.le_trans (Int.mul_le_mul_of_nonneg_right r2 (by omega)) (Int.mul_le_mul_of_nonneg_left (by omega) (by omega))
  unfold gateA clkV bkA nowR
  simp only at k1 k2 t1 t2 ⊢
  obtain ⟨m, hm⟩ : ∃ m, m = rate * (now - t) := ⟨_, rfl⟩
  rw [← hm] at hm1 hm2 ⊢
  have TL := Lib.hid hF.tell
  have C := Lib.hid c
  clear c
  go_enter Try.func72, Try.ntmps72
  go_wp2_with fail
  have Q : ((w.alloc (.cells #[.int .i64 rate, .int .i64 burst, .map (some b), .func (.func F) #[] #[.pointer (some ⟨p, 0, none⟩)]] 79)).alloc (.cells #[str s, .int .i64 x, .int .i64 t] 71)).cell? ⟨p, 0, none⟩ = some (.int .i64 now) ∧ ((w.alloc (.cells #[.int .i64 rate, .int .i64 burst, .map (some b), .func (.func F) #[] #[.pointer (some ⟨p, 0, none⟩)]] 79)).alloc (.cells #[str s, .int .i64 x, .int .i64 t] 71)).heap[w.heap.size]? = some (.cells #[.int .i64 rate, .int .i64 burst, .map (some b), .func (.func F) #[] #[.pointer (some ⟨p, 0, none⟩)]] 79) ∧ ((w.alloc (.cells #[.int .i64 rate, .int .i64 burst, .map (some b), .func (.func F) #[] #[.pointer (some ⟨p, 0, none⟩)]] 79)).alloc (.cells #[str s, .int .i64 x, .int .i64 t] 71)).heap[w.heap.size + 1]? = some (.cells #[str s, .int .i64 x, .int .i64 t] 71) ∧ Below w.heap.size w ((w.alloc (.cells #[.int .i64 rate, .int .i64 burst, .map (some b), .func (.func F) #[] #[.pointer (some ⟨p, 0, none⟩)]] 79)).alloc (.cells #[str s, .int .i64 x, .int .i64 t] 71)) := by
    have hp : p < w.heap.size := block_lt_of_cell (a := ⟨p, 0, none⟩) C.out
    have kW : Below w.heap.size w ((w.alloc (.cells #[.int .i64 rate, .int .i64 burst, .map (some b), .func (.func F) #[] #[.pointer (some ⟨p, 0, none⟩)]] 79)).alloc (.cells #[str s, .int .i64 x, .int .i64 t] 71)) := (new1 _ _).alloc (by simp) _
    refine ⟨?_, (Below.heap_alloc _ _ _ (by simp)).trans (heap_alloc_new w _), ?_, kW⟩
    · rw [kW.cell (p := ⟨p, 0, none⟩) hp]; exact C.out
    · have := heap_alloc_new (w.alloc (.cells #[.int .i64 rate, .int .i64 burst, .map (some b), .func (.func F) #[] #[.pointer (some ⟨p, 0, none⟩)]] 79)) (.cells #[str s, .int .i64 x, .int .i64 t] 71)
      rw [World.size_alloc] at this
      exact this
  generalize hW : ((w.alloc (.cells #[.int .i64 rate, .int .i64 burst, .map (some b), .func (.func F) #[] #[.pointer (some ⟨p, 0, none⟩)]] 79)).alloc (.cells #[str s, .int .i64 x, .int .i64 t] 71)) = W at Q
  obtain ⟨cp, g0, k0, kW⟩ := Q
  obtain ⟨a0, a1, a2, a3, az⟩ := four g0
  obtain ⟨e0, e1, e2, ez⟩ := three k0
  have CP := fun (d : Nat) (os : Array Obj) => cell_regrown (d := d) (os := os) cp
  have A0 := fun (d : Nat) (os : Array Obj) => cell_regrown (d := d) (os := os) a0
  have A1 := fun (d : Nat) (os : Array Obj) => cell_regrown (d := d) (os := os) a1
  have A3 := fun (d : Nat) (os : Array Obj) => cell_regrown (d := d) (os := os) a3
  have E1 := fun (d : Nat) (os : Array Obj) => cell_regrown (d := d) (os := os) e1
  have E2 := fun (d : Nat) (os : Array Obj) => cell_regrown (d := d) (os := os) e2
  refine wp_region_quiet_below (by kernel_rfl) (by kernel_rfl) ?_
  iterate 9 (quiet_step (exact Calls.regrown_of (TL.out _ _ _ (CP _ _))))
  have ws : IntKind.i64.wrap (now - t) = now - t := by rw [IntKind.wrap_i64]; omega
  have wm : IntKind.i64.wrap (rate * (now - t)) = rate * (now - t) := by rw [← hm, IntKind.wrap_i64]; omega
  have wa : IntKind.i64.wrap (x + rate * (now - t)) = x + rate * (now - t) := by rw [← hm, IntKind.wrap_i64]; omega
  iterate 7 (quiet_step (fail))
  refine wpQuiet_nil ?_
  rintro w2 ⟨⟨dq, osq⟩, hw2⟩
  have HB2 := Lib.hid (kW.trans ((show Below W.heap.size W w2 by rw [hw2]; exact below_regrown _ _ _).mono kW.size))
  have HM := Lib.hid hm
  clear hw2 hW cp g0 k0 kW a0 a1 a2 a3 e0 e1 e2 CP A0 A1 A3 E1 E2 hm hm1 hm2
  go_wp2_with fail
  go_ret
  exact ⟨by rw [HM.out]; rfl, HB2.out⟩
end Go.Proofs.Ytdikjmhnjlalbaa.gac
