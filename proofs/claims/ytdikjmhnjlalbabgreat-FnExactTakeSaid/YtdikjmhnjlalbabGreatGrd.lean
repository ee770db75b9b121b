/- Contracts of guarded at terms and its deferred closure; of termOf: a term, or none. -/
import Derived.Test.YtdikjmhnjlalbabGreatGrp
namespace Go.Proofs.YtdikjmhnjlalbabGreat.grd
open Go.RowKit Go.Proofs.YtdikjmhnjlalbabGreat.tm Go.Proofs.YtdikjmhnjlalbabGreat.lib Go.Proofs.YtdikjmhnjlalbabGreat.rdr Go.Proofs.YtdikjmhnjlalbabGreat.bld Go.Proofs.YtdikjmhnjlalbabGreat.app Go.Proofs.YtdikjmhnjlalbabGreat.prs
set_option linter.unusedVariables false

set_option maxRecDepth 100000 in
theorem catchT_panic (p : Addr) (x c : Int) (older : List PanicEntry) (w : World) (hc : w.cell? p = some (.int .i64 x)) (hz : w.frozen? p = false) (hp : p.block < w.heap.size) :
    CallsD Tryz.prog 71 #[.pointer (some p)] (.panicking ({ v := .iface 118 (.agg #[.int .i64 c]), recovered := false } :: older)) w fun e u' w' =>
      e = .returned (.tuple #[]) ∧ u' = .panicking ({ v := .iface 118 (.agg #[.int .i64 c]), recovered := true } :: older) ∧ ∃ w1, Below w.heap.size w w1 ∧ w' = w1.setCell p (.int .i64 c) := by
  refine callsD_of_wpS Tryz.func71 rfl fun c₀ cs hu => ?_
  apply wpS_seq
  apply wpS_region
  simp [wpOpsS, go_sem, recoverD, hu, Tryz.ntmps71, Exit.thenS]
  refine wpS_of_wp ?_
  change Code.wp _ _ _ { tmps := #[.pointer (some p), .iface 118 (.agg #[.int .i64 c]), .iface 118 (.agg #[.int .i64 c]), undef, undef, undef, undef], defers := [] } _
  clear hu
  go_wp2_with (go_at_call 72; refine (codeOf_calls _ _).mono ?_; rintro e w1 ⟨rfl, hb⟩; have hc1 := hb.cell hp; rw [hc] at hc1; have hz1 := hb.frozen hp; rw [hz] at hz1; have HB := Lib.hid hb; clear hb)
  exact ⟨rfl, _, rfl, .tuple #[], by simp [results, Tryz.results71, go_sem], rfl, rfl, w1, HB.out, rfl⟩

set_option maxRecDepth 100000 in
theorem catchT_idle (p : Addr) (w : World) :
    CallsD Tryz.prog 71 #[.pointer (some p)] .returning w fun e u' w' => e = .returned (.tuple #[]) ∧ u' = .returning ∧ w' = w := by
  refine callsD_of_wpS Tryz.func71 rfl fun c₀ cs hu => ?_
  apply wpS_seq
  apply wpS_region
  simp [wpOpsS, go_sem, recoverD, hu, Tryz.ntmps71, Exit.thenS]
  refine wpS_of_wp ?_
  change Code.wp _ _ _ { tmps := #[.pointer (some p), .nilIface, .nilIface, undef, undef, undef, undef], defers := [] } _
  go_wp2
  refine ⟨rfl, .returning, ?_, .tuple #[], by simp [results, Tryz.results71, go_sem], rfl, rfl, rfl⟩
  cases c₀
  simp_all

/-- guarded of a closure that returns. -/
theorem guardedT_ret (F : FuncId) (cap : Array Value) (v : Value) (hcf : ∀ (w : World), (callFunc F cap).run Tryz.prog w = .ok (.enter F cap) w) (w : World)
    (h : ∀ w1, Below w.heap.size w w1 → Calls Tryz.prog F cap w1 fun e w' => e = .returned v ∧ Below w1.heap.size w1 w') :
    Calls Tryz.prog 61 #[.func (.func F) #[] cap] w fun e w' => e = .returned (.tuple #[v, .int .i64 0]) ∧ Below w.heap.size w w' := by
  have hmf : ∀ (fn : Fn) (first cap : Array Value) (w : World), (Instr.makeFunc fn first cap).run Tryz.prog w = .ok (.func fn first cap) w := fun _ _ _ _ => rfl
  have HH := Lib.hid h
  clear h
  go_enter_defers Tryz.func61, Tryz.ntmps61
  go_wp2_with fail
  refine (HH.out _ ((Below.refl _ _).alloc (Nat.le_refl _) _)).mono ?_
  rintro e w1 ⟨rfl, hb⟩
  obtain ⟨c0, f0, z0⟩ := one (clo.new_kept hb)
  have HB := Lib.hid (((Below.refl _ _).alloc (Nat.le_refl _) _).trans (hb.mono (by simp)))
  clear hb
  go_wp2_with fail
  refine leaves_cons (f := 71) (args := #[.pointer (some ⟨w.heap.size, 0, none⟩)]) (by simp) (by simp [go_sem]) ?_
  refine (catchT_idle ⟨w.heap.size, 0, none⟩ _).mono ?_
  rintro e u' w'' ⟨rfl, rfl, rfl⟩
  refine ⟨.tuple #[v, .int .i64 0], by simp [results, Tryz.results61, go_sem, c0], rfl, HB.out.setCell (by simp) _⟩

/-- guarded of a closure that leaves off with a code. -/
theorem guardedT_fault (F : FuncId) (cap : Array Value) (c : Int) (hcf : ∀ (w : World), (callFunc F cap).run Tryz.prog w = .ok (.enter F cap) w) (w : World)
    (h : ∀ w1, Below w.heap.size w w1 → Calls Tryz.prog F cap w1 fun e w' => e = fault c ∧ Below w1.heap.size w1 w') :
    Calls Tryz.prog 61 #[.func (.func F) #[] cap] w fun e w' => e = .returned (.tuple #[.nilIface, .int .i64 c]) ∧ Below w.heap.size w w' := by
  have hmf : ∀ (fn : Fn) (first cap : Array Value) (w : World), (Instr.makeFunc fn first cap).run Tryz.prog w = .ok (.func fn first cap) w := fun _ _ _ _ => rfl
  have HH := Lib.hid h
  clear h
  go_enter_defers Tryz.func61, Tryz.ntmps61
  go_wp2_with fail
  refine (HH.out _ ((Below.refl _ _).alloc (Nat.le_refl _) _)).mono ?_
  rintro e w1 ⟨rfl, hb⟩
  obtain ⟨c0, f0, z0⟩ := one (clo.new_kept hb)
  have HB := Lib.hid (((Below.refl _ _).alloc (Nat.le_refl _) _).trans (hb.mono (by simp)))
  clear hb
  refine leaves_cons (f := 71) (args := #[.pointer (some ⟨w.heap.size, 0, none⟩)]) (by simp) (by simp [go_sem]) ?_
  refine (catchT_panic ⟨w.heap.size, 0, none⟩ 0 c [] _ c0 f0 z0).mono ?_
  rintro e u' w'' ⟨rfl, rfl, w2, hb2, rfl⟩
  have c1 := hb2.cell (p := ⟨w.heap.size, 0, none⟩) z0
  rw [c0] at c1
  have z2 := hb2.size
  have z3 : w.heap.size < w2.heap.size := by omega
  refine ⟨.tuple #[.nilIface, .int .i64 c], by simp [results, Tryz.results61, go_sem, c1], rfl, (HB.out.trans (hb2.mono (by omega))).setCell (by simp) _⟩

/-! ### termOf -/
theorem closT (a : Value) (w : World) : (callFunc 62 #[a]).run Tryz.prog w = .ok (.enter 62 #[a]) w := by kernel_rfl

set_option maxRecDepth 100000 in
theorem clos_calls (s : ByteArray) (hs : s.size ≤ maxLen) (a : Nat) (w : World) (hc : w.cell? ⟨a, 0, none⟩ = some (.string s)) :
    Calls Tryz.prog 62 #[.pointer (some ⟨a, 0, none⟩)] w (TEnd (term s.data.toList) w) := by
  go_enter Tryz.func62, Tryz.ntmps62
  go_wp2_with fail
  refine (readTerm_calls s hs _).mono ?_
  rintro e w1 ⟨h, hb⟩
  rcases h with ⟨T, h1, rfl⟩ | ⟨h1, rfl⟩
  · have H1 := Lib.hid h1
    have HB := Lib.hid hb
    clear h1 hb
    go_wp2_with fail
    go_ret
    exact ⟨.inl ⟨T, H1.out, rfl⟩, HB.out⟩
  · exact ⟨rfl, .inr ⟨h1, rfl⟩, hb⟩

theorem Below.push {w w1 : World} {o : Obj} (h : Below w.heap.size (w.alloc o) w1) : Below w.heap.size w w1 := ((Below.refl _ _).alloc (Nat.le_refl _) _).trans h

set_option maxRecDepth 100000 in
theorem termOf_yes (s : ByteArray) (hs : s.size ≤ maxLen) (T : Tm) (h : term s.data.toList = some T) (w : World) :
    Calls Tryz.prog 40 #[.string s] w fun e w' => e = .returned (.tuple #[val T, .bool true]) ∧ Below w.heap.size w w' := by
  have hcl := guardedT_ret 62 #[.pointer (some ⟨w.heap.size, 0, none⟩)] (val T) (fun w => closT _ w) (w.alloc (.cells #[.string s] 9)) fun w1 hb =>
    (clos_calls s hs w.heap.size w1 (by rw [hb.cell (p := ⟨w.heap.size, 0, none⟩) (by simp)]; simp [go_sem])).mono fun e w' hk => by
      obtain ⟨hk, hb⟩ := hk
      rcases hk with ⟨T', h1, rfl⟩ | ⟨h1, rfl⟩
      · rw [h] at h1; cases h1; exact ⟨rfl, hb⟩
      · rw [h] at h1; cases h1
  have hmf : ∀ (fn : Fn) (first cap : Array Value) (w : World), (Instr.makeFunc fn first cap).run Tryz.prog w = .ok (.func fn first cap) w := fun _ _ _ _ => rfl
  have HC := Lib.hid hcl
  clear hcl h
  go_enter Tryz.func40, Tryz.ntmps40
  go_wp2_with fail
  refine HC.out.mono ?_
  rintro e w1 ⟨rfl, hb⟩
  go_wp2_with fail
  go_ret2
  exact ⟨rfl, Below.push (hb.mono (by simp))⟩

set_option maxRecDepth 100000 in
theorem termOf_no (s : ByteArray) (hs : s.size ≤ maxLen) (h : term s.data.toList = none) (w : World) :
    Calls Tryz.prog 40 #[.string s] w fun e w' => e = .returned (.tuple #[.nilIface, .bool false]) ∧ Below w.heap.size w w' := by
  have hcl := guardedT_fault 62 #[.pointer (some ⟨w.heap.size, 0, none⟩)] 1 (fun w => closT _ w) (w.alloc (.cells #[.string s] 9)) fun w1 hb =>
    (clos_calls s hs w.heap.size w1 (by rw [hb.cell (p := ⟨w.heap.size, 0, none⟩) (by simp)]; simp [go_sem])).mono fun e w' hk => by
      obtain ⟨hk, hb⟩ := hk
      rcases hk with ⟨T', h1, rfl⟩ | ⟨h1, rfl⟩
      · rw [h] at h1; cases h1
      · exact ⟨rfl, hb⟩
  have hmf : ∀ (fn : Fn) (first cap : Array Value) (w : World), (Instr.makeFunc fn first cap).run Tryz.prog w = .ok (.func fn first cap) w := fun _ _ _ _ => rfl
  have HC := Lib.hid hcl
  clear hcl h
  go_enter Tryz.func40, Tryz.ntmps40
  go_wp2_with fail
  refine HC.out.mono ?_
  rintro e w1 ⟨rfl, hb⟩
  go_wp2_with fail
  go_ret2
  exact ⟨rfl, Below.push (hb.mono (by simp))⟩

end Go.Proofs.YtdikjmhnjlalbabGreat.grd
