/- Contracts of readTerm; of guarded and its deferred closure; of termOf: a term, or none. -/
import Derived.Test.YtnlinlodgpbnlaaGreatPrs
import Derived.Defers
import Derived.Recover
namespace Go.Proofs.YtnlinlodgpbnlaaGreat.grd
open Go.RowKit Go.Proofs.YtnlinlodgpbnlaaGreat.tm Go.Proofs.YtnlinlodgpbnlaaGreat.lib Go.Proofs.YtnlinlodgpbnlaaGreat.rdr Go.Proofs.YtnlinlodgpbnlaaGreat.bld Go.Proofs.YtnlinlodgpbnlaaGreat.app Go.Proofs.YtnlinlodgpbnlaaGreat.prs
set_option linter.unusedVariables false

/-- What becomes of a reading: the term, or the fault. -/
def TEnd (R : Option Tm) (w : World) (e : Ending) (w' : World) : Prop :=
  ((∃ T, R = some T ∧ e = .returned (val T)) ∨ (R = none ∧ e = fault 1)) ∧ Below w.heap.size w w'

theorem only_new {w w' : World} {o : Obj} (h : Only w.heap.size (w.alloc o) w') : Below w.heap.size w w' :=
  ⟨h.os, h.tape, h.output, by have := h.size; simp at this; omega, fun k hk => by rw [h.block k (by simp; omega) (by omega)]; exact Below.heap_alloc _ _ _ hk⟩

set_option maxRecDepth 100000 in
theorem readTerm_calls (s : ByteArray) (hs : s.size ≤ maxLen) (w : World) :
    Calls Tryz.prog 82 #[.string s] w (TEnd (term s.data.toList) w) := by
  unfold maxLen at hs
  by_cases hbig : 3000 < s.size
  · have d0 : decide (3000 < (s.size : Int)) = true := by simp; omega
    have e0 : term s.data.toList = none := by
      unfold term
      rw [if_neg (by show ¬ s.size ≤ 3000; omega)]
    have E0 := Lib.hid e0
    clear e0
    go_enter Tryz.func82, Tryz.ntmps82
    go_wp2_with (go_at_call 83; refine (refuse_calls _ _).mono ?_; rintro e w' ⟨rfl, rfl⟩)
    exact ⟨rfl, .inr ⟨E0.out, rfl⟩, Below.refl _ _⟩
  · have d0 : decide (3000 < (s.size : Int)) = false := by simp; omega
    have hr : Rdr (w.alloc (.cells #[.string s, .int .i64 0] 151)) w.heap.size s 0 := by
      unfold Rdr
      rw [heap_alloc_new]
      rfl
    have hro := ro_all 24 (Nat.le_refl _) _ w.heap.size s 0 1 hr (by omega) (by omega) rfl
    have ht : term s.data.toList = pz 24 s.data.toList := by
      unfold term
      rw [if_pos (by show s.size ≤ 3000; omega)]
    rw [List.drop_zero] at hro
    obtain ⟨Z, hZ⟩ : ∃ Z, Z = rd 24 s.data.toList := ⟨_, rfl⟩
    rw [← hZ] at hro
    unfold pz at ht
    rw [← hZ] at ht
    have hsound := fun T r => rd_sound 24 s.data.toList T r
    rw [← hZ] at hsound
    have HS := Lib.hid hsound
    clear hZ hr hsound
    have HRO := Lib.hid hro
    have HT := Lib.hid ht
    clear hro ht
    go_enter Tryz.func82, Tryz.ntmps82
    go_wp2_with fail
    rcases Z with _ | ⟨T, r⟩
    · refine (HRO.out.2 rfl).mono ?_
      rintro e w1 ⟨rfl, ho⟩
      exact ⟨rfl, .inr ⟨HT.out, rfl⟩, only_new ho⟩
    · refine (HRO.out.1 T r rfl).mono ?_
      rintro e w1 ⟨rfl, ho, hr⟩
      obtain ⟨c0, c1, f0, f1, hb1⟩ := two hr
      rw [Nat.zero_add] at c1
      have e1 : T.tx.length + r.length = s.size := by
        have := congrArg List.length (HS.out T r rfl).1
        rw [List.length_append] at this
        exact this.symm
      have HB := Lib.hid (only_new ho)
      have HE := Lib.hid e1
      have hle : T.tx.length ≤ s.size := by omega
      clear ho hr e1
      by_cases hl : T.tx.length < s.size
      · have en : term s.data.toList = none := by
          rw [HT.out]
          cases r with
          | nil => have := HE.out; simp at this; omega
          | cons c r => rfl
        have EN := Lib.hid en
        clear en
        go_wp2_with (go_at_call 83; refine (refuse_calls _ _).mono ?_; rintro e w' ⟨rfl, rfl⟩)
        exact ⟨rfl, .inr ⟨EN.out, rfl⟩, HB.out⟩
      · have es : term s.data.toList = some T := by
          rw [HT.out]
          cases r with
          | nil => rfl
          | cons c r => have := HE.out; simp at this; omega
        have ES := Lib.hid es
        clear es
        go_wp2_with fail
        go_ret
        exact ⟨.inl ⟨T, ES.out, rfl⟩, HB.out⟩

theorem one {w : World} {b : Nat} {v : Value} {t : TypeId} (h : w.heap[b]? = some (.cells #[v] t (0, 0))) :
    w.cell? ⟨b, 0, none⟩ = some v ∧ w.frozen? ⟨b, 0, none⟩ = false ∧ b < w.heap.size := by
  have hb : b < w.heap.size := by
    rcases Nat.lt_or_ge b w.heap.size with h' | h'
    · exact h'
    · rw [Array.getElem?_eq_none h'] at h; cases h
  exact ⟨by rw [cell_of_row w b 0 _ t (0, 0) h]; rfl, by simp [World.frozen?, h], hb⟩

theorem as_fault (v : Value) (w : World) : (Instr.typeAssert (.iface 142 v) 20 142 true).run Tryz.prog w = .ok (.tuple #[v, .bool true]) w := by kernel_rfl

set_option maxRecDepth 100000 in
theorem codeOf_calls (c : Int) (w : World) : Calls Tryz.prog 157 #[.iface 142 (.agg #[.int .i64 c])] w fun e w' => e = .returned (.int .i64 c) ∧ Below w.heap.size w w' := by
  have h1 := as_fault (.agg #[.int .i64 c])
  go_enter Tryz.func157, Tryz.ntmps157
  go_wp2
  go_ret
  exact ⟨rfl, (Below.refl _ _).alloc (Nat.le_refl _) _⟩


set_option maxRecDepth 100000 in
theorem catchT_panic (p : Addr) (x c : Int) (older : List PanicEntry) (w : World) (hc : w.cell? p = some (.int .i64 x)) (hz : w.frozen? p = false) (hp : p.block < w.heap.size) :
    CallsD Tryz.prog 159 #[.pointer (some p)] (.panicking ({ v := .iface 142 (.agg #[.int .i64 c]), recovered := false } :: older)) w fun e u' w' =>
      e = .returned (.tuple #[]) ∧ u' = .panicking ({ v := .iface 142 (.agg #[.int .i64 c]), recovered := true } :: older) ∧ ∃ w1, Below w.heap.size w w1 ∧ w' = w1.setCell p (.int .i64 c) := by
  refine callsD_of_wpS Tryz.func159 rfl fun c₀ cs hu => ?_
  apply wpS_seq
  apply wpS_region
  simp [wpOpsS, go_sem, recoverD, hu, Tryz.ntmps159, Exit.thenS]
  refine wpS_of_wp ?_
  change Code.wp _ _ _ { tmps := #[.pointer (some p), .iface 142 (.agg #[.int .i64 c]), .iface 142 (.agg #[.int .i64 c]), undef, undef, undef, undef], defers := [] } _
  clear hu
  go_wp2_with (go_at_call 157; refine (codeOf_calls _ _).mono ?_; rintro e w1 ⟨rfl, hb⟩; have hc1 := hb.cell hp; rw [hc] at hc1; have hz1 := hb.frozen hp; rw [hz] at hz1; have HB := Lib.hid hb; clear hb)
  exact ⟨rfl, _, rfl, .tuple #[], by simp [results, Tryz.results159, go_sem], rfl, rfl, w1, HB.out, rfl⟩

set_option maxRecDepth 100000 in
theorem catchT_idle (p : Addr) (w : World) :
    CallsD Tryz.prog 159 #[.pointer (some p)] .returning w fun e u' w' => e = .returned (.tuple #[]) ∧ u' = .returning ∧ w' = w := by
  refine callsD_of_wpS Tryz.func159 rfl fun c₀ cs hu => ?_
  apply wpS_seq
  apply wpS_region
  simp [wpOpsS, go_sem, recoverD, hu, Tryz.ntmps159, Exit.thenS]
  refine wpS_of_wp ?_
  change Code.wp _ _ _ { tmps := #[.pointer (some p), .nilIface, .nilIface, undef, undef, undef, undef], defers := [] } _
  go_wp2
  refine ⟨rfl, .returning, ?_, .tuple #[], by simp [results, Tryz.results159, go_sem], rfl, rfl, rfl⟩
  cases c₀
  simp_all

/-- guarded of a closure that returns. -/
theorem guardedT_ret (F : FuncId) (cap : Array Value) (v : Value) (hcf : ∀ (w : World), (callFunc F cap).run Tryz.prog w = .ok (.enter F cap) w) (w : World)
    (h : ∀ w1, Below w.heap.size w w1 → Calls Tryz.prog F cap w1 fun e w' => e = .returned v ∧ Below w1.heap.size w1 w') :
    Calls Tryz.prog 125 #[.func (.func F) #[] cap] w fun e w' => e = .returned (.tuple #[v, .int .i64 0]) ∧ Below w.heap.size w w' := by
  have hmf : ∀ (fn : Fn) (first cap : Array Value) (w : World), (Instr.makeFunc fn first cap).run Tryz.prog w = .ok (.func fn first cap) w := fun _ _ _ _ => rfl
  have HH := Lib.hid h
  clear h
  go_enter_defers Tryz.func125, Tryz.ntmps125
  go_wp2_with fail
  refine (HH.out _ ((Below.refl _ _).alloc (Nat.le_refl _) _)).mono ?_
  rintro e w1 ⟨rfl, hb⟩
  obtain ⟨c0, f0, z0⟩ := one (clo.new_kept hb)
  have HB := Lib.hid (((Below.refl _ _).alloc (Nat.le_refl _) _).trans (hb.mono (by simp)))
  clear hb
  go_wp2_with fail
  refine leaves_cons (f := 159) (args := #[.pointer (some ⟨w.heap.size, 0, none⟩)]) (by simp) (by simp [go_sem]) ?_
  refine (catchT_idle ⟨w.heap.size, 0, none⟩ _).mono ?_
  rintro e u' w'' ⟨rfl, rfl, rfl⟩
  refine ⟨.tuple #[v, .int .i64 0], by simp [results, Tryz.results125, go_sem, c0], rfl, HB.out.setCell (by simp) _⟩

/-- guarded of a closure that leaves off with a code. -/
theorem guardedT_fault (F : FuncId) (cap : Array Value) (c : Int) (hcf : ∀ (w : World), (callFunc F cap).run Tryz.prog w = .ok (.enter F cap) w) (w : World)
    (h : ∀ w1, Below w.heap.size w w1 → Calls Tryz.prog F cap w1 fun e w' => e = fault c ∧ Below w1.heap.size w1 w') :
    Calls Tryz.prog 125 #[.func (.func F) #[] cap] w fun e w' => e = .returned (.tuple #[.nilIface, .int .i64 c]) ∧ Below w.heap.size w w' := by
  have hmf : ∀ (fn : Fn) (first cap : Array Value) (w : World), (Instr.makeFunc fn first cap).run Tryz.prog w = .ok (.func fn first cap) w := fun _ _ _ _ => rfl
  have HH := Lib.hid h
  clear h
  go_enter_defers Tryz.func125, Tryz.ntmps125
  go_wp2_with fail
  refine (HH.out _ ((Below.refl _ _).alloc (Nat.le_refl _) _)).mono ?_
  rintro e w1 ⟨rfl, hb⟩
  obtain ⟨c0, f0, z0⟩ := one (clo.new_kept hb)
  have HB := Lib.hid (((Below.refl _ _).alloc (Nat.le_refl _) _).trans (hb.mono (by simp)))
  clear hb
  refine leaves_cons (f := 159) (args := #[.pointer (some ⟨w.heap.size, 0, none⟩)]) (by simp) (by simp [go_sem]) ?_
  refine (catchT_panic ⟨w.heap.size, 0, none⟩ 0 c [] _ c0 f0 z0).mono ?_
  rintro e u' w'' ⟨rfl, rfl, w2, hb2, rfl⟩
  have c1 := hb2.cell (p := ⟨w.heap.size, 0, none⟩) z0
  rw [c0] at c1
  have z2 := hb2.size
  have z3 : w.heap.size < w2.heap.size := by omega
  refine ⟨.tuple #[.nilIface, .int .i64 c], by simp [results, Tryz.results125, go_sem, c1], rfl, (HB.out.trans (hb2.mono (by omega))).setCell (by simp) _⟩

/-! ### termOf -/
theorem closT (a : Value) (w : World) : (callFunc 126 #[a]).run Tryz.prog w = .ok (.enter 126 #[a]) w := by kernel_rfl

set_option maxRecDepth 100000 in
theorem clos_calls (s : ByteArray) (hs : s.size ≤ maxLen) (a : Nat) (w : World) (hc : w.cell? ⟨a, 0, none⟩ = some (.string s)) :
    Calls Tryz.prog 126 #[.pointer (some ⟨a, 0, none⟩)] w (TEnd (term s.data.toList) w) := by
  go_enter Tryz.func126, Tryz.ntmps126
  go_wp2_with fail
  refine (readTerm_calls s hs _).mono ?_
  rintro e w1 ⟨h, hb⟩
  rcases h with ⟨T, h1, rfl⟩ | ⟨h1, rfl⟩
  · have H1 := Lib.hid h1
    have HB := Lib.hid hb
    clear h1 hb
    go_wp2_with fail
    go_ret
    exact ⟨.inl ⟨T, H1.out, rfl⟩, HB.out⟩
  · exact ⟨rfl, .inr ⟨h1, rfl⟩, hb⟩

theorem Below.push {w w1 : World} {o : Obj} (h : Below w.heap.size (w.alloc o) w1) : Below w.heap.size w w1 := ((Below.refl _ _).alloc (Nat.le_refl _) _).trans h

set_option maxRecDepth 100000 in
theorem termOf_yes (s : ByteArray) (hs : s.size ≤ maxLen) (T : Tm) (h : term s.data.toList = some T) (w : World) :
    Calls Tryz.prog 76 #[.string s] w fun e w' => e = .returned (.tuple #[val T, .bool true]) ∧ Below w.heap.size w w' := by
  have hcl := guardedT_ret 126 #[.pointer (some ⟨w.heap.size, 0, none⟩)] (val T) (fun w => closT _ w) (w.alloc (.cells #[.string s] 9)) fun w1 hb =>
    (clos_calls s hs w.heap.size w1 (by rw [hb.cell (p := ⟨w.heap.size, 0, none⟩) (by simp)]; simp [go_sem])).mono fun e w' hk => by
      obtain ⟨hk, hb⟩ := hk
      rcases hk with ⟨T', h1, rfl⟩ | ⟨h1, rfl⟩
      · rw [h] at h1; cases h1; exact ⟨rfl, hb⟩
      · rw [h] at h1; cases h1
  have hmf : ∀ (fn : Fn) (first cap : Array Value) (w : World), (Instr.makeFunc fn first cap).run Tryz.prog w = .ok (.func fn first cap) w := fun _ _ _ _ => rfl
  have HC := Lib.hid hcl
  clear hcl h
  go_enter Tryz.func76, Tryz.ntmps76
  go_wp2_with fail
  refine HC.out.mono ?_
  rintro e w1 ⟨rfl, hb⟩
  go_wp2_with fail
  go_ret2
  exact ⟨rfl, Below.push (hb.mono (by simp))⟩

set_option maxRecDepth 100000 in
theorem termOf_no (s : ByteArray) (hs : s.size ≤ maxLen) (h : term s.data.toList = none) (w : World) :
    Calls Tryz.prog 76 #[.string s] w fun e w' => e = .returned (.tuple #[.nilIface, .bool false]) ∧ Below w.heap.size w w' := by
  have hcl := guardedT_fault 126 #[.pointer (some ⟨w.heap.size, 0, none⟩)] 1 (fun w => closT _ w) (w.alloc (.cells #[.string s] 9)) fun w1 hb =>
    (clos_calls s hs w.heap.size w1 (by rw [hb.cell (p := ⟨w.heap.size, 0, none⟩) (by simp)]; simp [go_sem])).mono fun e w' hk => by
      obtain ⟨hk, hb⟩ := hk
      rcases hk with ⟨T', h1, rfl⟩ | ⟨h1, rfl⟩
      · rw [h] at h1; cases h1
      · exact ⟨rfl, hb⟩
  have hmf : ∀ (fn : Fn) (first cap : Array Value) (w : World), (Instr.makeFunc fn first cap).run Tryz.prog w = .ok (.func fn first cap) w := fun _ _ _ _ => rfl
  have HC := Lib.hid hcl
  clear hcl h
  go_enter Tryz.func76, Tryz.ntmps76
  go_wp2_with fail
  refine HC.out.mono ?_
  rintro e w1 ⟨rfl, hb⟩
  go_wp2_with fail
  go_ret2
  exact ⟨rfl, Below.push (hb.mono (by simp))⟩

end Go.Proofs.YtnlinlodgpbnlaaGreat.grd
