/- Several small texts, one behind the other. -/
import Derived.Test.YtonjohlecomeoaaGreatQe
import Derived.Test.YtonjohlecomeoaaGreatQd
import Derived.Test.YtonjohlecomeoaaGreatQc
import Derived.Test.YtonjohlecomeoaaGreatQa
import Derived.RangeFuncBox
import Derived.RangeFuncLeaves
import Derived.RangeFuncWrites
import Derived.Shelf.Abstract
import Derived.WalkKit
import Derived.OwnWalkIn
import Derived.TacticsInMore
import Derived.LoopNIn
import Derived.LoopIn
import Derived.Maps.AppendAt
import Derived.Sort.OwnSorted
import Derived.Test.YtonjohlecomeoaaGreatQb
import Derived.Laws.Concat
import Derived.IntWalk
import Derived.StillTailTactics
import Derived.Lib.QuietBelow

/- guarded at texts and its deferred closure. -/
namespace Go.Proofs.YtonjohlecomeoaaGreat.grd
open Go.RowKit Go.Proofs.YtonjohlecomeoaaGreat.tm Go.Proofs.YtonjohlecomeoaaGreat.lib Go.Proofs.YtonjohlecomeoaaGreat.rdr Go.Proofs.YtonjohlecomeoaaGreat.bld Go.Proofs.YtonjohlecomeoaaGreat.app Go.Proofs.YtonjohlecomeoaaGreat.prs
set_option linter.unusedVariables false

set_option maxRecDepth 100000 in
theorem catchS_panic (p : Addr) (x c : Int) (older : List PanicEntry) (w : World) (hc : w.cell? p = some (.int .i64 x)) (hz : w.frozen? p = false) (hp : p.block < w.heap.size) :
    CallsD Tryz.prog 182 #[.pointer (some p)] (.panicking ({ v := .iface 150 (.agg #[.int .i64 c]), recovered := false } :: older)) w fun e u' w' =>
      e = .returned (.tuple #[]) ∧ u' = .panicking ({ v := .iface 150 (.agg #[.int .i64 c]), recovered := true } :: older) ∧ ∃ w1, Below w.heap.size w w1 ∧ w' = w1.setCell p (.int .i64 c) := by
  refine callsD_of_wpS Tryz.func182 rfl fun c₀ cs hu => ?_
  apply wpS_seq
  apply wpS_region
  simp [wpOpsS, go_sem, recoverD, hu, Tryz.ntmps182, Exit.thenS]
  refine wpS_of_wp ?_
  change Code.wp _ _ _ { tmps := #[.pointer (some p), .iface 150 (.agg #[.int .i64 c]), .iface 150 (.agg #[.int .i64 c]), undef, undef, undef, undef], defers := [] } _
  clear hu
  go_wp2_with (go_at_call 133; refine (codeOf_calls _ _).mono ?_; rintro e w1 ⟨rfl, hb⟩; have hc1 := hb.cell hp; rw [hc] at hc1; have hz1 := hb.frozen hp; rw [hz] at hz1; have HB := Lib.hid hb; clear hb)
  exact ⟨rfl, _, rfl, .tuple #[], by simp [results, Tryz.results182, go_sem], rfl, rfl, w1, HB.out, rfl⟩

set_option maxRecDepth 100000 in
theorem catchS_idle (p : Addr) (w : World) :
    CallsD Tryz.prog 182 #[.pointer (some p)] .returning w fun e u' w' => e = .returned (.tuple #[]) ∧ u' = .returning ∧ w' = w := by
  refine callsD_of_wpS Tryz.func182 rfl fun c₀ cs hu => ?_
  apply wpS_seq
  apply wpS_region
  simp [wpOpsS, go_sem, recoverD, hu, Tryz.ntmps182, Exit.thenS]
  refine wpS_of_wp ?_
  change Code.wp _ _ _ { tmps := #[.pointer (some p), .nilIface, .nilIface, undef, undef, undef, undef], defers := [] } _
  go_wp2
  refine ⟨rfl, .returning, ?_, .tuple #[], by simp [results, Tryz.results182, go_sem], rfl, rfl, rfl⟩
  cases c₀
  simp_all

/-- guarded of a closure that returns. -/
theorem guardedS_ret (F : FuncId) (cap : Array Value) (v : Value) (hcf : ∀ (w : World), (callFunc F cap).run Tryz.prog w = .ok (.enter F cap) w) (w : World)
    (h : ∀ w1, Below w.heap.size w w1 → Calls Tryz.prog F cap w1 fun e w' => e = .returned v ∧ Below w1.heap.size w1 w') :
    Calls Tryz.prog 162 #[.func (.func F) #[] cap] w fun e w' => e = .returned (.tuple #[v, .int .i64 0]) ∧ Below w.heap.size w w' := by
  have hmf : ∀ (fn : Fn) (first cap : Array Value) (w : World), (Instr.makeFunc fn first cap).run Tryz.prog w = .ok (.func fn first cap) w := fun _ _ _ _ => rfl
  have HH := Lib.hid h
  clear h
  go_enter_defers Tryz.func162, Tryz.ntmps162
  go_wp2_with fail
  refine (HH.out _ ((Below.refl _ _).alloc (Nat.le_refl _) _)).mono ?_
  rintro e w1 ⟨rfl, hb⟩
  obtain ⟨c0, f0, z0⟩ := one (clo.new_kept hb)
  have HB := Lib.hid (((Below.refl _ _).alloc (Nat.le_refl _) _).trans (hb.mono (by simp)))
  clear hb
  go_wp2_with fail
  refine leaves_cons (f := 182) (args := #[.pointer (some ⟨w.heap.size, 0, none⟩)]) (by simp) (by simp [go_sem]) ?_
  refine (catchS_idle ⟨w.heap.size, 0, none⟩ _).mono ?_
  rintro e u' w'' ⟨rfl, rfl, rfl⟩
  refine ⟨.tuple #[v, .int .i64 0], by simp [results, Tryz.results162, go_sem, c0], rfl, HB.out.setCell (by simp) _⟩

/-- guarded of a closure that leaves off with a code. -/
theorem guardedS_fault (F : FuncId) (cap : Array Value) (c : Int) (hcf : ∀ (w : World), (callFunc F cap).run Tryz.prog w = .ok (.enter F cap) w) (w : World)
    (h : ∀ w1, Below w.heap.size w w1 → Calls Tryz.prog F cap w1 fun e w' => e = fault c ∧ Below w1.heap.size w1 w') :
    Calls Tryz.prog 162 #[.func (.func F) #[] cap] w fun e w' => e = .returned (.tuple #[.string ⟨#[]⟩, .int .i64 c]) ∧ Below w.heap.size w w' := by
  have hmf : ∀ (fn : Fn) (first cap : Array Value) (w : World), (Instr.makeFunc fn first cap).run Tryz.prog w = .ok (.func fn first cap) w := fun _ _ _ _ => rfl
  have HH := Lib.hid h
  clear h
  go_enter_defers Tryz.func162, Tryz.ntmps162
  go_wp2_with fail
  refine (HH.out _ ((Below.refl _ _).alloc (Nat.le_refl _) _)).mono ?_
  rintro e w1 ⟨rfl, hb⟩
  obtain ⟨c0, f0, z0⟩ := one (clo.new_kept hb)
  have HB := Lib.hid (((Below.refl _ _).alloc (Nat.le_refl _) _).trans (hb.mono (by simp)))
  clear hb
  refine leaves_cons (f := 182) (args := #[.pointer (some ⟨w.heap.size, 0, none⟩)]) (by simp) (by simp [go_sem]) ?_
  refine (catchS_panic ⟨w.heap.size, 0, none⟩ 0 c [] _ c0 f0 z0).mono ?_
  rintro e u' w'' ⟨rfl, rfl, w2, hb2, rfl⟩
  have c1 := hb2.cell (p := ⟨w.heap.size, 0, none⟩) z0
  rw [c0] at c1
  have z2 := hb2.size
  have z3 : w.heap.size < w2.heap.size := by omega
  refine ⟨.tuple #[.string ⟨#[]⟩, .int .i64 c], by simp [results, Tryz.results162, go_sem, c1], rfl, (HB.out.trans (hb2.mono (by omega))).setCell (by simp) _⟩

end Go.Proofs.YtonjohlecomeoaaGreat.grd

/- TermRight of the program. -/
namespace Go.Proofs.YtonjohlecomeoaaGreat.grd
open Go.RowKit Go.Proofs.YtonjohlecomeoaaGreat.tm Go.Proofs.YtonjohlecomeoaaGreat.lib Go.Proofs.YtonjohlecomeoaaGreat.rdr Go.Proofs.YtonjohlecomeoaaGreat.bld Go.Proofs.YtonjohlecomeoaaGreat.app Go.Proofs.YtonjohlecomeoaaGreat.prs
set_option linter.unusedVariables false

set_option maxRecDepth 100000 in
theorem implTermRight_calls (s : ByteArray) (hs : s.size ≤ maxLen) (w : World) :
    Calls Tryz.prog 54 #[.string s] w fun e w' => e = .returned (.bool (term s.data.toList).isSome) ∧ Below w.heap.size w w' := by
  rcases h : term s.data.toList with _ | T
  · have HN := Lib.hid h
    clear h
    go_enter Tryz.func54, Tryz.ntmps54
    go_wp2_with fail
    refine (termOf_no s hs HN.out _).mono ?_
    rintro e w1 ⟨rfl, hb⟩
    go_wp2_with fail
    go_ret
    exact ⟨rfl, hb⟩
  · have HN := Lib.hid h
    clear h
    go_enter Tryz.func54, Tryz.ntmps54
    go_wp2_with fail
    refine (termOf_yes s hs T HN.out _).mono ?_
    rintro e w1 ⟨rfl, hb⟩
    obtain ⟨tt, vv, ev⟩ := val_iface T
    rw [ev]
    clear ev
    go_wp2_with fail
    go_ret
    exact ⟨rfl, hb⟩
end Go.Proofs.YtonjohlecomeoaaGreat.grd

/- Contracts of tooLong, termOut, readTerm at texts. -/
namespace Go.Proofs.YtonjohlecomeoaaGreat.iop
open Go.RowKit Go.Proofs.YtonjohlecomeoaaGreat.tm Go.Proofs.YtonjohlecomeoaaGreat.lib Go.Proofs.YtonjohlecomeoaaGreat.rdr Go.Proofs.YtonjohlecomeoaaGreat.bld Go.Proofs.YtonjohlecomeoaaGreat.app Go.Proofs.YtonjohlecomeoaaGreat.grd Go.Proofs.YtonjohlecomeoaaGreat.txo Go.Proofs.YtonjohlecomeoaaGreat.sop
set_option linter.unusedVariables false

set_option maxRecDepth 100000 in
theorem tooLong_calls (l : Bs) (hl : l.length ≤ 4000000) (b : Bool) (h : decide (8000 < l.length) = b) (w : World) :
    Calls Tryz.prog 102 #[str l] w fun e w' => e = .returned (.bool b) ∧ w = w' := by
  have d : decide (8000 < (l.length : Int)) = b := by rw [← h]; simp; omega
  clear h
  go_enter Tryz.func102, Tryz.ntmps102
  go_wp2_with fail
  go_ret
  exact ⟨rfl, rfl⟩

/-- termOut of a closure that returns. -/
theorem termOut_ret (F : FuncId) (cap : Array Value) (r : Bs) (hcf : ∀ (w : World), (callFunc F cap).run Tryz.prog w = .ok (.enter F cap) w) (w : World)
    (h : ∀ w1, Below w.heap.size w w1 → Calls Tryz.prog F cap w1 fun e w' => e = .returned (str r) ∧ Below w1.heap.size w1 w') :
    Calls Tryz.prog 143 #[.func (.func F) #[] cap] w fun e w' => e = .returned (outVal r 0) ∧ Below w.heap.size w w' := by
  unfold outVal
  have hg := guardedS_ret F cap (str r) hcf
  have HH := Lib.hid h
  clear h
  go_enter Tryz.func143, Tryz.ntmps143
  go_wp2_with fail
  refine (hg _ fun w1 hb => HH.out w1 (((Below.refl _ _).alloc (Nat.le_refl _) _).trans (hb.mono (by simp)))).mono ?_
  rintro e w1 ⟨rfl, hb⟩
  have HB := Lib.hid hb
  obtain ⟨c0, c1, f0, f1, hz⟩ := two (clo.new_kept hb)
  clear hb
  go_wp2_with fail
  exact bodyPost_ret (v := .agg #[str r, .int .i64 0]) (by simp [results, Tryz.results143, go_sem, c0, c1]) rfl ⟨rfl, fin3 HB.out _ _⟩

theorem termOut_fault (F : FuncId) (cap : Array Value) (c : Int) (hcf : ∀ (w : World), (callFunc F cap).run Tryz.prog w = .ok (.enter F cap) w) (w : World)
    (h : ∀ w1, Below w.heap.size w w1 → Calls Tryz.prog F cap w1 fun e w' => e = fault c ∧ Below w1.heap.size w1 w') :
    Calls Tryz.prog 143 #[.func (.func F) #[] cap] w fun e w' => e = .returned (outVal [] c) ∧ Below w.heap.size w w' := by
  unfold outVal
  have hg := guardedS_fault F cap c hcf
  have HH := Lib.hid h
  clear h
  go_enter Tryz.func143, Tryz.ntmps143
  go_wp2_with fail
  refine (hg _ fun w1 hb => HH.out w1 (((Below.refl _ _).alloc (Nat.le_refl _) _).trans (hb.mono (by simp)))).mono ?_
  rintro e w1 ⟨rfl, hb⟩
  have HB := Lib.hid hb
  obtain ⟨c0, c1, f0, f1, hz⟩ := two (clo.new_kept hb)
  clear hb
  go_wp2_with fail
  exact bodyPost_ret (v := .agg #[.string ⟨#[]⟩, .int .i64 c]) (by simp [results, Tryz.results143, go_sem, c0, c1]) rfl ⟨rfl, fin3 HB.out _ _⟩

theorem read_yes (l : Bs) (T : Tm) (h : term l = some T) (w : World) : Calls Tryz.prog 140 #[str l] w fun e w' => e = .returned (val T) ∧ Below w.heap.size w w' := by
  refine (readTerm_calls ⟨l.toArray⟩ (by have := (term_some.1 h).1; unfold maxLen; show l.toArray.size ≤ _; simp; omega) w).mono ?_
  rintro e w' ⟨hk, hb⟩
  rw [show term (⟨l.toArray⟩ : ByteArray).data.toList = some T from h] at hk
  rcases hk with ⟨T', h1, rfl⟩ | ⟨h1, _⟩
  · cases h1; exact ⟨rfl, hb⟩
  · cases h1
theorem read_no (l : Bs) (hl : l.length ≤ 4000000) (h : term l = none) (w : World) : Calls Tryz.prog 140 #[str l] w fun e w' => e = fault 1 ∧ Below w.heap.size w w' := by
  refine (readTerm_calls ⟨l.toArray⟩ (by unfold maxLen; show l.toArray.size ≤ _; simp; omega) w).mono ?_
  rintro e w' ⟨hk, hb⟩
  rw [show term (⟨l.toArray⟩ : ByteArray).data.toList = none from h] at hk
  rcases hk with ⟨T', h1, _⟩ | ⟨_, rfl⟩
  · cases h1
  · exact ⟨rfl, hb⟩

theorem kept_cell {w w1 : World} (h : Below w.heap.size w w1) {a : Nat} {v : Value} (c : w.cell? ⟨a, 0, none⟩ = some v) (ha : a < w.heap.size) : w1.cell? ⟨a, 0, none⟩ = some v := by
  rw [h.cell (p := ⟨a, 0, none⟩) ha]; exact c

def OEnd (r : Bs) (c : Int) (w : World) (e : Ending) (w' : World) : Prop := ((c = 0 ∧ e = .returned (str r)) ∨ (c ≠ 0 ∧ e = fault c)) ∧ Below w.heap.size w w'

end Go.Proofs.YtonjohlecomeoaaGreat.iop

/- Contract of deepOf of the program. -/
namespace Go.Proofs.YtonjohlecomeoaaGreat.dpt
open Go.RowKit Go.Proofs.YtonjohlecomeoaaGreat.tm Go.Proofs.YtonjohlecomeoaaGreat.lib Go.Proofs.YtonjohlecomeoaaGreat.rdr Go.Proofs.YtonjohlecomeoaaGreat.bld Go.Proofs.YtonjohlecomeoaaGreat.app Go.Proofs.YtonjohlecomeoaaGreat.arg
set_option linter.unusedVariables false

theorem kids_cases (T : Tm) : (T.kids = [] ∧ T.deep = 1) ∨ (∃ x, T.kids = [x] ∧ T.deep = x.deep + 1) ∨ (∃ x y, T.kids = [x, y] ∧ T.deep = max x.deep y.deep + 1) := by
  cases T with
  | atom a => exact .inl ⟨rfl, rfl⟩
  | pair x y => exact .inr (.inr ⟨x, y, rfl, rfl⟩)
  | hash x => exact .inr (.inl ⟨x, rfl, rfl⟩)
  | mac x y => exact .inr (.inr ⟨x, y, rfl, rfl⟩)
  | shut x y => exact .inr (.inr ⟨x, y, rfl, rfl⟩)
  | pub a => exact .inr (.inl ⟨.atom a, rfl, rfl⟩)
  | dh a b => exact .inr (.inr ⟨.atom a, .atom b, rfl, rfl⟩)

def DP (T : Tm) : Prop := ∀ w, Calls Tryz.prog 164 #[val T] w fun e w' => e = .returned (.int .i64 (T.deep : Nat)) ∧ Below w.heap.size w w'

set_option maxHeartbeats 1000000 in
set_option maxRecDepth 100000 in
theorem dp_all : ∀ n (T : Tm), T.deep ≤ n → T.deep ≤ 100 → DP T
  | 0, T, h, _ => by have := deep_pos T; omega
  | n + 1, T, h, h100 => by
    intro w
    have ih : ∀ k ∈ T.kids, DP k := fun k hk => dp_all n k (by have := kid_deep hk; omega) (by have := kid_deep hk; omega)
    have h1 := met_args T
    have h2 := inv_args T
    have h3 := args_calls T w
    rw [val_eq]
    rcases kids_cases T with ⟨e1, e2⟩ | ⟨x, e1, e2⟩ | ⟨x, y, e1, e2⟩
    · rw [e1] at h3
      rw [e2]
      clear e1 e2 ih h h100
      go_enter Tryz.func164, Tryz.ntmps164
      go_wp2_with fail
      refine h3.mono ?_
      rintro e w1 ⟨v, rfl, hb, hk⟩
      rcases hk.len with ⟨rfl, _⟩ | ⟨g, cap, rfl⟩
      all_goals
        have HB := Lib.hid hb
        clear hb hk
        go_wp2_with fail
        refine wp_loop_rounds 1 ?_
        rw [rounds_succ]
        go_wp2_with fail
        go_ret
        exact ⟨rfl, HB.out⟩
    · rw [e1] at h3
      have ix := ih x (by rw [e1]; simp)
      unfold DP at ix
      have hd : x.deep ≤ 100 := by omega
      have hp := deep_pos x
      rw [e2]
      obtain ⟨dx, hdx⟩ : ∃ d, d = x.deep := ⟨_, rfl⟩
      rw [← hdx] at ix hd hp ⊢
      clear e1 e2 ih h h100 hdx
      have hp : 0 < dx := hp
      go_enter Tryz.func164, Tryz.ntmps164
      go_wp2_with fail
      refine h3.mono ?_
      rintro e w1 ⟨v, rfl, hb, hk⟩
      obtain ⟨g, cap, rfl, c0, hg⟩ := Tms.one' hk
      have HB := Lib.hid hb
      clear hb hk
      go_wp2_with fail
      refine wp_loop_rounds 2 ?_
      rw [rounds_succ]
      go_wp2_with fail
      refine (ix _).mono ?_
      rintro e w2 ⟨rfl, hb2⟩
      have HB2 := Lib.hid (HB.out.trans (hb2.mono HB.out.size))
      clear hb2 c0
      go_wp2_with fail
      rw [rounds_succ]
      go_wp2_with fail
      go_ret
      exact ⟨ret_int (by omega), HB2.out⟩
    · rw [e1] at h3
      have ix := ih x (by rw [e1]; simp)
      have iy := ih y (by rw [e1]; simp)
      unfold DP at ix iy
      have hd : x.deep ≤ 100 := by omega
      have hd2 : y.deep ≤ 100 := by omega
      have hp := deep_pos x
      have hp2 := deep_pos y
      rw [e2]
      obtain ⟨dx, hdx⟩ : ∃ d, d = x.deep := ⟨_, rfl⟩
      obtain ⟨dy, hdy⟩ : ∃ d, d = y.deep := ⟨_, rfl⟩
      rw [← hdx] at ix hd hp ⊢
      rw [← hdy] at iy hd2 hp2 ⊢
      clear e1 e2 ih h h100 hdx hdy
      have hp : 0 < dx := hp
      rcases Nat.lt_or_ge dx dy with hlt | hge
      all_goals
        go_enter Tryz.func164, Tryz.ntmps164
        go_wp2_with fail
        refine h3.mono ?_
        rintro e w1 ⟨v, rfl, hb, hk⟩
        obtain ⟨g, cap, rfl, c0, c1, hg⟩ := Tms.two' hk
        have HB := Lib.hid hb
        clear hb hk
        go_wp2_with fail
        refine wp_loop_rounds 3 ?_
        rw [rounds_succ]
        go_wp2_with fail
        refine (ix _).mono ?_
        rintro e w2 ⟨rfl, hb2⟩
        have k1 := hb2.cell (p := ⟨g, 1, none⟩) hg
        rw [c1] at k1
        have HB2 := Lib.hid (HB.out.trans (hb2.mono HB.out.size))
        clear hb2 c0 c1
        go_wp2_with fail
        rw [rounds_succ]
        go_wp2_with fail
        refine (iy _).mono ?_
        rintro e w3 ⟨rfl, hb3⟩
        have HB3 := Lib.hid (HB2.out.trans (hb3.mono HB2.out.size))
        clear hb3 k1
        go_wp2_with fail
        rw [rounds_succ]
        go_wp2_with fail
        go_ret
        exact ⟨ret_int (by omega), HB3.out⟩

theorem deepOf_calls (T : Tm) (h : T.deep ≤ 100) (w : World) : Calls Tryz.prog 164 #[val T] w fun e w' => e = .returned (.int .i64 (T.deep : Nat)) ∧ Below w.heap.size w w' :=
  dp_all T.deep T (Nat.le_refl _) h w

end Go.Proofs.YtonjohlecomeoaaGreat.dpt

/- Contracts of readTerms and fitting of the program. -/
namespace Go.Proofs.YtonjohlecomeoaaGreat.rts
open Go.RowKit Go.Proofs.YtonjohlecomeoaaGreat.tm Go.Proofs.YtonjohlecomeoaaGreat.lib Go.Proofs.YtonjohlecomeoaaGreat.rdr Go.Proofs.YtonjohlecomeoaaGreat.bld Go.Proofs.YtonjohlecomeoaaGreat.app Go.Proofs.YtonjohlecomeoaaGreat.grd Go.Proofs.YtonjohlecomeoaaGreat.txo Go.Proofs.YtonjohlecomeoaaGreat.sop Go.Proofs.YtonjohlecomeoaaGreat.iop Go.Proofs.YtonjohlecomeoaaGreat.mkp Go.Proofs.YtonjohlecomeoaaGreat.mrk
set_option linter.unusedVariables false

theorem terms_none {l : List Bs} {k : Nat} {x : Bs} (hk : l[k]? = some x) (h : term x = none) : terms l = none := by
  induction l generalizing k with
  | nil => simp at hk
  | cons a l ih =>
    rw [terms_cons]
    cases k with
    | zero => simp at hk; subst hk; rw [h]
    | succ k =>
      rw [ih (k := k) (by simpa using hk)]
      cases term a <;> rfl
theorem terms_snoc {l : List Bs} {Ts : List Tm} {x : Bs} {T : Tm} (h : terms l = some Ts) (hx : term x = some T) : terms (l ++ [x]) = some (Ts ++ [T]) := by
  induction l generalizing Ts with
  | nil => simp [terms] at h; subst h; simp [terms, hx]
  | cons a l ih =>
    rw [terms_cons] at h
    rw [List.cons_append, terms_cons]
    cases ha : term a with
    | none => rw [ha] at h; cases h
    | some A =>
      rw [ha] at h
      cases hl : terms l with
      | none => rw [hl] at h; cases h
      | some L =>
        rw [hl] at h
        cases h
        rw [ih hl]
        rfl

structure Lp (w : World) (n : Nat) (ls : List Bs) (v : Value) (wr : World) (k : Nat) (ts : List Tm) : Prop where
  le : k ≤ n
  told : terms (ls.take k) = some ts
  bel : Below w.heap.size w wr
  own : Tms wr w.heap.size v ts

def RTEnd (ls : List Bs) (w : World) (e : Ending) (w' : World) : Prop :=
  Below w.heap.size w w' ∧ ((∃ Ts v, terms ls = some Ts ∧ e = .returned v ∧ Tms w' w.heap.size v Ts) ∨ (terms ls = none ∧ e = fault 1))

set_option maxHeartbeats 1000000 in
set_option maxRecDepth 100000 in
theorem readTerms_calls (ad : Option Addr) (n cap : Nat) (ls : List Bs) (w : World) (hn : n = ls.length) (h : Rds w (.slice ad n cap) ls) (hl : ls.length ≤ 1000) (hs : ∀ x ∈ ls, x.length ≤ 4000000) :
    Calls Tryz.prog 148 #[.slice ad n cap] w (RTEnd ls w) := by
  have hn2 : n ≤ 1000 := by omega
  have H := Lib.hid h
  have HN := Lib.hid hn
  have HS := Lib.hid hs
  clear h hn hs hl
  go_enter Tryz.func148, Tryz.ntmps148
  go_wp2_with fail
  go_loopw [3, 5, 8, 9, 10, 11, 12, 13, 14, 15, 16, 17] (fun v _ vk _ _ _ _ _ _ _ _ _ wr => ∃ k ts, vk = .int .i64 (k : Nat) ∧ Lp w n ls v wr k ts) (fun _ _ vk _ _ _ _ _ _ _ _ _ _ => n - (intOf vk).toNat)
  case atStart => exact ⟨0, [], rfl, Nat.zero_le _, rfl, Below.refl _ _, Tms.nil _ _⟩
  case round =>
    obtain ⟨k, ts, rfl, L⟩ := hrel
    have HL := Lib.hid L
    have hk := L.le
    have hkl : ts.length ≤ 1000 := by
      have := terms_len _ _ L.told
      rw [List.length_take] at this
      omega
    clear L
    by_cases hlt : k < n
    · have hk' : k < ls.length := by have := HN.out; omega
      obtain ⟨x, hx⟩ : ∃ x, ls[k]? = some x := ⟨_, List.getElem?_eq_getElem hk'⟩
      rcases H.out with ⟨h0, _⟩ | ⟨g, off, cap', e, hg, hc⟩
      · rw [h0] at hx; simp at hx
      cases e
      have c1 : wr.cell? ⟨g, off + k, none⟩ = some (str x) := by rw [← hc k x hx]; exact HL.out.bel.cell (p := ⟨g, off + k, none⟩) hg
      have hxs : x.length ≤ 4000000 := HS.out x (List.mem_of_getElem? hx)
      have HX := Lib.hid hx
      clear hx hc hg
      rcases ht : term x with _ | T
      · have a1 := read_no x hxs ht
        have HT := Lib.hid (terms_none HX.out ht)
        clear ht
        go_wp2_with fail
        refine (a1 _).mono ?_
        rintro e w1 ⟨rfl, hb⟩
        exact ⟨rfl, HL.out.bel.trans (hb.mono HL.out.bel.size), .inr ⟨HT.out, rfl⟩⟩
      · have a1 := read_yes x T ht
        have HT := Lib.hid (terms_snoc HL.out.told ht)
        clear ht
        go_wp2_with fail
        refine (a1 _).mono ?_
        rintro e w1 ⟨rfl, hb⟩
        have T1 := Lib.hid (Tms.below HL.out.own hb)
        have HB := Lib.hid (HL.out.bel.trans (hb.mono HL.out.bel.size))
        have hz : w.heap.size ≤ w1.heap.size := HB.out.size
        clear hb c1
        obtain ⟨tt, vv, ev⟩ := val_iface T
        rw [ev]
        have EV := Lib.hid ev.symm
        clear ev
        go_wp2_with (at_builtin; refine wp_putT (.tmp 12) (.tmp 15) T _ EV.out w.heap.size _ ts rfl rfl rfl T1.out rfl (by omega) hz ?_; intro v6 w6 t6 b6)
        have T6 := Lib.hid t6
        have B6 := Lib.hid (HB.out.trans b6)
        clear t6 b6
        go_roundw
        case rel =>
          refine ⟨k + 1, ts ++ [T], by simp, hlt, ?_, B6.out, T6.out⟩
          rw [List.take_add_one, HX.out]
          exact HT.out
        case measure => simp [intOf]; omega
    · obtain rfl : k = n := by omega
      go_wp2_with fail
      go_ret
      refine ⟨HL.out.bel, .inl ⟨ts, _, ?_, rfl, HL.out.own⟩⟩
      have := HL.out.told
      rw [List.take_of_length_le (by have := HN.out; omega)] at this
      exact this

set_option maxRecDepth 100000 in
/-- A term that can be read again. -/
theorem fitting_yes (T : Tm) (h1 : T.tx.length ≤ 3000) (h2 : T.deep ≤ 24) (w : World) :
    Calls Tryz.prog 146 #[val T] w fun e w' => e = .returned (val T) ∧ Below w.heap.size w w' := by
  have a1 := textOf_calls T (by omega)
  have a2 := dpt.deepOf_calls T (by omega)
  obtain ⟨D, hD⟩ : ∃ D, D = T.deep := ⟨_, rfl⟩
  obtain ⟨X, hX⟩ : ∃ X, X = T.tx := ⟨_, rfl⟩
  rw [← hX] at a1 h1
  rw [← hD] at a2 h2
  obtain ⟨t, v, e⟩ := val_iface T
  rw [e] at a1 a2 ⊢
  have d1 : decide (3000 < (X.length : Int)) = false := by simp; omega
  have d2 : decide (24 < (D : Int)) = false := by simp; omega
  clear hD hX e
  go_enter Tryz.func146, Tryz.ntmps146
  go_wp2_with fail
  refine (a1 _).mono ?_
  rintro e w1 ⟨rfl, hb⟩
  have HB := Lib.hid hb
  clear hb
  go_wp2_with fail
  refine (a2 _).mono ?_
  rintro e w2 ⟨rfl, hb⟩
  have HB2 := Lib.hid (HB.out.trans (hb.mono HB.out.size))
  clear hb
  go_wp2_with fail
  go_ret
  exact ⟨rfl, HB2.out⟩

set_option maxRecDepth 100000 in
theorem fitting_no (T : Tm) (hl : T.tx.length ≤ 1000000) (hd : T.deep ≤ 100) (h : ¬ (T.tx.length ≤ 3000 ∧ T.deep ≤ 24)) (w : World) :
    Calls Tryz.prog 146 #[val T] w fun e w' => e = fault 9 ∧ Below w.heap.size w w' := by
  have a1 := textOf_calls T hl
  have a2 := dpt.deepOf_calls T hd
  obtain ⟨D, hD⟩ : ∃ D, D = T.deep := ⟨_, rfl⟩
  obtain ⟨X, hX⟩ : ∃ X, X = T.tx := ⟨_, rfl⟩
  rw [← hX] at a1 h
  rw [← hD] at a2 h
  obtain ⟨t, v, e⟩ := val_iface T
  rw [e] at a1 a2 ⊢
  clear hl hd hD hX e
  by_cases h1 : X.length ≤ 3000
  · have d1 : decide (3000 < (X.length : Int)) = false := by simp; omega
    have d2 : decide (24 < (D : Int)) = true := by simp; omega
    clear h
    go_enter Tryz.func146, Tryz.ntmps146
    go_wp2_with fail
    refine (a1 _).mono ?_
    rintro e w1 ⟨rfl, hb⟩
    have HB := Lib.hid hb
    clear hb
    go_wp2_with fail
    refine (a2 _).mono ?_
    rintro e w2 ⟨rfl, hb⟩
    have HB2 := Lib.hid (HB.out.trans (hb.mono HB.out.size))
    clear hb
    go_wp2_with (go_at_call 103; refine (refuse_calls _ _).mono ?_; rintro e w' ⟨rfl, rfl⟩)
    exact ⟨rfl, rfl, HB2.out⟩
  · have d1 : decide (3000 < (X.length : Int)) = true := by simp; omega
    clear h
    go_enter Tryz.func146, Tryz.ntmps146
    go_wp2_with fail
    refine (a1 _).mono ?_
    rintro e w1 ⟨rfl, hb⟩
    have HB := Lib.hid hb
    clear hb
    go_wp2_with (go_at_call 103; refine (refuse_calls _ _).mono ?_; rintro e w' ⟨rfl, rfl⟩)
    exact ⟨rfl, rfl, HB.out⟩
end Go.Proofs.YtonjohlecomeoaaGreat.rts

/- slices.Sorted(slices.Values(args)) at []string: the walk through the library's iterators. -/
namespace Go.Proofs.YtonjohlecomeoaaGreat.its
open Go.RowKit Go.Shelf Go.Proofs.YtonjohlecomeoaaGreat.tm Go.Proofs.YtonjohlecomeoaaGreat.bld Go.Proofs.YtonjohlecomeoaaGreat.app Go.Proofs.YtonjohlecomeoaaGreat.mrk
set_option linter.unusedVariables false

section
attribute [local go_sem] Oper.semAt_some

def upto (f : Nat → Bs) (k : Nat) : List Bs := (List.range k).map f
theorem upto_succ (f : Nat → Bs) (k : Nat) : upto f (k + 1) = upto f k ++ [f k] := by simp [upto, List.range_succ]
theorem upto_length (f : Nat → Bs) (k : Nat) : (upto f k).length = k := by simp [upto]
theorem upto_all (zs : List Bs) : upto (fun j => zs[j]?.getD []) zs.length = zs := by
  apply List.ext_getElem
  · simp [upto]
  · intro i h1 h2
    simp [upto, h2]

set_option maxRecDepth 100000 in
set_option maxHeartbeats 2000000 in
theorem values1_in (F : Fence) (n : Nat) (h7 : F.fn 161) (hro : F.round = none) (hn : 1 ≤ n) (l Bx n₀ b off len cap : Nat) (f : Nat → Bs) (hreach : len * 16 ≤ 140737488351232) (hb : b < n₀) (J Jx : List Bs → World → Prop)
    (hY : ∀ pre x W, J pre W → pre.length < len → YieldAt F (n - 1) Tryz.prog l #[str x] W fun e W' =>
      (e = .returned (.bool true) ∧ J (pre ++ [x]) W' ∧ Below n₀ W W') ∨ (e = .returned (.bool false) ∧ Jx (pre ++ [x]) W'))
    (W : World) (hBs : W.cell? ⟨Bx, 0, none⟩ = some (.slice (some ⟨b, off, none⟩) len cap)) (hc : ∀ j, j < len → W.cell? ⟨b, off + j, none⟩ = some (str (f j))) (h0 : J [] W) :
    CallsIn F n Tryz.prog 161 #[.func (.yield l) #[] #[], .pointer (some ⟨Bx, 0, none⟩)] W fun e W' => (∃ v, e = .returned v) ∧
      ((∃ ys, ys = upto f len ∧ J ys W') ∨ (∃ pre, (∃ k, k ≤ len ∧ pre = upto f k) ∧ Jx pre W')) := by
  refine callsIn_of_wp Tryz.func161 rfl h7 ?_ hro
  simp only [Tryz.ntmps161, List.size_toArray, List.length_cons, List.length_nil, Nat.reduceAdd, Nat.reduceSub, Array.replicate_succ, Array.replicate_zero, List.push_toArray, List.append_toArray, List.nil_append, List.cons_append]
  gi_wp2
  gi_loopw [7] (fun i wr => ∃ k : Nat, k ≤ len ∧ i = .int .i64 k ∧ J (upto f k) wr ∧ Below n₀ W wr)
    (fun i _ => len - (intOf i).toNat)
  case atStart => exact ⟨0, Nat.zero_le _, rfl, h0, Below.refl _ _⟩
  case round =>
    obtain ⟨k, hk, rfl, hJs, hnx⟩ := hrel
    have hcx : k < len → wr.cell? ⟨b, off + k, none⟩ = some (str (f k)) := fun h => (hnx.cell (p := ⟨b, off + k, none⟩) hb).trans (hc k h)
    by_cases hlt : k < len
    · obtain ⟨fn, tmps, assign, body, hy, hR⟩ := hY _ (f k) wr hJs (by rw [upto_length]; exact hlt)
      have hcx' := hcx hlt
      gi_wp2
      refine hR.mono ?_
      rintro e W3 (⟨rfl, hJ3, hk3⟩ | ⟨rfl, hJx3⟩)
      · gi_wp2
        go_roundw
        case rel => exact ⟨k + 1, by omega, by simp, by rw [upto_succ]; exact hJ3, hnx.trans hk3⟩
        case measure => simp [intOf]; omega
      · gi_wp2
        refine bodyPost_ret (results_none rfl _ _ _) rfl ?_
        exact ⟨⟨_, rfl⟩, .inr ⟨_, ⟨k + 1, by omega, (upto_succ _ _).symm⟩, hJx3⟩⟩
    · obtain rfl : k = len := by omega
      gi_wp2
      go_end0
      exact ⟨⟨_, rfl⟩, .inl ⟨_, rfl, hJs⟩⟩

/-- THE SLICE VALUE sv HOLDS zs, in a block below n₀; or there are none. -/
def Src (n₀ : Nat) (W : World) (sv : Value) (zs : List Bs) : Prop :=
  (zs = [] ∧ ∃ a cap, sv = .slice a 0 cap) ∨ ∃ b off cap, sv = .slice (some ⟨b, off, none⟩) zs.length cap ∧ b < n₀ ∧ ∀ j, j < zs.length → W.cell? ⟨b, off + j, none⟩ = some (str (zs[j]?.getD []))
theorem Src.below {n₀ : Nat} {A B : World} (h : Below n₀ A B) {sv : Value} {zs : List Bs} : Src n₀ A sv zs → Src n₀ B sv zs
  | .inl e => .inl e
  | .inr ⟨b, off, cap, e, hb, hc⟩ => .inr ⟨b, off, cap, e, hb, fun j hj => (h.cell (p := ⟨b, off + j, none⟩) hb).trans (hc j hj)⟩
theorem Src.of {w : World} {v : Value} {ls : List Bs} (h : Rds w v ls) : Src w.heap.size w v ls := by
  rcases h with h | ⟨g, off, cap, e, hg, hc⟩
  · exact .inl h
  · exact .inr ⟨g, off, cap, e, hg, fun j hj => hc j _ (by simp [hj])⟩

set_option maxRecDepth 100000 in
set_option maxHeartbeats 1000000 in
theorem values1_nil_in (F : Fence) (n : Nat) (h7 : F.fn 161) (hro : F.round = none) (l Bx : Nat) (a : Option Addr) (cap : Nat) (J : List Bs → World → Prop) (W : World) (hBs : W.cell? ⟨Bx, 0, none⟩ = some (.slice a 0 cap)) (h0 : J [] W) :
    CallsIn F n Tryz.prog 161 #[.func (.yield l) #[] #[], .pointer (some ⟨Bx, 0, none⟩)] W fun e W' => (∃ v, e = .returned v) ∧ J [] W' := by
  refine callsIn_of_wp Tryz.func161 rfl h7 ?_ hro
  simp only [Tryz.ntmps161, List.size_toArray, List.length_cons, List.length_nil, Nat.reduceAdd, Nat.reduceSub, Array.replicate_succ, Array.replicate_zero, List.push_toArray, List.append_toArray, List.nil_append, List.cons_append]
  gi_wp2
  gi_loopw [7] (fun i wr => i = .int .i64 0 ∧ J [] wr) (fun _ _ => 0)
  case atStart => exact ⟨rfl, h0⟩
  case round =>
    obtain ⟨rfl, hJs⟩ := hrel
    gi_wp2
    go_end0
    exact ⟨⟨_, rfl⟩, hJs⟩

theorem values_stops (F : Fence) (n : Nat) (h7 : F.fn 161) (hro : F.round = none) (hn : 1 ≤ n) (Bx n₀ : Nat) (sv : Value) (zs : List Bs) (hreach : zs.length * 16 ≤ 140737488351232) (w : World) (hBs : Bx < w.heap.size) (hn₀ : n₀ ≤ w.heap.size)
    (hc : w.cell? ⟨Bx, 0, none⟩ = some sv) (hI : Src n₀ w sv zs) :
    SeqStopsK F n Tryz.prog 161 #[.pointer (some ⟨Bx, 0, none⟩)] (fun x : Bs => #[str x]) (Below n₀) (fun ys => ys = zs) (fun _ => True) zs.length w := fun l J Jx W hW _ _ hY h0 => by
  have hc' := (hW.cell (p := ⟨Bx, 0, none⟩) hBs).trans hc
  rcases hI.below (hW.mono hn₀) with ⟨rfl, a, cap, rfl⟩ | ⟨b, off, cap, rfl, hb, hcs⟩
  · exact (values1_nil_in F n h7 hro l Bx a cap J W hc' h0).mono fun e W' ⟨he, hj⟩ => ⟨he, .inl ⟨_, rfl, hj⟩⟩
  · refine (values1_in F n h7 hro hn l Bx n₀ b off zs.length cap (fun j => zs[j]?.getD []) hreach hb J Jx hY W hc' hcs h0).mono ?_
    rintro e W' ⟨he, ⟨ys, rfl, hj⟩ | ⟨pre, ⟨k, hk, rfl⟩, hj⟩⟩
    · exact ⟨he, .inl ⟨_, upto_all zs, hj⟩⟩
    · exact ⟨he, .inr ⟨_, trivial, hj⟩⟩

set_option maxRecDepth 100000 in
set_option maxHeartbeats 2000000 in
theorem appendSeq_in (F : Fence) (n : Nat) (h81 : F.fn 179) (h7 : F.fn 161) (hro : F.round = none) (hn : 3 ≤ n) (Bx : Nat) (sv : Value) (zs : List Bs) (hl : zs.length ≤ 1000000) (w : World) (hBs : Bx < w.heap.size)
    (hc : w.cell? ⟨Bx, 0, none⟩ = some sv) (hI : Src w.heap.size w sv zs) :
    CallsIn F n Tryz.prog 179 #[.slice none 0 0, .func (.func 161) #[] #[.pointer (some ⟨Bx, 0, none⟩)]] w fun e W' => ∃ v, e = .returned v ∧ W'.ownsRow w.heap.size 9 1 v zs.length (zs.map str) ∧ (v = .slice none 0 0 ↔ zs = []) ∧ Below w.heap.size w W' := by
  have h1 : 1 ≤ n := by omega
  obtain ⟨i0, hi, hz0, hz1, hz2⟩ := info_parts infoS
  refine callsIn_of_wp_marks Tryz.func179 rfl h81 ?_ hro
  simp only [Tryz.ntmps179, List.size_toArray, List.length_cons, List.length_nil, Nat.reduceAdd, Nat.reduceSub, Array.replicate_succ, Array.replicate_zero, List.push_toArray, List.append_toArray, List.nil_append, List.cons_append]
  gi_wp2
  have bO := Boxed.new w 22 (.slice none 0 0)
  have hB0 : Below w.heap.size w (w.alloc (.cells #[.slice none 0 0] 22)) := (Below.refl _ w).alloc (Nat.le_refl _) _
  refine wpIn_rangeFunc_ownG hro h1 (gf := 161) (lb := #[.pointer (some ⟨Bx, 0, none⟩)]) rfl h7 (enters_of Tryz.func161 (by kernel_rfl) rfl)
    (values_stops F (n - 1) h7 hro (by omega) Bx w.heap.size _ zs (by omega) w hBs (Nat.le_refl _) hc hI) belowK_t (belowK_b (by simp)) hB0 (fun _ => rfl)
    (fun pre W => (∃ v, Boxed W w.heap.size 22 v ∧ W.ownsRow w.heap.size 9 1 v pre.length (pre.map str) ∧ (v = .slice none 0 0 ↔ pre = [])) ∧ Below w.heap.size w W)
    (fun _ _ _ => False)
    (OwnFrom.and (Own.from (holdsRow_own w.heap.size w.heap.size 22 9 1 (fun pre : List Bs => pre.length) (fun pre => pre.map str) (fun pre v => v = .slice none 0 0 ↔ pre = [])) _) (ownFrom_below (Nat.le_refl _) (by simp)))
    (fun _ _ _ _ _ hs _ _ => hs)
    ⟨⟨_, bO, World.ownsRow_nil _ _ _ _, by simp⟩, hB0⟩
    (fun x => { tmps := #[.slice none 0 0, .func (.func 161) #[] #[.pointer (some ⟨Bx, 0, none⟩)], .pointer (some ⟨w.heap.size, 0, none⟩), undef, .slice none 0 0, str x, .func (.func 161) #[] #[.pointer (some ⟨Bx, 0, none⟩)], str x, undef, undef, undef, undef, undef], defers := [] }) ?assign ?body ?done ?stop
  case assign =>
    intro l x W K hK
    gi_wp2
    exact hK
  case body =>
    rintro l pre x W ⟨⟨v, hv, hrow, hnil⟩, hB⟩ hlt
    have hc := hv.cell
    gi_wp2_with (gi_at_builtin; refine wpListIn_append_own _ rfl _ _ 22 rfl w.heap.size 9 i0 (.string ⟨#[]⟩) 1 16 Tryz.underlying22 hi hz0 hz1 hz2 rfl (by decide) _ _ _ rfl (hrow.alloc _) ⟨W.heap.size, 0, none⟩ 1 1 [str x] rfl rfl (cell_one_new _ _ _) (by simp [Value.oneCell']) (by unfold maxLen; omega) (by omega) (by have := hB.size; simp; omega) ?_; intro v' w1 hown' hgrow _; obtain ⟨g', cap', rfl⟩ := ownsRow_succ hown'; obtain ⟨hv1, hv2, hr2, hk2, hb2⟩ := hv.appended (by decide) hrow hB.size (Nat.le_refl _) hown' hgrow; have hc1 := hv1.cell; have hf1 := hv1.frozen)
    exact ⟨hk2.from _, hb2, ⟨_, hv2, by simpa using hr2, by simp⟩, hB.trans hb2⟩
  case done =>
    rintro D ys W hD rfl ⟨⟨v, hv, hrow, hnil⟩, hB⟩ hK
    have hc := hv.cell
    gi_wp2
    refine ⟨by simp, .inl ⟨_, _, rfl, run_takeDeferred hK, ?_⟩⟩
    exact ⟨_, results_tmp rfl _ _ _, v, rfl, ownsRow_putObj hrow _ hK rfl, hnil, hB.trans (belowK_b (w := w) (Nat.le_refl _) W D _ _ (by simp at hD; omega) hK rfl rfl)⟩
  case stop =>
    rintro D c pre W _ _ h _
    exact h.elim
end

theorem appendSeq_calls (Bx : Nat) (sv : Value) (zs : List Bs) (hl : zs.length ≤ 1000000) (w : World) (hBs : Bx < w.heap.size) (hc : w.cell? ⟨Bx, 0, none⟩ = some sv) (hI : Src w.heap.size w sv zs) :
    Calls Tryz.prog 179 #[.slice none 0 0, .func (.func 161) #[] #[.pointer (some ⟨Bx, 0, none⟩)]] w fun e W' => ∃ v, e = .returned v ∧ Strs W' w.heap.size v zs ∧ (v = .slice none 0 0 ↔ zs = []) ∧ Below w.heap.size w W' :=
  (callsIn_wide (n := 3)).1 (appendSeq_in Fence.wide 3 trivial trivial rfl (by omega) Bx sv zs hl w hBs hc hI)

set_option maxRecDepth 100000 in
theorem collect_calls (Bx : Nat) (sv : Value) (zs : List Bs) (hl : zs.length ≤ 1000000) (w : World) (hBs : Bx < w.heap.size) (hc : w.cell? ⟨Bx, 0, none⟩ = some sv) (hI : Src w.heap.size w sv zs) :
    Calls Tryz.prog 159 #[.func (.func 161) #[] #[.pointer (some ⟨Bx, 0, none⟩)]] w fun e W' => ∃ v, e = .returned v ∧ Strs W' w.heap.size v zs ∧ (v = .slice none 0 0 ↔ zs = []) ∧ Below w.heap.size w W' := by
  have c1 := appendSeq_calls Bx sv zs hl w hBs hc hI
  have C1 := Lib.hid c1
  clear c1 hc hI
  go_enter Tryz.func159, Tryz.ntmps159
  go_wp2_with fail
  refine C1.out.mono ?_
  rintro e W ⟨v, rfl, h1, h2, h3⟩
  have H1 := Lib.hid h1
  have H2 := Lib.hid h2
  have H3 := Lib.hid h3
  clear h1 h2 h3
  go_wp2_with fail
  go_ret
  exact ⟨v, rfl, H1.out, H2.out, H3.out⟩

set_option maxRecDepth 100000 in
theorem sorted_calls (Bx : Nat) (sv : Value) (zs : List Bs) (hl : zs.length ≤ 1000000) (w : World) (hBs : Bx < w.heap.size) (hc : w.cell? ⟨Bx, 0, none⟩ = some sv) (hI : Src w.heap.size w sv zs) :
    Calls Tryz.prog 141 #[.func (.func 161) #[] #[.pointer (some ⟨Bx, 0, none⟩)]] w fun e W' => ∃ v, e = .returned v ∧ Strs W' w.heap.size v (srt zs) ∧ Below w.heap.size w W' := by
  have c1 := collect_calls Bx sv zs hl w hBs hc hI
  have C1 := Lib.hid c1
  clear c1 hc hI
  go_enter Tryz.func141, Tryz.ntmps141
  go_wp2_with fail
  refine C1.out.mono ?_
  rintro e W ⟨v, rfl, hrow, hnil, hb⟩
  obtain ⟨hlen, hh⟩ := hrow
  rcases hh with ⟨rfl, hz⟩ | ⟨gb, cap, cur, rfl, hbase, hgb, r1, r2, r3, r4⟩
  · have hss : zs = [] := List.eq_nil_of_length_eq_zero hz
    subst hss
    have HB := Lib.hid hb
    clear hb hnil hlen
    go_wp2_with fail
    refine (shs.sort_none none 0 W).mono ?_
    rintro e w' ⟨rfl, rfl⟩
    go_wp2_with fail
    go_ret
    exact ⟨.slice none 0 0, rfl, by simpa [srt] using Strs.nil _ _, HB.out⟩
  · have hH := Go.holds_of_block (ss := zs) hgb (by simpa using r4)
    have hgl : gb < W.heap.size := (Array.getElem?_eq_some_iff.1 hgb).1
    have c2 := shs.sort_some gb 0 cap zs W hH hgl (by omega)
    have C2 := Lib.hid c2
    have HB := Lib.hid hb
    have HG := Lib.hid hgb
    have R1 := Lib.hid r1
    have R2 := Lib.hid r2
    have R3 := Lib.hid r3
    clear c2 hb hgb hH r1 r2 r3 r4 hlen hnil
    go_wp2_with fail
    refine C2.out.mono ?_
    rintro e w' ⟨rfl, nn, os, hw⟩
    have HW := Lib.hid hw
    clear hw
    go_wp2_with fail
    go_ret
    have e := HW.out
    refine ⟨_, rfl, ?_, ?_⟩
    · rw [e]
      unfold Strs
      rw [srt_len]
      exact Go.ownsRow_sorted (srt_len zs) hbase HG.out R1.out R2.out R3.out
    · rw [e]
      exact HB.out.grown (Go.grownBy_sorted _) HB.out.size (fun j hj => by cases hj; exact hbase)

set_option maxRecDepth 100000 in
theorem values_calls (ad : Option Addr) (n cap : Nat) (w : World) :
    Calls Tryz.prog 142 #[.slice ad n cap] w fun e w' => e = .returned (.func (.func 161) #[] #[.pointer (some ⟨w.heap.size, 0, none⟩)]) ∧ w' = w.alloc (.cells #[.slice ad n cap] 22) := by
  have hmf : ∀ (fn : Fn) (first cap : Array Value) (w : World), (Instr.makeFunc fn first cap).run Tryz.prog w = .ok (.func fn first cap) w := fun _ _ _ _ => rfl
  go_enter Tryz.func142, Tryz.ntmps142
  go_wp2_with fail
  go_ret
  exact ⟨rfl, rfl⟩

/-- slices.Sorted of what slices.Values hands back. -/
theorem sorted_at (v : Value) (zs : List Bs) (hl : zs.length ≤ 1000000) (w : World) (h : Rds w v zs) :
    Calls Tryz.prog 141 #[.func (.func 161) #[] #[.pointer (some ⟨w.heap.size, 0, none⟩)]] (w.alloc (.cells #[v] 22)) fun e w' => ∃ v', e = .returned v' ∧ Strs w' w.heap.size v' (srt zs) ∧ Below w.heap.size w w' := by
  have hb : Below w.heap.size w (w.alloc (.cells #[v] 22)) := (Below.refl _ w).alloc (Nat.le_refl _) _
  refine (sorted_calls w.heap.size v zs hl _ (by simp) (by simp [go_sem]) (Src.of (Rds.below h hb))).mono ?_
  rintro e w' ⟨v', rfl, h1, h2⟩
  exact ⟨v', rfl, own_base h1 (by simp), hb.trans (h2.mono (by simp))⟩
end Go.Proofs.YtonjohlecomeoaaGreat.its

/- The fields of a Node. -/
namespace Go.Proofs.YtonjohlecomeoaaGreat.dhs
open Go.RowKit Go.Proofs.YtonjohlecomeoaaGreat.tm Go.Proofs.YtonjohlecomeoaaGreat.bld
set_option linter.unusedVariables false

theorem node_op (O : Bs) (ad : Option Addr) (n cap : Nat) (w : World) : (Instr.field 57 (.agg #[str O, .slice ad n cap]) 0).run Tryz.prog w = .ok (str O) w := by kernel_rfl
theorem node_args (O : Bs) (ad : Option Addr) (n cap : Nat) (w : World) : (Instr.field 57 (.agg #[str O, .slice ad n cap]) 1).run Tryz.prog w = .ok (.slice ad n cap) w := by kernel_rfl
end Go.Proofs.YtonjohlecomeoaaGreat.dhs

/- Contract of isTime of the program. -/
namespace Go.Proofs.YtonjohlecomeoaaGreat.lri
open Go.RowKit Go.Proofs.YtonjohlecomeoaaGreat.tm Go.Proofs.YtonjohlecomeoaaGreat.lib Go.Proofs.YtonjohlecomeoaaGreat.rdr Go.Proofs.YtonjohlecomeoaaGreat.bld Go.Proofs.YtonjohlecomeoaaGreat.ltp
set_option linter.unusedVariables false

theorem isTime_calls (n : Int) (w : World) : Calls Tryz.prog 184 #[.int .i64 n] w fun e w' => e = .returned (.bool (timeR n)) ∧ w = w' := by
  unfold timeR
  go_enter Tryz.func184, Tryz.ntmps184
  go_wp2
  all_goals go_ret
  all_goals exact ⟨by congr 2; simp [*] <;> omega, rfl⟩
end Go.Proofs.YtonjohlecomeoaaGreat.lri
