/- l02Is, l04No, l04Macs of the model. -/
import Derived.Test.YtnlinlodgpbnlaaGreatQj
import Derived.StillTailTactics
import Derived.Lib.QuietBelow
namespace Go.Proofs.YtnlinlodgpbnlaaGreat.lsm
open Go.RowKit Go.Sort Go.Proofs.YtnlinlodgpbnlaaGreat.tm Go.Proofs.YtnlinlodgpbnlaaGreat.lib Go.Proofs.YtnlinlodgpbnlaaGreat.rdr Go.Proofs.YtnlinlodgpbnlaaGreat.bld Go.Proofs.YtnlinlodgpbnlaaGreat.app Go.Proofs.YtnlinlodgpbnlaaGreat.mrk Go.Proofs.YtnlinlodgpbnlaaGreat.ltq Go.Proofs.YtnlinlodgpbnlaaGreat.ltv Go.Proofs.YtnlinlodgpbnlaaGreat.ltp Go.Proofs.YtnlinlodgpbnlaaGreat.gky
set_option linter.unusedVariables false

theorem seven {w : World} {b : Nat} {v0 v1 v2 v3 v4 v5 v6 : Value} {t : TypeId} (h : w.heap[b]? = some (.cells #[v0, v1, v2, v3, v4, v5, v6] t (0, 0))) :
    w.cell? ⟨b, 0, none⟩ = some v0 ∧ w.cell? ⟨b, 1, none⟩ = some v1 ∧ w.cell? ⟨b, 2, none⟩ = some v2 ∧ w.cell? ⟨b, 3, none⟩ = some v3 ∧ w.cell? ⟨b, 4, none⟩ = some v4 ∧ w.cell? ⟨b, 5, none⟩ = some v5 ∧ w.cell? ⟨b, 6, none⟩ = some v6 ∧ b < w.heap.size := by
  refine ⟨?_, ?_, ?_, ?_, ?_, ?_, ?_, (Array.getElem?_eq_some_iff.1 h).1⟩ <;> (rw [cell_of_row w b _ _ t (0, 0) h]; rfl)
theorem keptB {W W' : World} {b : Nat} {o : Obj} (h : W.heap[b]? = some o) (k : Below W.heap.size W W') : W'.heap[b]? = some o :=
  (k.block b (Array.getElem?_eq_some_iff.1 h).1).trans h
theorem new1 (w : World) (o : Obj) : Below w.heap.size w (w.alloc o) := (Below.refl _ _).alloc (Nat.le_refl _) _

theorem l02Is_calls (n lo hi : Int) (w : World) : Calls Tryz.prog 147 #[.int .i64 n, .int .i64 lo, .int .i64 hi] w fun e w' => e = .returned (.bool (decide (lo ≤ n) && decide (n ≤ hi))) ∧ w = w' := by
  go_enter Tryz.func147, Tryz.ntmps147
  go_wp2
  all_goals go_ret
  all_goals exact ⟨by congr 2; simp [*] <;> omega, rfl⟩
theorem l04No_calls (n : Int) (w : World) : Calls Tryz.prog 145 #[.int .i64 n] w fun e w' => e = .returned (.bool (endR n)) ∧ Below w.heap.size w w' := by
  unfold endR
  go_enter Tryz.func145, Tryz.ntmps145
  go_wp2_with (go_at_call 147; refine (l02Is_calls _ _ _ _).mono ?_; rintro e w' ⟨rfl, rfl⟩)
  go_ret
  exact ⟨rfl, Below.refl _ _⟩

theorem e_yes {a : Bs} (h : a = []) : (a == []) = true ∧ a.isEmpty = true ∧ (a != []) = false := by subst h; exact ⟨rfl, rfl, rfl⟩
theorem e_no {a : Bs} (h : a ≠ []) : (a == []) = false ∧ a.isEmpty = false ∧ (a != []) = true := by cases a with | nil => exact absurd rfl h | cons x l => exact ⟨rfl, rfl, rfl⟩

set_option maxHeartbeats 1000000 in
set_option maxRecDepth 100000 in
theorem macsD (k f t c : Int) (v : Value) (a b : Bs) (w : World) (hk : k = 3 ∨ k = 4) :
    Calls Tryz.prog 146 #[.agg #[.int .i64 k, .int .i64 f, .int .i64 t, .int .i64 c, v, str a, str b]] w fun e w' => e = .returned (.bool (decide (a = []) && decide (b = []))) ∧ Below w.heap.size w w' := by
  by_cases h1 : a = []
  · subst h1
    by_cases h2 : b = []
    · subst h2
      rcases hk with rfl | rfl
      all_goals
        go_enter Tryz.func146, Tryz.ntmps146
        go_wp2_with fail
        go_ret
        exact ⟨rfl, new1 _ _⟩
    · obtain ⟨d1, d2, d3⟩ := e_no h2
      simp only [decide_eq_false h2, Bool.and_false]
      clear h2
      rcases hk with rfl | rfl
      all_goals
        go_enter Tryz.func146, Tryz.ntmps146
        go_wp2_with fail
        go_ret
        exact ⟨rfl, new1 _ _⟩
  · obtain ⟨d1, d2, d3⟩ := e_no h1
    simp only [decide_eq_false h1, Bool.false_and]
    clear h1
    rcases hk with rfl | rfl
    all_goals
      go_enter Tryz.func146, Tryz.ntmps146
      go_wp2_with fail
      go_ret
      exact ⟨rfl, new1 _ _⟩

set_option maxHeartbeats 2000000 in
set_option maxRecDepth 100000 in
theorem macsS (k f t c : Int) (v : Value) (a b : Bs) (w : World) (hk : k = 1 ∨ k = 2) (ha : a.length ≤ 4000000) (hb : b.length ≤ 4000000) :
    Calls Tryz.prog 146 #[.agg #[.int .i64 k, .int .i64 f, .int .i64 t, .int .i64 c, v, str a, str b]] w fun e w' => e = .returned (.bool (macsR a b)) ∧ Below w.heap.size w w' := by
  unfold macsR
  by_cases h1 : a = []
  · subst h1
    simp only [if_true]
    by_cases h2 : b = []
    · subst h2
      rcases hk with rfl | rfl
      all_goals
        go_enter Tryz.func146, Tryz.ntmps146
        go_wp2_with fail
        go_ret
        exact ⟨rfl, new1 _ _⟩
    · obtain ⟨d1, d2, d3⟩ := e_no h2
      simp only [decide_eq_false h2]
      clear h2
      rcases hk with rfl | rfl
      all_goals
        go_enter Tryz.func146, Tryz.ntmps146
        go_wp2_with fail
        go_ret
        exact ⟨rfl, new1 _ _⟩
  · obtain ⟨d1, d2, d3⟩ := e_no h1
    simp only [if_neg h1]
    clear h1
    cases hA : okT a with
    | false =>
      have c1 := fun w => right_any a false hA ha w
      have C1 := Lib.hid c1
      simp only [Bool.false_and]
      clear c1 hA
      rcases hk with rfl | rfl
      all_goals
        go_enter Tryz.func146, Tryz.ntmps146
        go_wp2_with fail
        refine (C1.out _).mono ?_
        rintro e w1 ⟨rfl, hb1⟩
        have HB1 := Lib.hid ((new1 _ _).trans (hb1.mono (by simp)))
        clear hb1
        go_wp2_with fail
        go_ret
        exact ⟨rfl, HB1.out⟩
    | true =>
      have c1 := fun w => right_any a true hA ha w
      have C1 := Lib.hid c1
      simp only [Bool.true_and]
      clear c1 hA
      by_cases h2 : b = []
      · subst h2
        simp only [decide_true, Bool.true_or]
        rcases hk with rfl | rfl
        all_goals
          go_enter Tryz.func146, Tryz.ntmps146
          go_wp2_with fail
          refine (C1.out _).mono ?_
          rintro e w1 ⟨rfl, hb1⟩
          have X1 := Lib.hid (keptB (heap_alloc_new w _) hb1)
          obtain ⟨p0, p1, p2, p3, p4, p5, p6, pz⟩ := seven X1.out
          have HB1 := Lib.hid ((new1 _ _).trans (hb1.mono (by simp)))
          clear hb1
          go_wp2_with fail
          go_ret
          exact ⟨rfl, HB1.out⟩
      · obtain ⟨d4, d5, d6⟩ := e_no h2
        have c2 := fun w => right_any b (okT b) rfl hb w
        simp only [decide_eq_false h2, Bool.false_or]
        obtain ⟨ob, hob⟩ : ∃ x, x = okT b := ⟨_, rfl⟩
        simp only [← hob] at c2 ⊢
        have C2 := Lib.hid c2
        clear hob c2 h2
        rcases hk with rfl | rfl
        all_goals
          go_enter Tryz.func146, Tryz.ntmps146
          go_wp2_with fail
          refine (C1.out _).mono ?_
          rintro e w1 ⟨rfl, hb1⟩
          have X1 := Lib.hid (keptB (heap_alloc_new w _) hb1)
          obtain ⟨p0, p1, p2, p3, p4, p5, p6, pz⟩ := seven X1.out
          have HB1 := Lib.hid ((new1 _ _).trans (hb1.mono (by simp)))
          clear hb1
          go_wp2_with fail
          refine (C2.out _).mono ?_
          rintro e w2 ⟨rfl, hb2⟩
          have HB2 := Lib.hid (HB1.out.trans (hb2.mono HB1.out.size))
          clear hb2
          go_wp2_with fail
          go_ret
          exact ⟨rfl, HB2.out⟩

/-- The count of a kind. -/
def cq (k c : Int) : Bool := if k = 4 then timeR c else decide (c = 0)
theorem eq0 (n : Int) : (n == 0) = decide (n = 0) := by rw [Bool.eq_iff_iff]; simp

/-- Behind j parts. -/
structure Lp (w : World) (ps : List Bs) (wr : World) (j : Nat) (o : Obj) : Prop where
  le : j ≤ ps.length
  all : ∀ i x, i < j → ps[i]? = some x → okT x = true
  bel : Below w.heap.size w wr
  x : wr.heap[w.heap.size]? = some o
theorem Lp.step {w : World} {ps : List Bs} {wr w3 : World} {j : Nat} {o : Obj} {x : Bs} (h : Lp w ps wr j o) (hx : ps[j]? = some x) (ho : okT x = true) (k : Below wr.heap.size wr w3) : Lp w ps w3 (j + 1) o :=
  ⟨(List.getElem?_eq_some_iff.1 hx).1, fun i y hi hy => by
    by_cases e : i = j
    · subst e; rw [hx] at hy; cases hy; exact ho
    · exact h.all i y (by omega) hy, h.bel.trans (k.mono h.bel.size), keptB h.x k⟩
theorem Lp.done {w : World} {ps : List Bs} {wr : World} {j : Nat} {o : Obj} (h : Lp w ps wr j o) (e : j = ps.length) : ps.all okT = true := by
  rw [List.all_eq_true]
  intro x hx
  obtain ⟨i, hi, e2⟩ := List.getElem_of_mem hx
  exact h.all i x (by omega) (by rw [← e2]; exact List.getElem?_eq_getElem hi)
end Go.Proofs.YtnlinlodgpbnlaaGreat.lsm
