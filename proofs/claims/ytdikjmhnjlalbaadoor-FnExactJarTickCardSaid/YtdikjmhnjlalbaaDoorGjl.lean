/- JarTick of the model, whole; the laws' eqJar, eqJarOut. -/
import Derived.Test.YtdikjmhnjlalbaaDoorGjs
import Derived.Test.YtdikjmhnjlalbaaDoorGjr
import Derived.Test.YtdikjmhnjlalbaaDoorGlj
namespace Go.Proofs.YtdikjmhnjlalbaaDoor.gjt
open Go.RowKit Go.Sort Go.Proofs.YtdikjmhnjlalbaaDoor.tm Go.Proofs.YtdikjmhnjlalbaaDoor.lib Go.Proofs.YtdikjmhnjlalbaaDoor.rdr Go.Proofs.YtdikjmhnjlalbaaDoor.bld Go.Proofs.YtdikjmhnjlalbaaDoor.ltp Go.Proofs.YtdikjmhnjlalbaaDoor.gdp Go.Proofs.YtdikjmhnjlalbaaDoor.gtp Go.Proofs.YtdikjmhnjlalbaaDoor.rbk Go.Proofs.YtdikjmhnjlalbaaDoor.dec Go.Proofs.YtdikjmhnjlalbaaDoor.tab
set_option linter.unusedVariables false

theorem tick_step {j : Jr} {now : Int} (hj : jarR j = true) (ht : timeR now = true) (h : ¬ now < j.at_) : tickR j now = stepR j now := by
  unfold stepR
  by_cases h2 : now - j.at_ < 120
  · rw [tick_same hj ht h h2, if_pos h2]
  · rw [tick_next hj ht h h2, if_neg h2]

set_option maxHeartbeats 4000000 in
set_option maxRecDepth 100000 in
theorem specTick_calls (j : Jr) (now : Int) (h1 : j.now.length ≤ 4000000) (h2 : j.was.length ≤ 4000000) (w : World) :
    Calls Tryd.prog 5 #[.agg (jrA j), .int .i64 now] w fun e w' => e = .returned (.agg (joA (tickR j now).1 (tickR j now).2)) ∧ Below w.heap.size w w' := by
  have IJ := fun w' => gjr.specJar_calls j h1 h2 w'
  have IT := fun w' => gjr.l05Time_calls now w'
  have kW := (glh.new1 w (.cells #[str j.now, str j.was, .int .i64 j.at_, .int .i64 j.next] 25)).alloc (by simp) (.cells #[str [], str [], .int .i64 0, .int .i64 0, .int .i64 0] 27)
  obtain ⟨x0, x1⟩ := alloc2 w (.cells #[str j.now, str j.was, .int .i64 j.at_, .int .i64 j.next] 25) (.cells #[str [], str [], .int .i64 0, .int .i64 0, .int .i64 0] 27)
  have Q := And.intro x0 (And.intro x1 kW)
  clear x0 x1 kW
  cases hj : jarR j with
  | false =>
    rw [tick_form hj now]
    simp only [hj] at IJ
    have IJ := Lib.hid IJ
    clear hj h1 h2 IT
    obtain ⟨s, t, x, y⟩ := j
    unfold jrA at IJ ⊢
    simp only at IJ Q ⊢
    go_enter Tryd.func5, Tryd.ntmps5
    go_wp2_with fail
    generalize hW : ((w.alloc (.cells #[str s, str t, .int .i64 x, .int .i64 y] 25)).alloc (.cells #[str [], str [], .int .i64 0, .int .i64 0, .int .i64 0] 27)) = W at Q
    obtain ⟨x0, x1, kW⟩ := Q
    clear hW
    refine (IJ.out _).mono ?_
    rintro e w1 ⟨rfl, hb⟩
    obtain ⟨r0, r1, r2, r3, r4, rz, rf⟩ := five (glh.keptB x1 hb)
    have HB := Lib.hid (kW.trans (hb.mono kW.size))
    clear hb x0 x1 kW
    go_wp2_with fail
    refine bodyPost_ret (v := .agg #[str [], str [], .int .i64 0, .int .i64 0, .int .i64 1]) (by simp [results, Tryd.results5, go_sem, r0, r1, r2, r3, r4]) rfl ⟨rfl, ?_⟩
    exact ((((HB.out.setCell (by simp) _).setCell (by simp) _).setCell (by simp) _).setCell (by simp) _).setCell (by simp) _
  | true =>
  simp only [hj] at IJ
  have IJ := Lib.hid IJ
  cases ht : timeR now with
  | false =>
    rw [tick_time ht]
    rw [ht] at IT
    have IT := Lib.hid IT
    clear hj ht h1 h2
    obtain ⟨s, t, x, y⟩ := j
    unfold jrA at IJ ⊢
    simp only at IJ Q ⊢
    go_enter Tryd.func5, Tryd.ntmps5
    go_wp2_with fail
    generalize hW : ((w.alloc (.cells #[str s, str t, .int .i64 x, .int .i64 y] 25)).alloc (.cells #[str [], str [], .int .i64 0, .int .i64 0, .int .i64 0] 27)) = W at Q
    obtain ⟨x0, x1, kW⟩ := Q
    clear hW
    refine (IJ.out _).mono ?_
    rintro e w1 ⟨rfl, hb⟩
    obtain ⟨r0, r1, r2, r3, r4, rz, rf⟩ := five (glh.keptB x1 hb)
    have HB := Lib.hid (kW.trans (hb.mono kW.size))
    clear hb x0 x1 kW
    go_wp2_with fail
    refine (IT.out _).mono ?_
    rintro e w2 ⟨rfl, rfl⟩
    go_wp2_with fail
    refine bodyPost_ret (v := .agg #[str [], str [], .int .i64 0, .int .i64 0, .int .i64 1]) (by simp [results, Tryd.results5, go_sem, r0, r1, r2, r3, r4]) rfl ⟨rfl, ?_⟩
    exact ((((HB.out.setCell (by simp) _).setCell (by simp) _).setCell (by simp) _).setCell (by simp) _).setCell (by simp) _
  | true =>
  obtain ⟨t0, t3⟩ : 0 ≤ now ∧ now ≤ 1000000 := by unfold timeR at ht; simpa using ht
  rw [ht] at IT
  have IT := Lib.hid IT
  by_cases hl : now < j.at_
  · rw [tick_late hj ht hl]
    have dl : decide (now < j.at_) = true := decide_eq_true hl
    clear hj ht h1 h2 hl
    obtain ⟨s, t, x, y⟩ := j
    unfold jrA at IJ ⊢
    simp only at IJ Q dl ⊢
    go_enter Tryd.func5, Tryd.ntmps5
    go_wp2_with fail
    generalize hW : ((w.alloc (.cells #[str s, str t, .int .i64 x, .int .i64 y] 25)).alloc (.cells #[str [], str [], .int .i64 0, .int .i64 0, .int .i64 0] 27)) = W at Q
    obtain ⟨x0, x1, kW⟩ := Q
    clear hW
    refine (IJ.out _).mono ?_
    rintro e w1 ⟨rfl, hb⟩
    obtain ⟨j0, j1, j2, j3, jz, jf⟩ := four (glh.keptB x0 hb)
    obtain ⟨r0, r1, r2, r3, r4, rz, rf⟩ := five (glh.keptB x1 hb)
    have HB := Lib.hid (kW.trans (hb.mono kW.size))
    clear hb x0 x1 kW
    go_wp2_with fail
    refine (IT.out _).mono ?_
    rintro e w2 ⟨rfl, rfl⟩
    go_wp2_with fail
    refine bodyPost_ret (v := .agg #[str [], str [], .int .i64 0, .int .i64 0, .int .i64 8]) (by simp [results, Tryd.results5, go_sem, r0, r1, r2, r3, r4]) rfl ⟨rfl, ?_⟩
    exact ((((HB.out.setCell (by simp) _).setCell (by simp) _).setCell (by simp) _).setCell (by simp) _).setCell (by simp) _
  have dl : decide (now < j.at_) = false := decide_eq_false hl
  rw [tick_step hj ht hl]
  have TK := fun w' => l05Tick_calls j now hj t0 t3 w'
  obtain ⟨A, hA⟩ : ∃ A, A = stepR j now := ⟨_, rfl⟩
  rw [← hA] at TK ⊢
  obtain ⟨⟨n1, n2, n3, n4⟩, c⟩ := A
  unfold joA at TK ⊢
  simp only at TK ⊢
  have TK := Lib.hid TK
  clear hj ht h1 h2 hl hA t0 t3
  obtain ⟨s, t, x, y⟩ := j
  unfold jrA at IJ TK ⊢
  simp only at IJ TK Q dl ⊢
  go_enter Tryd.func5, Tryd.ntmps5
  go_wp2_with fail
  generalize hW : ((w.alloc (.cells #[str s, str t, .int .i64 x, .int .i64 y] 25)).alloc (.cells #[str [], str [], .int .i64 0, .int .i64 0, .int .i64 0] 27)) = W at Q
  obtain ⟨x0, x1, kW⟩ := Q
  clear hW
  refine (IJ.out _).mono ?_
  rintro e w1 ⟨rfl, hb⟩
  obtain ⟨j0, j1, j2, j3, jz, jf⟩ := four (glh.keptB x0 hb)
  have y1 := Lib.hid (glh.keptB x1 hb)
  have HB := Lib.hid (kW.trans (hb.mono kW.size))
  clear hb x0 x1 kW
  go_wp2_with fail
  refine (IT.out _).mono ?_
  rintro e w2 ⟨rfl, rfl⟩
  go_wp2_with fail
  refine (TK.out _).mono ?_
  rintro e w3 ⟨rfl, hb⟩
  obtain ⟨r0, r1, r2, r3, r4, rz, rf⟩ := five (glh.keptB y1.out hb)
  have HB3 := Lib.hid (HB.out.trans (hb.mono HB.out.size))
  clear hb j0 j1 j2 j3 jz jf y1
  go_wp2_with fail
  refine bodyPost_ret (v := .agg #[str n1, str n2, .int .i64 n3, .int .i64 n4, .int .i64 c]) (by simp [results, Tryd.results5, go_sem, r0, r1, r2, r3, r4]) rfl ⟨rfl, ?_⟩
  exact ((((HB3.out.setCell (by simp) _).setCell (by simp) _).setCell (by simp) _).setCell (by simp) _).setCell (by simp) _

set_option maxHeartbeats 1000000 in
set_option maxRecDepth 100000 in
theorem eqJar_calls (s t : Bs) (x y : Int) (w : World) : Calls Tryd.prog 16 #[.agg #[str s, str t, .int .i64 x, .int .i64 y], .agg #[str s, str t, .int .i64 x, .int .i64 y]] w fun e w' => e = .returned (.bool true) ∧ Below w.heap.size w w' := by
  have d1 : (s != s) = false := by simp
  have d2 : (t != t) = false := by simp
  have d3 : (x != x) = false := by simp
  have d4 : (y != y) = false := by simp
  go_enter Tryd.func16, Tryd.ntmps16
  go_wp2_with fail
  go_ret
  exact ⟨rfl, (glh.new1 _ _).alloc (by simp) _⟩

set_option maxHeartbeats 1000000 in
set_option maxRecDepth 100000 in
theorem eqOut_calls (s t : Bs) (x y c : Int) (w : World) : Calls Tryd.prog 8 #[.agg #[str s, str t, .int .i64 x, .int .i64 y, .int .i64 c], .agg #[str s, str t, .int .i64 x, .int .i64 y, .int .i64 c]] w fun e w' => e = .returned (.bool true) ∧ Below w.heap.size w w' := by
  have d1 : (c != c) = false := by simp
  have EJ := Lib.hid (fun w' => eqJar_calls s t x y w')
  have kW := (glh.new1 w (.cells #[str s, str t, .int .i64 x, .int .i64 y, .int .i64 c] 27)).alloc (by simp) (.cells #[str s, str t, .int .i64 x, .int .i64 y, .int .i64 c] 27)
  obtain ⟨x0, x1⟩ := alloc2 w (.cells #[str s, str t, .int .i64 x, .int .i64 y, .int .i64 c] 27) (.cells #[str s, str t, .int .i64 x, .int .i64 y, .int .i64 c] 27)
  have Q := And.intro x0 (And.intro x1 kW)
  clear x0 x1 kW
  go_enter Tryd.func8, Tryd.ntmps8
  go_wp2_with fail
  generalize hW : ((w.alloc (.cells #[str s, str t, .int .i64 x, .int .i64 y, .int .i64 c] 27)).alloc (.cells #[str s, str t, .int .i64 x, .int .i64 y, .int .i64 c] 27)) = W at Q
  obtain ⟨x0, x1, kW⟩ := Q
  clear hW
  refine (EJ.out _).mono ?_
  rintro e w1 ⟨rfl, hb⟩
  obtain ⟨r0, r1, r2, r3, r4, rz, rf⟩ := five (glh.keptB x0 hb)
  obtain ⟨q0, q1, q2, q3, q4, qz, qf⟩ := five (glh.keptB x1 hb)
  have HB := Lib.hid (kW.trans (hb.mono kW.size))
  clear hb x0 x1 kW
  go_wp2_with fail
  go_ret
  exact ⟨rfl, HB.out⟩
end Go.Proofs.YtdikjmhnjlalbaaDoor.gjt
