/- JarTick of the program. -/
import Derived.Test.YtdikjmhnjlalbaaDoorGjt
import Derived.Test.YtdikjmhnjlalbaaDoorRbc
import Derived.Test.YtdikjmhnjlalbaaDoorTim
import Derived.StillTailTactics
import Derived.Lib.QuietBelow
namespace Go.Proofs.YtdikjmhnjlalbaaDoor.gjt
open Go.RowKit Go.Sort Go.Proofs.YtdikjmhnjlalbaaDoor.tm Go.Proofs.YtdikjmhnjlalbaaDoor.lib Go.Proofs.YtdikjmhnjlalbaaDoor.rdr Go.Proofs.YtdikjmhnjlalbaaDoor.bld Go.Proofs.YtdikjmhnjlalbaaDoor.ltp Go.Proofs.YtdikjmhnjlalbaaDoor.gdp Go.Proofs.YtdikjmhnjlalbaaDoor.gtp Go.Proofs.YtdikjmhnjlalbaaDoor.rbk Go.Proofs.YtdikjmhnjlalbaaDoor.dec Go.Proofs.YtdikjmhnjlalbaaDoor.tab
set_option linter.unusedVariables false

/-- What JarTick answers, as a value. -/
def joA (j : Jr) (c : Int) : Array Value := #[str j.now, str j.was, .int .i64 j.at_, .int .i64 j.next, .int .i64 c]

theorem tick_form {j : Jr} (hj : jarR j = false) (now : Int) : tickR j now = (jr0, 1) := by unfold tickR; rw [hj]; rfl
theorem tick_time {j : Jr} {now : Int} (ht : timeR now = false) : tickR j now = (jr0, 1) := by unfold tickR; rw [ht, Bool.not_false, Bool.or_true]; rfl
theorem tick_late {j : Jr} {now : Int} (hj : jarR j = true) (ht : timeR now = true) (h : now < j.at_) : tickR j now = (jr0, 8) := by unfold tickR; rw [hj, ht]; simp [h]
theorem tick_same {j : Jr} {now : Int} (hj : jarR j = true) (ht : timeR now = true) (h : ¬ now < j.at_) (h2 : now - j.at_ < 120) : tickR j now = (j, 0) := by unfold tickR; rw [hj, ht]; simp [h, h2]
theorem tick_next {j : Jr} {now : Int} (hj : jarR j = true) (ht : timeR now = true) (h : ¬ now < j.at_) (h2 : ¬ now - j.at_ < 120) : tickR j now = if jarR (nextR j now) then (nextR j now, 0) else (jr0, 9) := by unfold tickR; rw [hj, ht]; simp [h, h2]

set_option maxHeartbeats 4000000 in
set_option maxRecDepth 100000 in
theorem implTick_calls (j : Jr) (now : Int) (h1 : j.now.length ≤ 4000000) (h2 : j.was.length ≤ 4000000) (w : World) (hh : Has w) :
    Calls Tryd.prog 7 #[.agg (jrA j), .int .i64 now] w fun e w' => e = .returned (.agg (joA (tickR j now).1 (tickR j now).2)) ∧ Below w.heap.size w w' := by
  have IJ := fun w' => gjr.implJar_calls j h1 h2 w'
  have IT := fun w' => lri.isTime_calls now w'
  have kW := (glh.new1 w (.cells #[str j.now, str j.was, .int .i64 j.at_, .int .i64 j.next] 25)).alloc (by simp) (.cells #[str [], str [], .int .i64 0, .int .i64 0, .int .i64 0] 27)
  obtain ⟨x0, x1⟩ := alloc2 w (.cells #[str j.now, str j.was, .int .i64 j.at_, .int .i64 j.next] 25) (.cells #[str [], str [], .int .i64 0, .int .i64 0, .int .i64 0] 27)
  have Q := And.intro x0 (And.intro x1 kW)
  clear x0 x1 kW
  cases hj : jarR j with
  | false =>
    rw [tick_form hj now]
    simp only [hj] at IJ
    have IJ := Lib.hid IJ
    clear hj h1 h2 hh IT
    obtain ⟨s, t, x, y⟩ := j
    unfold jrA at IJ ⊢
    simp only at IJ Q ⊢
    go_enter Tryd.func7, Tryd.ntmps7
    go_wp2_with fail
    generalize hW : ((w.alloc (.cells #[str s, str t, .int .i64 x, .int .i64 y] 25)).alloc (.cells #[str [], str [], .int .i64 0, .int .i64 0, .int .i64 0] 27)) = W at Q
    obtain ⟨x0, x1, kW⟩ := Q
    clear hW
    refine (IJ.out _).mono ?_
    rintro e w1 ⟨rfl, hb⟩
    obtain ⟨r0, r1, r2, r3, r4, rz, rf⟩ := five (glh.keptB x1 hb)
    have HB := Lib.hid (kW.trans (hb.mono kW.size))
    clear hb x0 x1 kW
    go_wp2_with fail
    refine bodyPost_ret (v := .agg #[str [], str [], .int .i64 0, .int .i64 0, .int .i64 1]) (by simp [results, Tryd.results7, go_sem, r0, r1, r2, r3, r4]) rfl ⟨rfl, ?_⟩
    exact ((((HB.out.setCell (by simp) _).setCell (by simp) _).setCell (by simp) _).setCell (by simp) _).setCell (by simp) _
  | true =>
  simp only [hj] at IJ
  have K := jarOk hj
  have IJ := Lib.hid IJ
  cases ht : timeR now with
  | false =>
    rw [tick_time ht]
    rw [ht] at IT
    have IT := Lib.hid IT
    clear hj ht h1 h2 hh K
    obtain ⟨s, t, x, y⟩ := j
    unfold jrA at IJ ⊢
    simp only at IJ Q ⊢
    go_enter Tryd.func7, Tryd.ntmps7
    go_wp2_with fail
    generalize hW : ((w.alloc (.cells #[str s, str t, .int .i64 x, .int .i64 y] 25)).alloc (.cells #[str [], str [], .int .i64 0, .int .i64 0, .int .i64 0] 27)) = W at Q
    obtain ⟨x0, x1, kW⟩ := Q
    clear hW
    refine (IJ.out _).mono ?_
    rintro e w1 ⟨rfl, hb⟩
    have y0 := Lib.hid (glh.keptB x0 hb)
    have y1 := Lib.hid (glh.keptB x1 hb)
    have HB := Lib.hid (kW.trans (hb.mono kW.size))
    have KW1 := Lib.hid hb
    clear hb x0 x1 kW
    go_wp2_with fail
    refine (IT.out _).mono ?_
    rintro e w2 ⟨rfl, rfl⟩
    obtain ⟨j0, j1, j2, j3, jz, jf⟩ := four y0.out
    obtain ⟨r0, r1, r2, r3, r4, rz, rf⟩ := five y1.out
    go_wp2_with fail
    refine bodyPost_ret (v := .agg #[str [], str [], .int .i64 0, .int .i64 0, .int .i64 1]) (by simp [results, Tryd.results7, go_sem, r0, r1, r2, r3, r4]) rfl ⟨rfl, ?_⟩
    exact ((((HB.out.setCell (by simp) _).setCell (by simp) _).setCell (by simp) _).setCell (by simp) _).setCell (by simp) _
  | true =>
  obtain ⟨t0, t3⟩ : 0 ≤ now ∧ now ≤ 1000000 := by unfold timeR at ht; simpa using ht
  rw [ht] at IT
  have IT := Lib.hid IT
  by_cases hl : now < j.at_
  · rw [tick_late hj ht hl]
    have dl : decide (now < j.at_) = true := decide_eq_true hl
    clear hj ht h1 h2 hh K hl
    obtain ⟨s, t, x, y⟩ := j
    unfold jrA at IJ ⊢
    simp only at IJ Q dl ⊢
    go_enter Tryd.func7, Tryd.ntmps7
    go_wp2_with fail
    generalize hW : ((w.alloc (.cells #[str s, str t, .int .i64 x, .int .i64 y] 25)).alloc (.cells #[str [], str [], .int .i64 0, .int .i64 0, .int .i64 0] 27)) = W at Q
    obtain ⟨x0, x1, kW⟩ := Q
    clear hW
    refine (IJ.out _).mono ?_
    rintro e w1 ⟨rfl, hb⟩
    have y0 := Lib.hid (glh.keptB x0 hb)
    have y1 := Lib.hid (glh.keptB x1 hb)
    have HB := Lib.hid (kW.trans (hb.mono kW.size))
    have KW1 := Lib.hid hb
    clear hb x0 x1 kW
    go_wp2_with fail
    refine (IT.out _).mono ?_
    rintro e w2 ⟨rfl, rfl⟩
    obtain ⟨j0, j1, j2, j3, jz, jf⟩ := four y0.out
    obtain ⟨r0, r1, r2, r3, r4, rz, rf⟩ := five y1.out
    go_wp2_with fail
    refine bodyPost_ret (v := .agg #[str [], str [], .int .i64 0, .int .i64 0, .int .i64 8]) (by simp [results, Tryd.results7, go_sem, r0, r1, r2, r3, r4]) rfl ⟨rfl, ?_⟩
    exact ((((HB.out.setCell (by simp) _).setCell (by simp) _).setCell (by simp) _).setCell (by simp) _).setCell (by simp) _
  have dl : decide (now < j.at_) = false := decide_eq_false hl
  have wd : IntKind.i64.wrap (now - j.at_) = now - j.at_ := by rw [IntKind.wrap_i64]; have := K.a1; have := K.a2; omega
  by_cases hs : now - j.at_ < 120
  · rw [tick_same hj ht hl hs]
    have ds : decide (now - j.at_ < 120) = true := decide_eq_true hs
    have hnl := (atomR_len K.now).2
    have hwl : j.was.length ≤ 8 := by rcases K.was with e | e; (rw [e]; simp); exact (atomR_len e).2
    have CL1 := Lib.hid (fun w' => clo.clone_calls ⟨j.now.toArray⟩ (by show j.now.toArray.size ≤ _; simp; omega) w')
    have CL2 := Lib.hid (fun w' => clo.clone_calls ⟨j.was.toArray⟩ (by show j.was.toArray.size ≤ _; simp; omega) w')
    unfold joA
    clear hj ht h1 h2 hh K hl hs hnl hwl
    obtain ⟨s, t, x, y⟩ := j
    unfold jrA at IJ ⊢
    simp only at IJ Q dl ds wd CL1 CL2 ⊢
    go_enter Tryd.func7, Tryd.ntmps7
    go_wp2_with fail
    generalize hW : ((w.alloc (.cells #[str s, str t, .int .i64 x, .int .i64 y] 25)).alloc (.cells #[str [], str [], .int .i64 0, .int .i64 0, .int .i64 0] 27)) = W at Q
    obtain ⟨x0, x1, kW⟩ := Q
    clear hW
    refine (IJ.out _).mono ?_
    rintro e w1 ⟨rfl, hb⟩
    have y0 := Lib.hid (glh.keptB x0 hb)
    have y1 := Lib.hid (glh.keptB x1 hb)
    have HB := Lib.hid (kW.trans (hb.mono kW.size))
    have KW1 := Lib.hid hb
    clear hb x0 x1 kW
    go_wp2_with fail
    refine (IT.out _).mono ?_
    rintro e w2 ⟨rfl, rfl⟩
    obtain ⟨j0, j1, j2, j3, jz, jf⟩ := four y0.out
    obtain ⟨r0, r1, r2, r3, r4, rz, rf⟩ := five y1.out
    go_upto_region 6 with fail
    have B1 := HB
    have q0 := fun (d : Nat) (os : Array Obj) => cell_regrown (d := d) (os := os) j0
    have q1 := fun (d : Nat) (os : Array Obj) => cell_regrown (d := d) (os := os) j1
    have q2 := fun (d : Nat) (os : Array Obj) => cell_regrown (d := d) (os := os) j2
    have q3 := fun (d : Nat) (os : Array Obj) => cell_regrown (d := d) (os := os) j3
    clear j0 j1 j2 j3
    refine rbc.wp_region_below_cut 12 1 (rbc.mark 13 12) (by kernel_rfl) (by kernel_rfl) (by kernel_rfl) (by kernel_rfl) ?_
    simp only [List.take_succ_cons, List.take_zero]
    iterate 12 (with_reducible refine wpQuiet_step (fun K hK => ?_); go_simp; first | (apply Exists.intro; with_reducible refine ⟨fun _ => ?_, hK _ ?_⟩; (first | exact Calls.regrown_of (CL1.out _) | exact Calls.regrown_of (CL2.out _)); clear hK K) | (with_reducible refine hK _ ?_; clear hK K))
    with_reducible refine wpQuiet_nil ?_
    rintro w3 hb3
    have y3 := glh.keptB y1.out hb3
    have HB3 := Lib.hid (HB.out.trans (hb3.mono HB.out.size))
    clear r0 r1 r2 r3 r4 rz rf hb3 q0 q1 q2 q3
    obtain ⟨r0, r1, r2, r3, r4, rz, rf⟩ := five y3
    refine wpAny_ready (rs := [12]) (by kernel_rfl) (by simp) ?_
    refine AllReady.cons rfl (fun K hK => ?_) AllReady.nil
    go_simp
    refine hK _ _ ?_
    clear hK K
    refine wpAny_done (by kernel_rfl) ?_ _
    go_wp2_with fail
    refine bodyPost_ret (v := .agg #[.string ⟨s.toArray⟩, .string ⟨t.toArray⟩, .int .i64 x, .int .i64 y, .int .i64 0]) (by simp [results, Tryd.results7, go_sem, r0, r1, r2, r3, r4]) rfl ⟨rfl, ?_⟩
    exact ((((HB3.out.setCell (by simp) _).setCell (by simp) _).setCell (by simp) _).setCell (by simp) _).setCell (by simp) _
  have ds : decide (now - j.at_ < 120) = false := decide_eq_false hs
  rw [tick_next hj ht hl hs]
  have hnl := (atomR_len K.now).2
  have TU := Lib.hid (fun w' (k : Below w.heap.size w w') => turned_calls j now (by omega) K.a1 K.a2 K.n1 K.n2 t0 t3 w' (hh.below k))
  have IJ2 := fun w' => gjr.implJar_calls (nextR j now) (next_len hj now).1 (next_len hj now).2 w'
  obtain ⟨N, hN⟩ : ∃ N, N = nextR j now := ⟨_, rfl⟩
  rw [← hN] at TU IJ2 ⊢
  obtain ⟨b, hb⟩ : ∃ b, b = jarR N := ⟨_, rfl⟩
  simp only [← hb] at IJ2 ⊢
  have IJ2 := Lib.hid IJ2
  clear hj ht h1 h2 hh K hl hs hnl hN hb t0 t3
  obtain ⟨n1, n2, n3, n4⟩ := N
  obtain ⟨s, t, x, y⟩ := j
  unfold jrA at IJ IJ2 TU ⊢
  simp only at IJ IJ2 TU Q dl ds wd ⊢
  go_enter Tryd.func7, Tryd.ntmps7
  go_wp2_with fail
  generalize hW : ((w.alloc (.cells #[str s, str t, .int .i64 x, .int .i64 y] 25)).alloc (.cells #[str [], str [], .int .i64 0, .int .i64 0, .int .i64 0] 27)) = W at Q
  obtain ⟨x0, x1, kW⟩ := Q
  clear hW
  refine (IJ.out _).mono ?_
  rintro e w1 ⟨rfl, hb⟩
  have y0 := Lib.hid (glh.keptB x0 hb)
  have y1 := Lib.hid (glh.keptB x1 hb)
  have HB := Lib.hid (kW.trans (hb.mono kW.size))
  clear hb x0 x1 kW
  go_wp2_with fail
  refine (IT.out _).mono ?_
  rintro e w2 ⟨rfl, rfl⟩
  obtain ⟨j0, j1, j2, j3, jz, jf⟩ := four y0.out
  go_wp2_with fail
  refine (TU.out _ HB.out).mono ?_
  rintro e w3 ⟨rfl, hb⟩
  have k3 := glh.new1 w3 (.cells #[str n1, str n2, .int .i64 n3, .int .i64 n4] 25)
  have y2 := glh.keptB (glh.keptB y1.out hb) k3
  have y3 := heap_alloc_new w3 (.cells #[str n1, str n2, .int .i64 n3, .int .i64 n4] 25)
  have HB3 := Lib.hid ((HB.out.trans (hb.mono HB.out.size)).trans (k3.mono (Nat.le_trans HB.out.size hb.size)))
  have hz3 : w.heap.size ≤ w3.heap.size := Nat.le_trans HB.out.size hb.size
  clear hb k3 j0 j1 j2 j3 jz jf
  go_wp2_with fail
  refine (IJ2.out _).mono ?_
  rintro e w4 ⟨rfl, hb⟩
  obtain ⟨r0, r1, r2, r3, r4, rz, rf⟩ := five (glh.keptB y2 hb)
  obtain ⟨o0, o1, o2, o3, oz, of⟩ := four (glh.keptB y3 hb)
  have HB4 := Lib.hid (HB3.out.trans (hb.mono HB3.out.size))
  clear hb y2 y3
  cases b with
  | true =>
    go_wp2_with fail
    refine bodyPost_ret (v := .agg #[str n1, str n2, .int .i64 n3, .int .i64 n4, .int .i64 0]) (by simp [results, Tryd.results7, go_sem, r0, r1, r2, r3, r4]) rfl ⟨rfl, ?_⟩
    exact ((((HB4.out.setCell (by simp) _).setCell (by simp) _).setCell (by simp) _).setCell (by simp) _).setCell (by simp) _
  | false =>
    go_wp2_with fail
    refine bodyPost_ret (v := .agg #[str [], str [], .int .i64 0, .int .i64 0, .int .i64 9]) (by simp [results, Tryd.results7, go_sem, r0, r1, r2, r3, r4]) rfl ⟨rfl, ?_⟩
    exact ((((HB4.out.setCell (by simp) _).setCell (by simp) _).setCell (by simp) _).setCell (by simp) _).setCell (by simp) _
end Go.Proofs.YtdikjmhnjlalbaaDoor.gjt
