/- l04Body and BodyOf of the model. -/
import Derived.Test.YtnlinlodgpbnlaaLsa
import Derived.Test.YtnlinlodgpbnlaaBdr
namespace Go.Proofs.Ytnlinlodgpbnlaa.bdm
open Go.RowKit Go.Proofs.Ytnlinlodgpbnlaa.tm Go.Proofs.Ytnlinlodgpbnlaa.lib Go.Proofs.Ytnlinlodgpbnlaa.rdr Go.Proofs.Ytnlinlodgpbnlaa.bld Go.Proofs.Ytnlinlodgpbnlaa.app Go.Proofs.Ytnlinlodgpbnlaa.mrk Go.Proofs.Ytnlinlodgpbnlaa.ltq Go.Proofs.Ytnlinlodgpbnlaa.ltv Go.Proofs.Ytnlinlodgpbnlaa.ltp Go.Proofs.Ytnlinlodgpbnlaa.lsm Go.Proofs.Ytnlinlodgpbnlaa.bdr
set_option linter.unusedVariables false

theorem rds_cell {w : World} {v : Value} {ls : List Bs} (h : Rds w v ls) (hne : ls ≠ []) : ∃ g off cap, v = .slice (some ⟨g, off, none⟩) ls.length cap ∧ g < w.heap.size ∧ ∀ j l, ls[j]? = some l → w.cell? ⟨g, off + j, none⟩ = some (str l) := by
  rcases h with ⟨e, _⟩ | h
  · exact absurd e hne
  · exact h

set_option maxHeartbeats 1000000 in
set_option maxRecDepth 100000 in
theorem body1 (k f t c : Int) (x : Bs) (g off cap : Nat) (a b : Bs) (w : World) (c0 : w.cell? ⟨g, off, none⟩ = some (str x)) (hg : g < w.heap.size) :
    Calls Try.prog 26 #[.agg #[.int .i64 k, .int .i64 f, .int .i64 t, .int .i64 c, .slice (some ⟨g, off, none⟩) 1 cap, str a, str b]] w fun e w' => e = .returned (str x) ∧ Below w.heap.size w w' := by
  go_enter Try.func26, Try.ntmps26
  go_wp2_with fail
  refine wp_loop_rounds 1 ?_
  rw [rounds_succ]
  go_wp2_with fail
  go_ret
  exact ⟨rfl, new1 _ _⟩

set_option maxHeartbeats 1000000 in
set_option maxRecDepth 100000 in
theorem body2 (k f t c : Int) (x y : Bs) (g off cap : Nat) (a b : Bs) (w : World) (c0 : w.cell? ⟨g, off, none⟩ = some (str x)) (c1 : w.cell? ⟨g, off + 1, none⟩ = some (str y)) (hg : g < w.heap.size) (hx : x.length ≤ 3000) (hy : y.length ≤ 3000) :
    Calls Try.prog 26 #[.agg #[.int .i64 k, .int .i64 f, .int .i64 t, .int .i64 c, .slice (some ⟨g, off, none⟩) 2 cap, str a, str b]] w fun e w' => e = .returned (str (say oPair [x, y])) ∧ Below w.heap.size w w' := by
  have s1 := fun (w : World) (b : Nat) h0 h1 => ssy.say_two oPair x y b 0 2 w h0 h1 (by decide) (by omega) (by omega)
  obtain ⟨X, hX⟩ : ∃ X, X = say oPair [x, y] := ⟨_, rfl⟩
  simp only [← hX] at s1 ⊢
  have S1 := Lib.hid s1
  unfold oPair at S1
  clear s1 hX hx hy
  go_enter Try.func26, Try.ntmps26
  go_wp2_with fail
  refine wp_loop_rounds 2 ?_
  rw [rounds_succ]
  go_wp2_with fail
  refine (S1.out _ _ (by simp [go_sem]) (by simp [go_sem])).mono ?_
  rintro e w1 ⟨rfl, hb1⟩
  have HB1 := Lib.hid (((new1 w (.cells #[.int .i64 k, .int .i64 f, .int .i64 t, .int .i64 c, .slice (some ⟨g, off, none⟩) 2 cap, str a, str b] 27)).alloc (by simp) (.cells #[str x, str y] 9)).trans (hb1.mono (by simp; omega)))
  clear hb1
  go_wp2_with fail
  rw [rounds_succ]
  go_wp2_with fail
  go_ret
  exact ⟨rfl, HB1.out⟩

set_option maxHeartbeats 1000000 in
set_option maxRecDepth 100000 in
theorem body3 (k f t c : Int) (x y z : Bs) (g off cap : Nat) (a b : Bs) (w : World) (c0 : w.cell? ⟨g, off, none⟩ = some (str x)) (c1 : w.cell? ⟨g, off + 1, none⟩ = some (str y)) (c2 : w.cell? ⟨g, off + 2, none⟩ = some (str z)) (hg : g < w.heap.size) (hx : x.length ≤ 3000) (hy : y.length ≤ 3000) (hz : z.length ≤ 3000) :
    Calls Try.prog 26 #[.agg #[.int .i64 k, .int .i64 f, .int .i64 t, .int .i64 c, .slice (some ⟨g, off, none⟩) 3 cap, str a, str b]] w fun e w' => e = .returned (str (say oPair [x, say oPair [y, z]])) ∧ Below w.heap.size w w' := by
  have s1 := fun (w : World) (b : Nat) h0 h1 => ssy.say_two oPair y z b 0 2 w h0 h1 (by decide) (by omega) (by omega)
  obtain ⟨X, hX⟩ : ∃ X, X = say oPair [y, z] := ⟨_, rfl⟩
  have hXl : X.length ≤ 10000 := by rw [hX]; simp [say, oPair]; omega
  simp only [← hX] at s1 ⊢
  have s2 := fun (w : World) (b : Nat) h0 h1 => ssy.say_two oPair x X b 0 2 w h0 h1 (by decide) (by omega) (by omega)
  obtain ⟨Y, hY⟩ : ∃ Y, Y = say oPair [x, X] := ⟨_, rfl⟩
  simp only [← hY] at s2 ⊢
  have S1 := Lib.hid s1
  have S2 := Lib.hid s2
  unfold oPair at S1 S2
  clear s1 s2 hX hY hx hy hz hXl
  have k0 := fun (w' : World) (h : Below w.heap.size w w') => (h.cell (p := ⟨g, off, none⟩) hg).trans c0
  have K0 := Lib.hid k0
  clear k0
  go_enter Try.func26, Try.ntmps26
  go_wp2_with fail
  refine wp_loop_rounds 3 ?_
  rw [rounds_succ]
  go_wp2_with fail
  refine (S1.out _ _ (by simp [go_sem]) (by simp [go_sem])).mono ?_
  rintro e w1 ⟨rfl, hb1⟩
  have X1 := keptB (keptB (heap_alloc_new w (.cells #[.int .i64 k, .int .i64 f, .int .i64 t, .int .i64 c, .slice (some ⟨g, off, none⟩) 3 cap, str a, str b] 27)) (new1 _ _)) hb1
  obtain ⟨p0, p1, p2, p3, p4, p5, p6, pz⟩ := seven X1
  have hb := (((new1 w (.cells #[.int .i64 k, .int .i64 f, .int .i64 t, .int .i64 c, .slice (some ⟨g, off, none⟩) 3 cap, str a, str b] 27)).alloc (by simp) (.cells #[str y, str z] 9)).trans (hb1.mono (by simp; omega)))
  have HB1 := Lib.hid hb
  have d0 := K0.out _ hb
  clear hb1 X1 hb
  go_wp2_with fail
  rw [rounds_succ]
  go_wp2_with fail
  refine (S2.out _ _ (by simp [go_sem]) (by simp [go_sem])).mono ?_
  rintro e w2 ⟨rfl, hb2⟩
  have HB2 := Lib.hid ((HB1.out.alloc HB1.out.size (.cells #[str x, str X] 9)).trans (hb2.mono (by have := HB1.out.size; simp; omega)))
  clear hb2
  go_wp2_with fail
  rw [rounds_succ]
  go_wp2_with fail
  go_ret
  exact ⟨rfl, HB2.out⟩

theorem l04Body_calls (m : Lt) (v : Value) (w : World) (h : Rds w v m.ps) (hr : right m = true) :
    Calls Try.prog 26 #[.agg (letA m v)] w fun e w' => e = .returned (str (body m.ps)) ∧ Below w.heap.size w w' := by
  obtain ⟨h1, h2⟩ := right_ps hr
  have h3 := parts_pos m.k
  obtain ⟨k, f, t, c, ps, a, b⟩ := m
  unfold letA
  simp only at h h1 h2 h3 ⊢
  have hl : ∀ x ∈ ps, x.length ≤ 3000 := fun x hx => okT_len (List.all_eq_true.1 h1 x hx)
  match ps, h2, hl, h with
  | [], h2, hl, h => simp at h2; omega
  | [x], h2, hl, h =>
    obtain ⟨g, off, cap, rfl, hg, hc⟩ := rds_cell h (by simp)
    exact body1 k f t c x g off cap a b w (hc 0 x rfl) hg
  | [x, y], h2, hl, h =>
    obtain ⟨g, off, cap, rfl, hg, hc⟩ := rds_cell h (by simp)
    exact body2 k f t c x y g off cap a b w (hc 0 x rfl) (hc 1 y rfl) hg (hl x (by simp)) (hl y (by simp))
  | [x, y, z], h2, hl, h =>
    obtain ⟨g, off, cap, rfl, hg, hc⟩ := rds_cell h (by simp)
    exact body3 k f t c x y z g off cap a b w (hc 0 x rfl) (hc 1 y rfl) (hc 2 z rfl) hg (hl x (by simp)) (hl y (by simp)) (hl z (by simp))
  | x :: y :: z :: u :: l, h2, hl, h => simp at h2; omega
end Go.Proofs.Ytnlinlodgpbnlaa.bdm
