/- Several small texts, one behind the other. -/
import Derived.Test.YtonjohlecomeoaaGreatLsr1q
import Derived.Test.YtonjohlecomeoaaGreatLsr2q
import Derived.Test.YtonjohlecomeoaaGreatLsr3q
import Derived.Test.YtonjohlecomeoaaGreatLsr4q
import Derived.Test.YtonjohlecomeoaaGreatQe
import Derived.Test.YtonjohlecomeoaaGreatQg
import Derived.Deep.RegionWith
import Derived.Test.YtonjohlecomeoaaGreatQj
import Derived.Test.YtonjohlecomeoaaGreatQd
import Derived.Test.YtonjohlecomeoaaGreatHmiq
import Derived.Test.YtonjohlecomeoaaGreatQm
import Derived.Test.YtonjohlecomeoaaGreatQl

/- LetterRight of the model, all ways. -/
namespace Go.Proofs.YtonjohlecomeoaaGreat.lsa
open Go.RowKit Go.Sort Go.Proofs.YtonjohlecomeoaaGreat.tm Go.Proofs.YtonjohlecomeoaaGreat.lib Go.Proofs.YtonjohlecomeoaaGreat.rdr Go.Proofs.YtonjohlecomeoaaGreat.bld Go.Proofs.YtonjohlecomeoaaGreat.app Go.Proofs.YtonjohlecomeoaaGreat.mrk Go.Proofs.YtonjohlecomeoaaGreat.ltq Go.Proofs.YtonjohlecomeoaaGreat.ltv Go.Proofs.YtonjohlecomeoaaGreat.ltp Go.Proofs.YtonjohlecomeoaaGreat.lsm Go.Proofs.YtonjohlecomeoaaGreat.lsr
set_option linter.unusedVariables false

set_option maxHeartbeats 1000000 in
set_option maxRecDepth 100000 in
theorem no_kind (k f t c : Int) (v : Value) (a b : Bs) (w : World) (hk : isKind k = false) :
    Calls Tryz.prog 45 #[.agg #[.int .i64 k, .int .i64 f, .int .i64 t, .int .i64 c, v, str a, str b]] w fun e w' => e = .returned (.bool false) ∧ Below w.heap.size w w' := by
  have h : k ≠ 1 ∧ k ≠ 2 ∧ k ≠ 3 ∧ k ≠ 4 := by
    unfold isKind at hk
    refine ⟨?_, ?_, ?_, ?_⟩ <;> (rintro rfl; revert hk; decide)
  obtain ⟨h1, h2, h3, h4⟩ := h
  have d1 : (k == 1) = false := by simpa using h1
  have d2 : (k == 2) = false := by simpa using h2
  have d3 : (k == 3) = false := by simpa using h3
  have d4 : (k == 4) = false := by simpa using h4
  clear h1 h2 h3 h4 hk
  go_enter Tryz.func45, Tryz.ntmps45
  go_wp2_with fail
  go_ret
  exact ⟨rfl, new1 _ _⟩

theorem rds_form {w : World} {v : Value} {ls : List Bs} (h : Rds w v ls) : ∃ ad cap, v = .slice ad ls.length cap := by
  rcases h with ⟨rfl, ad, cap, e⟩ | ⟨g, off, cap, e, _⟩ <;> exact ⟨_, _, e⟩

theorem specRight_calls (m : Lt) (v : Value) (w : World) (h : Rds w v m.ps) (hl : m.ps.length ≤ 2000000) (hx : ∀ x ∈ m.ps, x.length ≤ 4000000) (ha : m.a.length ≤ 4000000) (hb : m.b.length ≤ 4000000) :
    Calls Tryz.prog 45 #[.agg (letA m v)] w fun e w' => e = .returned (.bool (right m)) ∧ Below w.heap.size w w' := by
  obtain ⟨k, f, t, c, ps, a, b⟩ := m
  simp only at h hl hx ha hb
  obtain ⟨ad, cap, rfl⟩ := rds_form h
  unfold letA
  simp only
  cases hk : isKind k with
  | false =>
    have e : right ⟨k, f, t, c, ps, a, b⟩ = false := by unfold right; simp [hk]
    rw [e]
    exact no_kind k f t c _ a b w hk
  | true =>
    have hn : k = 1 ∨ k = 2 ∨ k = 3 ∨ k = 4 := by unfold isKind at hk; simp at hk; omega
    have NF := Lib.hid (fun w => l04No_calls f w)
    have NT := Lib.hid (fun w => l04No_calls t w)
    have HR := Lib.hid h
    have HS := Lib.hid hx
    have HN := Lib.hid (rfl : ps.length = ps.length)
    rcases hn with rfl | rfl | rfl | rfl
    · have MC := Lib.hid (fun w => macsS 1 f t c (.slice ad ps.length cap) a b w (.inl rfl) ha hb)
      have e : right ⟨1, f, t, c, ps, a, b⟩ = (endR f && decide (t = 0) && decide (c = 0) && (decide (ps.length = 3) && ps.all okT) && macsR a b) := rfl
      rw [e]
      by_cases f1 : endR f = false
      · rw [f1]; exact no1_nf0 f t c ad _ cap a b w _ _ _ NF NT MC f1
      have f1 : endR f = true := by simpa using f1
      by_cases t1 : t = 0
      · by_cases n1 : ps.length = 3
        · by_cases m1 : macsR a b = false
          · rw [m1, Bool.and_false]; exact no1_nf1_t0_n1_mm0 f t c ad _ cap a b w _ _ _ NF NT MC f1 t1 n1 m1
          · have m1 : macsR a b = true := by simpa using m1
            have := go1 f t c ad _ cap ps a b w _ _ _ NF NT MC HR HS HN hl f1 t1 n1 m1
            rw [f1, m1, decide_eq_true t1, decide_eq_true n1]
            simp only [Bool.true_and, Bool.and_true]
            rw [Bool.and_comm]
            exact this
        · rw [decide_eq_false n1]
          simp only [Bool.false_and, Bool.and_false]
          exact no1_nf1_t0_n0 f t c ad _ cap a b w _ _ _ NF NT MC f1 t1 n1
      · rw [decide_eq_false t1]
        simp only [Bool.and_false, Bool.false_and]
        exact no1_nf1_t1 f t c ad _ cap a b w _ _ _ NF NT MC f1 t1
    · have MC := Lib.hid (fun w => macsS 2 f t c (.slice ad ps.length cap) a b w (.inr rfl) ha hb)
      have e : right ⟨2, f, t, c, ps, a, b⟩ = (endR f && endR t && decide (c = 0) && (decide (ps.length = 2) && ps.all okT) && macsR a b) := rfl
      rw [e]
      by_cases f1 : endR f = false
      · rw [f1]; exact no2_nf0 f t c ad _ cap a b w _ _ _ NF NT MC f1
      have f1 : endR f = true := by simpa using f1
      by_cases t0 : t = 0
      · have : endR t = false := by subst t0; decide
        rw [this]
        simp only [Bool.and_false, Bool.false_and]
        exact no2_nf1_t0 f t c ad _ cap a b w _ _ _ NF NT MC f1 t0
      by_cases t1 : endR t = false
      · have := no2_nf1_t1_nt0 f t c ad _ cap a b w _ _ _ NF NT MC f1 t0 t1
        rw [t1]
        simp only [Bool.and_false, Bool.false_and]
        exact this
      have t1 : endR t = true := by simpa using t1
      by_cases n1 : ps.length = 2
      · by_cases m1 : macsR a b = false
        · rw [m1, Bool.and_false]; exact no2_nf1_t1_nt1_n1_mm0 f t c ad _ cap a b w _ _ _ NF NT MC f1 t0 t1 n1 m1
        · have m1 : macsR a b = true := by simpa using m1
          have := go2 f t c ad _ cap ps a b w _ _ _ NF NT MC HR HS HN hl f1 t0 t1 n1 m1
          rw [f1, m1, t1, decide_eq_true n1]
          simp only [Bool.true_and, Bool.and_true]
          rw [Bool.and_comm]
          exact this
      · rw [decide_eq_false n1]
        simp only [Bool.false_and, Bool.and_false]
        exact no2_nf1_t1_nt1_n0 f t c ad _ cap a b w _ _ _ NF NT MC f1 t0 t1 n1
    · have MC := Lib.hid (fun w => macsD 3 f t c (.slice ad ps.length cap) a b w (.inl rfl))
      have e : right ⟨3, f, t, c, ps, a, b⟩ = (decide (f = 0) && endR t && decide (c = 0) && (decide (ps.length = 1) && ps.all okT) && (decide (a = []) && decide (b = []))) := rfl
      rw [e]
      by_cases f0 : endR f = true
      · have h0 : f ≠ 0 := by rintro rfl; revert f0; decide
        rw [decide_eq_false h0]
        exact no3_nf1 f t c ad _ cap a b w _ _ _ NF NT MC f0
      have f0 : endR f = false := by simpa using f0
      by_cases f1 : f = 0
      · by_cases t0 : t = 0
        · have : endR t = false := by subst t0; decide
          rw [this]
          simp only [Bool.and_false, Bool.false_and]
          exact no3_nf0_f0_t0 f t c ad _ cap a b w _ _ _ NF NT MC f0 f1 t0
        by_cases t1 : endR t = false
        · have := no3_nf0_f0_t1_nt0 f t c ad _ cap a b w _ _ _ NF NT MC f0 f1 t0 t1
          rw [t1]
          simp only [Bool.and_false, Bool.false_and]
          exact this
        have t1 : endR t = true := by simpa using t1
        by_cases n1 : ps.length = 1
        · by_cases m1 : (decide (a = []) && decide (b = [])) = false
          · rw [m1, Bool.and_false]; exact no3_nf0_f0_t1_nt1_n1_mm0 f t c ad _ cap a b w _ _ _ NF NT MC f0 f1 t0 t1 n1 m1
          · have m1 : (decide (a = []) && decide (b = [])) = true := by simpa using m1
            have := go3 f t c ad _ cap ps a b w _ _ _ NF NT MC HR HS HN hl f0 f1 t0 t1 n1 m1
            rw [decide_eq_true f1, m1, t1, decide_eq_true n1]
            simp only [Bool.true_and, Bool.and_true]
            rw [Bool.and_comm]
            exact this
        · rw [decide_eq_false n1]
          simp only [Bool.false_and, Bool.and_false]
          exact no3_nf0_f0_t1_nt1_n0 f t c ad _ cap a b w _ _ _ NF NT MC f0 f1 t0 t1 n1
      · rw [decide_eq_false f1]
        exact no3_nf0_f1 f t c ad _ cap a b w _ _ _ NF NT MC f0 f1
    · have MC := Lib.hid (fun w => macsD 4 f t c (.slice ad ps.length cap) a b w (.inr rfl))
      have e : right ⟨4, f, t, c, ps, a, b⟩ = (decide (f = 0) && endR t && timeR c && (decide (ps.length = 1) && ps.all okT) && (decide (a = []) && decide (b = []))) := rfl
      rw [e]
      by_cases f0 : endR f = true
      · have h0 : f ≠ 0 := by rintro rfl; revert f0; decide
        rw [decide_eq_false h0]
        exact no4_nf1 f t c ad _ cap a b w _ _ _ NF NT MC f0
      have f0 : endR f = false := by simpa using f0
      by_cases f1 : f = 0
      · by_cases t0 : t = 0
        · have : endR t = false := by subst t0; decide
          rw [this]
          simp only [Bool.and_false, Bool.false_and]
          exact no4_nf0_f0_t0 f t c ad _ cap a b w _ _ _ NF NT MC f0 f1 t0
        by_cases t1 : endR t = false
        · have := no4_nf0_f0_t1_nt0 f t c ad _ cap a b w _ _ _ NF NT MC f0 f1 t0 t1
          rw [t1]
          simp only [Bool.and_false, Bool.false_and]
          exact this
        have t1 : endR t = true := by simpa using t1
        by_cases n1 : ps.length = 1
        · by_cases m1 : (decide (a = []) && decide (b = [])) = false
          · rw [m1, Bool.and_false]; exact no4_nf0_f0_t1_nt1_n1_mm0 f t c ad _ cap a b w _ _ _ NF NT MC f0 f1 t0 t1 n1 m1
          · have m1 : (decide (a = []) && decide (b = [])) = true := by simpa using m1
            have := go4 f t c ad _ cap ps a b w _ _ _ NF NT MC HR HS HN hl f0 f1 t0 t1 n1 m1
            rw [decide_eq_true f1, m1, t1, decide_eq_true n1]
            simp only [Bool.true_and, Bool.and_true]
            rw [Bool.and_comm]
            exact this
        · rw [decide_eq_false n1]
          simp only [Bool.false_and, Bool.and_false]
          exact no4_nf0_f0_t1_nt1_n0 f t c ad _ cap a b w _ _ _ NF NT MC f0 f1 t0 t1 n1
      · rw [decide_eq_false f1]
        exact no4_nf0_f1 f t c ad _ cap a b w _ _ _ NF NT MC f0 f1
end Go.Proofs.YtonjohlecomeoaaGreat.lsa

/- l04Body and BodyOf of the model. -/
namespace Go.Proofs.YtonjohlecomeoaaGreat.bdm
open Go.RowKit Go.Proofs.YtonjohlecomeoaaGreat.tm Go.Proofs.YtonjohlecomeoaaGreat.lib Go.Proofs.YtonjohlecomeoaaGreat.rdr Go.Proofs.YtonjohlecomeoaaGreat.bld Go.Proofs.YtonjohlecomeoaaGreat.app Go.Proofs.YtonjohlecomeoaaGreat.mrk Go.Proofs.YtonjohlecomeoaaGreat.ltq Go.Proofs.YtonjohlecomeoaaGreat.ltv Go.Proofs.YtonjohlecomeoaaGreat.ltp Go.Proofs.YtonjohlecomeoaaGreat.lsm Go.Proofs.YtonjohlecomeoaaGreat.bdr
set_option linter.unusedVariables false

theorem rds_cell {w : World} {v : Value} {ls : List Bs} (h : Rds w v ls) (hne : ls ≠ []) : ∃ g off cap, v = .slice (some ⟨g, off, none⟩) ls.length cap ∧ g < w.heap.size ∧ ∀ j l, ls[j]? = some l → w.cell? ⟨g, off + j, none⟩ = some (str l) := by
  rcases h with ⟨e, _⟩ | h
  · exact absurd e hne
  · exact h

set_option maxHeartbeats 1000000 in
set_option maxRecDepth 100000 in
theorem body1 (k f t c : Int) (x : Bs) (g off cap : Nat) (a b : Bs) (w : World) (c0 : w.cell? ⟨g, off, none⟩ = some (str x)) (hg : g < w.heap.size) :
    Calls Tryz.prog 131 #[.agg #[.int .i64 k, .int .i64 f, .int .i64 t, .int .i64 c, .slice (some ⟨g, off, none⟩) 1 cap, str a, str b]] w fun e w' => e = .returned (str x) ∧ Below w.heap.size w w' := by
  go_enter Tryz.func131, Tryz.ntmps131
  go_wp2_with fail
  refine wp_loop_rounds 1 ?_
  rw [rounds_succ]
  go_wp2_with fail
  go_ret
  exact ⟨rfl, new1 _ _⟩

set_option maxHeartbeats 1000000 in
set_option maxRecDepth 100000 in
theorem body2 (k f t c : Int) (x y : Bs) (g off cap : Nat) (a b : Bs) (w : World) (c0 : w.cell? ⟨g, off, none⟩ = some (str x)) (c1 : w.cell? ⟨g, off + 1, none⟩ = some (str y)) (hg : g < w.heap.size) (hx : x.length ≤ 3000) (hy : y.length ≤ 3000) :
    Calls Tryz.prog 131 #[.agg #[.int .i64 k, .int .i64 f, .int .i64 t, .int .i64 c, .slice (some ⟨g, off, none⟩) 2 cap, str a, str b]] w fun e w' => e = .returned (str (say oPair [x, y])) ∧ Below w.heap.size w w' := by
  have s1 := fun (w : World) (b : Nat) h0 h1 => ssy.say_two oPair x y b 0 2 w h0 h1 (by decide) (by omega) (by omega)
  obtain ⟨X, hX⟩ : ∃ X, X = say oPair [x, y] := ⟨_, rfl⟩
  simp only [← hX] at s1 ⊢
  have S1 := Lib.hid s1
  unfold oPair at S1
  clear s1 hX hx hy
  go_enter Tryz.func131, Tryz.ntmps131
  go_wp2_with fail
  refine wp_loop_rounds 2 ?_
  rw [rounds_succ]
  go_wp2_with fail
  refine (S1.out _ _ (by simp [go_sem]) (by simp [go_sem])).mono ?_
  rintro e w1 ⟨rfl, hb1⟩
  have HB1 := Lib.hid (((new1 w (.cells #[.int .i64 k, .int .i64 f, .int .i64 t, .int .i64 c, .slice (some ⟨g, off, none⟩) 2 cap, str a, str b] 24)).alloc (by simp) (.cells #[str x, str y] 9)).trans (hb1.mono (by simp; omega)))
  clear hb1
  go_wp2_with fail
  rw [rounds_succ]
  go_wp2_with fail
  go_ret
  exact ⟨rfl, HB1.out⟩

set_option maxHeartbeats 1000000 in
set_option maxRecDepth 100000 in
theorem body3 (k f t c : Int) (x y z : Bs) (g off cap : Nat) (a b : Bs) (w : World) (c0 : w.cell? ⟨g, off, none⟩ = some (str x)) (c1 : w.cell? ⟨g, off + 1, none⟩ = some (str y)) (c2 : w.cell? ⟨g, off + 2, none⟩ = some (str z)) (hg : g < w.heap.size) (hx : x.length ≤ 3000) (hy : y.length ≤ 3000) (hz : z.length ≤ 3000) :
    Calls Tryz.prog 131 #[.agg #[.int .i64 k, .int .i64 f, .int .i64 t, .int .i64 c, .slice (some ⟨g, off, none⟩) 3 cap, str a, str b]] w fun e w' => e = .returned (str (say oPair [x, say oPair [y, z]])) ∧ Below w.heap.size w w' := by
  have s1 := fun (w : World) (b : Nat) h0 h1 => ssy.say_two oPair y z b 0 2 w h0 h1 (by decide) (by omega) (by omega)
  obtain ⟨X, hX⟩ : ∃ X, X = say oPair [y, z] := ⟨_, rfl⟩
  have hXl : X.length ≤ 10000 := by rw [hX]; simp [say, oPair]; omega
  simp only [← hX] at s1 ⊢
  have s2 := fun (w : World) (b : Nat) h0 h1 => ssy.say_two oPair x X b 0 2 w h0 h1 (by decide) (by omega) (by omega)
  obtain ⟨Y, hY⟩ : ∃ Y, Y = say oPair [x, X] := ⟨_, rfl⟩
  simp only [← hY] at s2 ⊢
  have S1 := Lib.hid s1
  have S2 := Lib.hid s2
  unfold oPair at S1 S2
  clear s1 s2 hX hY hx hy hz hXl
  have k0 := fun (w' : World) (h : Below w.heap.size w w') => (h.cell (p := ⟨g, off, none⟩) hg).trans c0
  have K0 := Lib.hid k0
  clear k0
  go_enter Tryz.func131, Tryz.ntmps131
  go_wp2_with fail
  refine wp_loop_rounds 3 ?_
  rw [rounds_succ]
  go_wp2_with fail
  refine (S1.out _ _ (by simp [go_sem]) (by simp [go_sem])).mono ?_
  rintro e w1 ⟨rfl, hb1⟩
  have X1 := keptB (keptB (heap_alloc_new w (.cells #[.int .i64 k, .int .i64 f, .int .i64 t, .int .i64 c, .slice (some ⟨g, off, none⟩) 3 cap, str a, str b] 24)) (new1 _ _)) hb1
  obtain ⟨p0, p1, p2, p3, p4, p5, p6, pz⟩ := seven X1
  have hb := (((new1 w (.cells #[.int .i64 k, .int .i64 f, .int .i64 t, .int .i64 c, .slice (some ⟨g, off, none⟩) 3 cap, str a, str b] 24)).alloc (by simp) (.cells #[str y, str z] 9)).trans (hb1.mono (by simp; omega)))
  have HB1 := Lib.hid hb
  have d0 := K0.out _ hb
  clear hb1 X1 hb
  go_wp2_with fail
  rw [rounds_succ]
  go_wp2_with fail
  refine (S2.out _ _ (by simp [go_sem]) (by simp [go_sem])).mono ?_
  rintro e w2 ⟨rfl, hb2⟩
  have HB2 := Lib.hid ((HB1.out.alloc HB1.out.size (.cells #[str x, str X] 9)).trans (hb2.mono (by have := HB1.out.size; simp; omega)))
  clear hb2
  go_wp2_with fail
  rw [rounds_succ]
  go_wp2_with fail
  go_ret
  exact ⟨rfl, HB2.out⟩

theorem l04Body_calls (m : Lt) (v : Value) (w : World) (h : Rds w v m.ps) (hr : right m = true) :
    Calls Tryz.prog 131 #[.agg (letA m v)] w fun e w' => e = .returned (str (body m.ps)) ∧ Below w.heap.size w w' := by
  obtain ⟨h1, h2⟩ := right_ps hr
  have h3 := parts_pos m.k
  obtain ⟨k, f, t, c, ps, a, b⟩ := m
  unfold letA
  simp only at h h1 h2 h3 ⊢
  have hl : ∀ x ∈ ps, x.length ≤ 3000 := fun x hx => okT_len (List.all_eq_true.1 h1 x hx)
  match ps, h2, hl, h with
  | [], h2, hl, h => simp at h2; omega
  | [x], h2, hl, h =>
    obtain ⟨g, off, cap, rfl, hg, hc⟩ := rds_cell h (by simp)
    exact body1 k f t c x g off cap a b w (hc 0 x rfl) hg
  | [x, y], h2, hl, h =>
    obtain ⟨g, off, cap, rfl, hg, hc⟩ := rds_cell h (by simp)
    exact body2 k f t c x y g off cap a b w (hc 0 x rfl) (hc 1 y rfl) hg (hl x (by simp)) (hl y (by simp))
  | [x, y, z], h2, hl, h =>
    obtain ⟨g, off, cap, rfl, hg, hc⟩ := rds_cell h (by simp)
    exact body3 k f t c x y z g off cap a b w (hc 0 x rfl) (hc 1 y rfl) (hc 2 z rfl) hg (hl x (by simp)) (hl y (by simp)) (hl z (by simp))
  | x :: y :: z :: u :: l, h2, hl, h => simp at h2; omega
end Go.Proofs.YtonjohlecomeoaaGreat.bdm

/- l04Signs, l04Mac2 of the model. -/
namespace Go.Proofs.YtonjohlecomeoaaGreat.sgs
open Go.RowKit Go.Proofs.YtonjohlecomeoaaGreat.tm Go.Proofs.YtonjohlecomeoaaGreat.lib Go.Proofs.YtonjohlecomeoaaGreat.rdr Go.Proofs.YtonjohlecomeoaaGreat.bld Go.Proofs.YtonjohlecomeoaaGreat.app Go.Proofs.YtonjohlecomeoaaGreat.mrk Go.Proofs.YtonjohlecomeoaaGreat.mrs Go.Proofs.YtonjohlecomeoaaGreat.ltq Go.Proofs.YtonjohlecomeoaaGreat.ltv Go.Proofs.YtonjohlecomeoaaGreat.ltp Go.Proofs.YtonjohlecomeoaaGreat.lsm
set_option linter.unusedVariables false

set_option maxHeartbeats 1000000 in
set_option maxRecDepth 100000 in
theorem signs_calls (m : Lt) (v : Value) (w : World) (h : Rds w v m.ps) (hl : m.ps.length ≤ 2000000) (hx : ∀ x ∈ m.ps, x.length ≤ 4000000) (ha : m.a.length ≤ 4000000) (hb : m.b.length ≤ 4000000) :
    Calls Tryz.prog 97 #[.agg (letA m v)] w fun e w' => e = .returned (.bool (signs m)) ∧ Below w.heap.size w w' := by
  have hr := fun w' (k : Below w.heap.size w w') => lsa.specRight_calls m v w' (Rds.below h k) hl hx ha hb
  obtain ⟨ad, cap, hv⟩ := lsa.rds_form h
  cases hm : right m with
  | false =>
    have : signs m = false := by unfold signs; rw [hm]; rfl
    rw [this]
    rw [hm] at hr
    have HR := Lib.hid hr
    obtain ⟨k, f, t, c, ps, a, b⟩ := m
    subst hv
    unfold letA at HR ⊢
    simp only at HR ⊢
    clear h hr hx ha hb hm hl this
    go_enter Tryz.func97, Tryz.ntmps97
    go_wp2_with fail
    refine (HR.out _ (new1 _ _)).mono ?_
    rintro e w1 ⟨rfl, hb1⟩
    have HB1 := Lib.hid ((new1 _ _).trans (hb1.mono (by simp)))
    clear hb1
    go_wp2_with fail
    go_ret
    exact ⟨rfl, HB1.out⟩
  | true =>
    have hk : isKind m.k = true := by unfold right at hm; simp only [Bool.and_eq_true] at hm; exact hm.1.1.1
    have hn : m.k = 1 ∨ m.k = 2 ∨ m.k = 3 ∨ m.k = 4 := by unfold isKind at hk; simp at hk; omega
    have hs : signs m = decide (m.k ≤ 2) := by
      unfold signs signed
      rw [hm, Bool.true_and]
      rcases hn with h | h | h | h <;> rw [h] <;> decide
    rw [hs]
    rw [hm] at hr
    have HR := Lib.hid hr
    obtain ⟨k, f, t, c, ps, a, b⟩ := m
    subst hv
    unfold letA at HR ⊢
    simp only at HR ⊢
    clear h hr hx ha hb hm hl hs hk hn
    go_enter Tryz.func97, Tryz.ntmps97
    go_wp2_with fail
    refine (HR.out _ (new1 _ _)).mono ?_
    rintro e w1 ⟨rfl, hb1⟩
    have X1 := Lib.hid (keptB (heap_alloc_new w _) hb1)
    obtain ⟨p0, p1, p2, p3, p4, p5, p6, pz⟩ := seven X1.out
    have HB1 := Lib.hid ((new1 _ _).trans (hb1.mono (by simp)))
    clear hb1
    go_wp2_with fail
    go_ret
    exact ⟨rfl, HB1.out⟩

set_option maxHeartbeats 1000000 in
set_option maxRecDepth 100000 in
theorem mac2_calls (m : Lt) (v : Value) (cookie : Bs) (w : World) (h : Rds w v m.ps) (hr : right m = true) (hL : cookie.length ≤ 3000) (hal : m.a.length ≤ 3000) :
    Calls Tryz.prog 175 #[.agg (letA m v), str cookie] w fun e w' => e = .returned (str (mac2 m cookie)) ∧ Below w.heap.size w w' := by
  have hbd := fun w' (k : Below w.heap.size w w') => bdm.l04Body_calls m v w' (Rds.below h k) hr
  have hbl := body_len hr
  obtain ⟨ad, cap, hv⟩ := lsa.rds_form h
  unfold mac2
  obtain ⟨B, hB⟩ : ∃ B, B = body m.ps := ⟨_, rfl⟩
  simp only [← hB] at hbd hbl ⊢
  have sy := fun (w : World) (b : Nat) h0 h1 => ssy.say_two oPair B m.a b 0 2 w h0 h1 (by decide) (by omega) (by omega)
  obtain ⟨PP, hPP⟩ : ∃ M, M = say oPair [B, m.a] := ⟨_, rfl⟩
  have hpl : PP.length ≤ 20000 := by rw [hPP]; simp [say, oPair]; omega
  simp only [← hPP] at sy ⊢
  have sz := fun (w : World) (b : Nat) h0 h1 => ssy.say_two oMac cookie PP b 0 2 w h0 h1 (by decide) (by omega) (by omega)
  obtain ⟨M, hM⟩ : ∃ M, M = say oMac [cookie, PP] := ⟨_, rfl⟩
  simp only [← hM] at sz ⊢
  have BD := Lib.hid hbd
  have SY := Lib.hid sy
  have SZ := Lib.hid sz
  unfold oPair at SY
  unfold oMac at SZ
  obtain ⟨k, f, t, c, ps, a, b⟩ := m
  subst hv
  unfold letA at BD ⊢
  simp only at BD SY ⊢
  obtain ⟨n, hn⟩ : ∃ n, n = ps.length := ⟨_, rfl⟩
  rw [← hn] at BD ⊢
  clear h hr hL hbd hbl hB sy sz hM hn hal hPP hpl
  have X0 := Lib.hid (heap_alloc_new w (.cells #[.int .i64 k, .int .i64 f, .int .i64 t, .int .i64 c, .slice ad n cap, str a, str b] 24))
  have HD := Lib.hid ((new1 w (.cells #[.int .i64 k, .int .i64 f, .int .i64 t, .int .i64 c, .slice ad n cap, str a, str b] 24)).trans ((Still.drewN _ 1).below _))
  have XD := Lib.hid (show ((w.alloc (.cells #[.int .i64 k, .int .i64 f, .int .i64 t, .int .i64 c, .slice ad n cap, str a, str b] 24)).drew).heap[w.heap.size]? = _ from X0.out)
  go_enter Tryz.func175, Tryz.ntmps175
  go_wp2_with fail
  go_region_with (first
    | (go_at_call 131; refine (BD.out _ HD.out).mono ?_; rintro e w3 ⟨rfl, hb3⟩; have X3 := Lib.hid (keptB XD.out hb3); have HB3 := Lib.hid (HD.out.trans (hb3.mono HD.out.size)); obtain ⟨r0, r1, r2, r3, r4, r5, r6, rz⟩ := seven X3.out; clear hb3)
    | (go_at_call 42; have gg := HB4.out; clear gg; refine (SZ.out _ _ (by simp [go_sem]) (by simp [go_sem])).mono ?_; rintro e w5 ⟨rfl, hb5⟩; have HB5 := Lib.hid ((HB4.out.alloc HB4.out.size (.cells #[str cookie, str PP] 9)).trans (hb5.mono (by have := HB4.out.size; simp; omega))); clear hb5)
    | (go_at_call 42; refine (SY.out _ _ (by simp [go_sem]) (by simp [go_sem])).mono ?_; rintro e w4 ⟨rfl, hb4⟩; have HB4 := Lib.hid ((HB3.out.alloc HB3.out.size (.cells #[str B, str a] 9)).trans (hb4.mono (by have := HB3.out.size; simp; omega))); clear hb4))
  all_goals (go_wp2_with fail; go_ret; exact ⟨rfl, HB5.out⟩)
end Go.Proofs.YtonjohlecomeoaaGreat.sgs

/- l04Mac1 of the model. -/
namespace Go.Proofs.YtonjohlecomeoaaGreat.sgs
open Go.RowKit Go.Proofs.YtonjohlecomeoaaGreat.tm Go.Proofs.YtonjohlecomeoaaGreat.lib Go.Proofs.YtonjohlecomeoaaGreat.rdr Go.Proofs.YtonjohlecomeoaaGreat.bld Go.Proofs.YtonjohlecomeoaaGreat.app Go.Proofs.YtonjohlecomeoaaGreat.mrk Go.Proofs.YtonjohlecomeoaaGreat.mrs Go.Proofs.YtonjohlecomeoaaGreat.ltq Go.Proofs.YtonjohlecomeoaaGreat.ltv Go.Proofs.YtonjohlecomeoaaGreat.ltp Go.Proofs.YtonjohlecomeoaaGreat.lsm
set_option linter.unusedVariables false

set_option maxHeartbeats 1000000 in
set_option maxRecDepth 100000 in
theorem mac1_calls (m : Lt) (v : Value) (lock : Bs) (w : World) (h : Rds w v m.ps) (hr : right m = true) (hL : lock.length ≤ 3000) :
    Calls Tryz.prog 99 #[.agg (letA m v), str lock] w fun e w' => e = .returned (str (mac1 m lock)) ∧ Below w.heap.size w w' := by
  have hbd := fun w' (k : Below w.heap.size w w') => bdm.l04Body_calls m v w' (Rds.below h k) hr
  have hg := fun w => gky.l04Gate_calls lock (by omega) w
  have hgl := gky.gate_len lock
  have hbl := body_len hr
  obtain ⟨ad, cap, hv⟩ := lsa.rds_form h
  unfold mac1
  obtain ⟨G, hG⟩ : ∃ G, G = gate lock := ⟨_, rfl⟩
  obtain ⟨B, hB⟩ : ∃ B, B = body m.ps := ⟨_, rfl⟩
  simp only [← hG] at hg hgl ⊢
  simp only [← hB] at hbd hbl ⊢
  have sy := fun (w : World) (b : Nat) h0 h1 => ssy.say_two oMac G B b 0 2 w h0 h1 (by decide) (by omega) (by omega)
  obtain ⟨M, hM⟩ : ∃ M, M = say oMac [G, B] := ⟨_, rfl⟩
  simp only [← hM] at sy ⊢
  have BD := Lib.hid hbd
  have GG := Lib.hid hg
  have SY := Lib.hid sy
  unfold oMac at SY
  obtain ⟨k, f, t, c, ps, a, b⟩ := m
  subst hv
  unfold letA at BD ⊢
  simp only at BD ⊢
  obtain ⟨n, hn⟩ : ∃ n, n = ps.length := ⟨_, rfl⟩
  rw [← hn] at BD ⊢
  clear h hr hL hbd hg hgl hbl hG hB sy hM hn
  have X0 := Lib.hid (heap_alloc_new w (.cells #[.int .i64 k, .int .i64 f, .int .i64 t, .int .i64 c, .slice ad n cap, str a, str b] 24))
  have HD := Lib.hid ((new1 w (.cells #[.int .i64 k, .int .i64 f, .int .i64 t, .int .i64 c, .slice ad n cap, str a, str b] 24)).trans ((Still.drewN _ 1).below _))
  have XD := Lib.hid (show ((w.alloc (.cells #[.int .i64 k, .int .i64 f, .int .i64 t, .int .i64 c, .slice ad n cap, str a, str b] 24)).drew).heap[w.heap.size]? = _ from X0.out)
  go_enter Tryz.func99, Tryz.ntmps99
  go_wp2_with fail
  go_region_with (first
    | (go_at_call 130; refine (GG.out _).mono ?_; rintro e w3 ⟨rfl, hb3⟩; have X3 := Lib.hid (keptB XD.out hb3); have HB3 := Lib.hid (HD.out.trans (hb3.mono HD.out.size)); obtain ⟨r0, r1, r2, r3, r4, r5, r6, rz⟩ := seven X3.out; clear hb3)
    | (go_at_call 131; refine (BD.out _ HB3.out).mono ?_; rintro e w4 ⟨rfl, hb4⟩; have HB4 := Lib.hid (HB3.out.trans (hb4.mono HB3.out.size)); clear hb4)
    | (go_at_call 42; refine (SY.out _ _ (by simp [go_sem]) (by simp [go_sem])).mono ?_; rintro e w5 ⟨rfl, hb5⟩; have HB5 := Lib.hid ((HB4.out.alloc HB4.out.size (.cells #[str G, str B] 9)).trans (hb5.mono (by have := HB4.out.size; simp; omega))); clear hb5))
  all_goals (go_wp2_with fail; go_ret; exact ⟨rfl, HB5.out⟩)

end Go.Proofs.YtonjohlecomeoaaGreat.sgs

/- Sign and Mac1Fits of the model. -/
namespace Go.Proofs.YtonjohlecomeoaaGreat.sgw
open Go.RowKit Go.Proofs.YtonjohlecomeoaaGreat.tm Go.Proofs.YtonjohlecomeoaaGreat.lib Go.Proofs.YtonjohlecomeoaaGreat.rdr Go.Proofs.YtonjohlecomeoaaGreat.bld Go.Proofs.YtonjohlecomeoaaGreat.app Go.Proofs.YtonjohlecomeoaaGreat.mrk Go.Proofs.YtonjohlecomeoaaGreat.mrs Go.Proofs.YtonjohlecomeoaaGreat.ltq Go.Proofs.YtonjohlecomeoaaGreat.ltv Go.Proofs.YtonjohlecomeoaaGreat.ltp Go.Proofs.YtonjohlecomeoaaGreat.lsm Go.Proofs.YtonjohlecomeoaaGreat.sgs Go.Proofs.YtonjohlecomeoaaGreat.sgv
set_option linter.unusedVariables false

set_option maxHeartbeats 1000000 in
set_option maxRecDepth 100000 in
theorem copy_calls (m : Lt) (v : Value) (w : World) (h : Rds w v m.ps) (hne : m.ps ≠ []) (hl : m.ps.length ≤ 900000) :
    Calls Tryz.prog 98 #[.agg (letA m v)] w fun e w' => ∃ u, e = .returned (.agg (letA m u)) ∧ Below w.heap.size w w' ∧ Wrs w' w.heap.size u m.ps := by
  obtain ⟨g, off, cap, rfl, hg, hc⟩ := bdm.rds_cell h hne
  obtain ⟨k, f, t, c, ps, a, b⟩ := m
  unfold letA
  simp only at hc hl ⊢
  obtain ⟨n, hn⟩ : ∃ n, n = ps.length := ⟨_, rfl⟩
  rw [← hn] at hl ⊢
  have HN := Lib.hid hn
  have HC := Lib.hid (fun (w' : World) (k : Below w.heap.size w w') j l (hj : ps[j]? = some l) => (k.cell (p := ⟨g, off + j, none⟩) hg).trans (hc j l hj))
  clear h hc hn hne
  have E := Lib.hid (by simpa using sar.strs_empty ((w.alloc (.cells #[.int .i64 k, .int .i64 f, .int .i64 t, .int .i64 c, .slice (some ⟨g, off, none⟩) n cap, str a, str b] 24)).alloc (.cells #[.int .i64 0, .int .i64 0, .int .i64 0, .int .i64 0, .slice none 0 0, .string ⟨#[]⟩, .string ⟨#[]⟩] 24)) (w.heap.size + 1 + 1) (by simp) : Strs (((w.alloc (.cells #[.int .i64 k, .int .i64 f, .int .i64 t, .int .i64 c, .slice (some ⟨g, off, none⟩) n cap, str a, str b] 24)).alloc (.cells #[.int .i64 0, .int .i64 0, .int .i64 0, .int .i64 0, .slice none 0 0, .string ⟨#[]⟩, .string ⟨#[]⟩] 24)).alloc (.cells #[] 9)) (w.heap.size + 1 + 1) (.slice (some ⟨w.heap.size + 1 + 1, 0, none⟩) 0 0) [])
  have A3 := alloc2 w (.cells #[.int .i64 k, .int .i64 f, .int .i64 t, .int .i64 c, .slice (some ⟨g, off, none⟩) n cap, str a, str b] 24) (.cells #[.int .i64 0, .int .i64 0, .int .i64 0, .int .i64 0, .slice none 0 0, .string ⟨#[]⟩, .string ⟨#[]⟩] 24)
  have X0 := Lib.hid ((Below.heap_alloc _ (.cells #[] 9) _ (by simp; omega)).trans A3.1)
  have Y0 := Lib.hid ((Below.heap_alloc _ (.cells #[] 9) _ (by simp)).trans A3.2)
  have HB0 := Lib.hid (((new1 w (.cells #[.int .i64 k, .int .i64 f, .int .i64 t, .int .i64 c, .slice (some ⟨g, off, none⟩) n cap, str a, str b] 24)).alloc (by simp) (.cells #[.int .i64 0, .int .i64 0, .int .i64 0, .int .i64 0, .slice none 0 0, .string ⟨#[]⟩, .string ⟨#[]⟩] 24)).alloc (by simp; omega) (.cells #[] 9))
  clear A3
  go_enter Tryz.func98, Tryz.ntmps98
  go_wp2_with (at_builtin; refine spt.wp_putN (.tmp 3) (.tmp 5) ⟨g, off, none⟩ n cap ps (w.heap.size + 1 + 1) _ [] rfl rfl rfl E.out rfl HN.out.symm (fun j l hj => by rw [Addr.add_lit]; exact HC.out _ HB0.out j l hj) (by show 0 + n ≤ 1000000; omega) (by simp) ?_; intro v1 w1 s1 b1; rw [List.nil_append] at s1; have X1 := (b1.block w.heap.size (by omega)).trans X0.out; have Y1 := (b1.block (w.heap.size + 1) (by omega)).trans Y0.out; have HB1 := Lib.hid (HB0.out.trans (b1.mono (by omega))); have W1 := Strs.wrs s1; obtain ⟨ua, uc, hu⟩ := lsa.rds_form W1.rds; rw [← HN.out] at hu; subst hu; have HW := Lib.hid W1; obtain ⟨p0, p1, p2, p3, p4, p5, p6, pz⟩ := seven X1; obtain ⟨q0, q1, q2, q3, q4, q5, q6, qz⟩ := seven Y1; have pf : ∀ o, w1.frozen? ⟨w.heap.size, o, none⟩ = false := (fun o => by simp [World.frozen?, X1]); have qf : ∀ o, w1.frozen? ⟨w.heap.size + 1, o, none⟩ = false := (fun o => by simp [World.frozen?, Y1]); clear s1 b1 W1 X1 Y1)
  refine bodyPost_ret (v := .agg #[.int .i64 k, .int .i64 f, .int .i64 t, .int .i64 c, .slice ua n uc, str a, str b]) (by simp [results, Tryz.results98, go_sem, q0, q1, q2, q3, q4, q5, q6]) rfl ⟨_, rfl, ?_, ?_⟩
  · exact (((((((HB1.out.setCell (by simp) _).setCell (by simp) _).setCell (by simp) _).setCell (by simp) _).setCell (by simp) _).setCell (by simp) _).setCell (by simp) _).setCell (by simp) _
  · exact Wrs.base (Wrs.set (Wrs.set (Wrs.set (Wrs.set (Wrs.set (Wrs.set (Wrs.set (Wrs.set HW.out (by simp; omega) _) (by simp) _) (by simp) _) (by simp) _) (by simp) _) (by simp) _) (by simp) _) (by simp) _) (by omega)
end Go.Proofs.YtonjohlecomeoaaGreat.sgw

/- signed and firstLock of the program; isEnd, AtomRight, TermRight, LetterRight at plain data. -/
namespace Go.Proofs.YtonjohlecomeoaaGreat.hms
open Go.RowKit Go.Proofs.YtonjohlecomeoaaGreat.tm Go.Proofs.YtonjohlecomeoaaGreat.lib Go.Proofs.YtonjohlecomeoaaGreat.rdr Go.Proofs.YtonjohlecomeoaaGreat.bld Go.Proofs.YtonjohlecomeoaaGreat.prs Go.Proofs.YtonjohlecomeoaaGreat.sop Go.Proofs.YtonjohlecomeoaaGreat.mkp Go.Proofs.YtonjohlecomeoaaGreat.mrk Go.Proofs.YtonjohlecomeoaaGreat.mrs Go.Proofs.YtonjohlecomeoaaGreat.ltq Go.Proofs.YtonjohlecomeoaaGreat.ltv Go.Proofs.YtonjohlecomeoaaGreat.ltp Go.Proofs.YtonjohlecomeoaaGreat.hdp Go.Proofs.YtonjohlecomeoaaGreat.hdv Go.Proofs.YtonjohlecomeoaaGreat.blw Go.Proofs.YtonjohlecomeoaaGreat.hmi Go.Proofs.YtonjohlecomeoaaGreat.sgv
set_option linter.unusedVariables false

theorem rds_form {w : World} {v : Value} {ls : List Bs} (h : Rds w v ls) : ∃ ad cap, v = .slice ad ls.length cap := by
  rcases h with ⟨rfl, ad, cap, rfl⟩ | ⟨g, off, cap, rfl, _⟩
  · exact ⟨_, _, rfl⟩
  · exact ⟨_, _, rfl⟩

theorem seven {w : World} {b : Nat} {v0 v1 v2 v3 v4 v5 v6 : Value} {t : TypeId} (h : w.heap[b]? = some (.cells #[v0, v1, v2, v3, v4, v5, v6] t (0, 0))) :
    w.cell? ⟨b, 0, none⟩ = some v0 ∧ w.cell? ⟨b, 1, none⟩ = some v1 ∧ w.cell? ⟨b, 2, none⟩ = some v2 ∧ w.cell? ⟨b, 3, none⟩ = some v3 ∧ w.cell? ⟨b, 4, none⟩ = some v4 ∧ w.cell? ⟨b, 5, none⟩ = some v5 ∧ w.cell? ⟨b, 6, none⟩ = some v6 ∧ b < w.heap.size ∧ ∀ o, w.frozen? ⟨b, o, none⟩ = false := by
  refine ⟨?_, ?_, ?_, ?_, ?_, ?_, ?_, (Array.getElem?_eq_some_iff.1 h).1, fun o => by simp [World.frozen?, h]⟩ <;> (rw [cell_of_row w b _ _ t (0, 0) h]; rfl)

theorem set7 {B : Nat} {w w' : World} (h : Below B w w') {b : Nat} (hb : B ≤ b) (v0 v1 v2 v3 v4 v5 v6 : Value) : Below B w (((((((w'.setCell ⟨b, 0, none⟩ v0).setCell ⟨b, 1, none⟩ v1).setCell ⟨b, 2, none⟩ v2).setCell ⟨b, 3, none⟩ v3).setCell ⟨b, 4, none⟩ v4).setCell ⟨b, 5, none⟩ v5).setCell ⟨b, 6, none⟩ v6) :=
  ((((((h.setCell hb _).setCell hb _).setCell hb _).setCell hb _).setCell hb _).setCell hb _).setCell hb _
theorem wset7 {B B' : Nat} {w : World} {u : Value} {ls : List Bs} (h : Wrs w B u ls) {b : Nat} (hb : b < B) (hB : B' ≤ B) (v0 v1 v2 v3 v4 v5 v6 : Value) : Wrs (((((((w.setCell ⟨b, 0, none⟩ v0).setCell ⟨b, 1, none⟩ v1).setCell ⟨b, 2, none⟩ v2).setCell ⟨b, 3, none⟩ v3).setCell ⟨b, 4, none⟩ v4).setCell ⟨b, 5, none⟩ v5).setCell ⟨b, 6, none⟩ v6) B' u ls :=
  sgv.Wrs.base (sgv.Wrs.set (sgv.Wrs.set (sgv.Wrs.set (sgv.Wrs.set (sgv.Wrs.set (sgv.Wrs.set (sgv.Wrs.set h hb _) hb _) hb _) hb _) hb _) hb _) hb _) hB
theorem wrsA {w : World} {B : Nat} {v : Value} {ls : List Bs} (h : Wrs w B v ls) (o : Obj) : Wrs (w.alloc o) B v ls := sgv.Wrs.below h (al0 o)

set_option maxHeartbeats 2000000 in
set_option maxRecDepth 100000 in
theorem signed_yes (m : Lt) (v : Value) (lock : Bs) (w : World) (h : Rds w v m.ps) (hl : m.ps.length ≤ 2000000) (hx : ∀ x ∈ m.ps, x.length ≤ 4000000) (ha : m.a.length ≤ 4000000) (hb : m.b.length ≤ 4000000) (hlk : lock.length ≤ 4000000) (hc : (signR m lock).2 = 0) :
    Calls Tryz.prog 59 #[.agg (letA m v), str lock] w fun e w' => ∃ u, e = .returned (.agg (letA (signR m lock).1 u)) ∧ Below w.heap.size w w' ∧ Wrs w' w.heap.size u (signR m lock).1.ps := by
  have c := fun w' (k : Below w.heap.size w w') => sgn.implSign_calls m v lock w' (Rds.below h k) hl hx ha hb hlk
  rw [hc] at c
  obtain ⟨ad, cap, hv⟩ := rds_form h
  subst hv
  obtain ⟨S, hS⟩ : ∃ s, s = (signR m lock).1 := ⟨_, rfl⟩
  simp only [← hS] at c ⊢
  have C := Lib.hid c
  obtain ⟨k, f, t, c', ps, a, b⟩ := m
  obtain ⟨k', f', t', c'', ps', a', b'⟩ := S
  unfold letA at C ⊢
  unfold sgi.outA at C
  simp only at C ⊢
  obtain ⟨n, hn⟩ : ∃ n, n = ps.length := ⟨_, rfl⟩
  rw [← hn] at C ⊢
  clear c h hl hx ha hb hlk hc hS hn
  have A2 := sgv.alloc2 w (.cells #[.int .i64 k, .int .i64 f, .int .i64 t, .int .i64 c', .slice ad n cap, str a, str b] 24) (.cells #[.int .i64 0, .int .i64 0, .int .i64 0, .int .i64 0, .slice none 0 0, .string ⟨#[]⟩, .string ⟨#[]⟩] 24)
  have X0 := Lib.hid A2.1
  have Y0 := Lib.hid A2.2
  have HB0 := Lib.hid ((al0 (w := w) (.cells #[.int .i64 k, .int .i64 f, .int .i64 t, .int .i64 c', .slice ad n cap, str a, str b] 24)).alloc (by simp) (.cells #[.int .i64 0, .int .i64 0, .int .i64 0, .int .i64 0, .slice none 0 0, .string ⟨#[]⟩, .string ⟨#[]⟩] 24))
  clear A2
  go_enter Tryz.func59, Tryz.ntmps59
  go_wp2_with fail
  refine (C.out _ HB0.out).mono ?_
  rintro e w1 ⟨u, rfl, hb1, hw⟩
  obtain ⟨au, cu, rfl⟩ := rds_form hw.rds
  have HB1 := Lib.hid (HB0.out.trans (hb1.mono HB0.out.size))
  have Y1 := Lib.hid (keptA (keptB Y0.out hb1) (.cells #[.int .i64 k', .int .i64 f', .int .i64 t', .int .i64 c'', .slice au ps'.length cu, str a', str b', .int .i64 0] 71))
  have hz := hb1.size
  simp at hz
  have HW := Lib.hid (wrsA hw (.cells #[.int .i64 k', .int .i64 f', .int .i64 t', .int .i64 c'', .slice au ps'.length cu, str a', str b', .int .i64 0] 71))
  clear hb1 hw
  obtain ⟨q0, q1, q2, q3, q4, q5, q6, qz, qf⟩ := seven Y1.out
  go_wp2_with fail
  refine (need_yes _ _).mono ?_
  rintro e w2 ⟨rfl, rfl⟩
  go_wp2_with fail
  refine bodyPost_ret (v := .agg #[.int .i64 k', .int .i64 f', .int .i64 t', .int .i64 c'', .slice au ps'.length cu, str a', str b']) (by simp [results, Tryz.results59, go_sem, q0, q1, q2, q3, q4, q5, q6]) rfl ⟨_, rfl, ?_, ?_⟩
  · exact set7 (al1 HB1.out _) (by simp) _ _ _ _ _ _ _
  · have h := HW.out
    simp only [World.size_alloc] at h
    exact wset7 h (by simp) (by omega) _ _ _ _ _ _ _

set_option maxHeartbeats 2000000 in
set_option maxRecDepth 100000 in
theorem signed_no (m : Lt) (v : Value) (lock : Bs) (w : World) (h : Rds w v m.ps) (hl : m.ps.length ≤ 2000000) (hx : ∀ x ∈ m.ps, x.length ≤ 4000000) (ha : m.a.length ≤ 4000000) (hb : m.b.length ≤ 4000000) (hlk : lock.length ≤ 4000000) (hc : (signR m lock).2 ≠ 0) :
    Calls Tryz.prog 59 #[.agg (letA m v), str lock] w fun e w' => e = fault 9 ∧ Below w.heap.size w w' := by
  have c := fun w' (k : Below w.heap.size w w') => sgn.implSign_calls m v lock w' (Rds.below h k) hl hx ha hb hlk
  obtain ⟨cd, hcd⟩ : ∃ d, d = (signR m lock).2 := ⟨_, rfl⟩
  simp only [← hcd] at c hc
  have d0 : (cd == 0) = false := by rw [beq_eq_false_iff_ne]; exact hc
  obtain ⟨ad, cap, hv⟩ := rds_form h
  subst hv
  obtain ⟨S, hS⟩ : ∃ s, s = (signR m lock).1 := ⟨_, rfl⟩
  simp only [← hS] at c
  have C := Lib.hid c
  obtain ⟨k, f, t, c', ps, a, b⟩ := m
  obtain ⟨k', f', t', c'', ps', a', b'⟩ := S
  unfold letA at C ⊢
  unfold sgi.outA at C
  simp only at C ⊢
  obtain ⟨n, hn⟩ : ∃ n, n = ps.length := ⟨_, rfl⟩
  rw [← hn] at C ⊢
  clear c h hl hx ha hb hlk hc hS hn hcd
  have HB0 := Lib.hid ((al0 (w := w) (.cells #[.int .i64 k, .int .i64 f, .int .i64 t, .int .i64 c', .slice ad n cap, str a, str b] 24)).alloc (by simp) (.cells #[.int .i64 0, .int .i64 0, .int .i64 0, .int .i64 0, .slice none 0 0, .string ⟨#[]⟩, .string ⟨#[]⟩] 24))
  go_enter Tryz.func59, Tryz.ntmps59
  go_wp2_with fail
  refine (C.out _ HB0.out).mono ?_
  rintro e w1 ⟨u, rfl, hb1, hw⟩
  obtain ⟨au, cu, rfl⟩ := rds_form hw.rds
  have HB1 := Lib.hid (HB0.out.trans (hb1.mono HB0.out.size))
  clear hb1 hw
  go_wp2_with fail
  refine (need_no _ _).mono ?_
  rintro e w2 ⟨rfl, rfl⟩
  exact ⟨rfl, rfl, al1 HB1.out _⟩

theorem rds_at {w : World} {ad : Option Addr} {n cap : Nat} {ls : List Bs} (h : Rds w (.slice ad n cap) ls) {j : Nat} {x : Bs} (hj : ls[j]? = some x) : ∃ g off, ad = some ⟨g, off, none⟩ ∧ w.cell? ⟨g, off + j, none⟩ = some (str x) ∧ g < w.heap.size := by
  rcases h with ⟨rfl, _⟩ | ⟨g, off, cap', e, hg, hc⟩
  · simp at hj
  · cases e
    exact ⟨g, off, rfl, hc j x hj, hg⟩

set_option maxHeartbeats 2000000 in
set_option maxRecDepth 100000 in
theorem first_yes (m : Lt) (v : Value) (w : World) (h : Rds w v m.ps) (x : Bs) (hx : m.ps[0]? = some x) (hxl : x.length ≤ 4000000) (hL : (lockS x).isSome = true) (hpl : m.ps.length ≤ 1000000) :
    Calls Tryz.prog 68 #[.agg (letA m v)] w fun e w' => e = .returned (str x) ∧ Below w.heap.size w w' := by
  obtain ⟨ad, cap, hv⟩ := rds_form h
  subst hv
  obtain ⟨g, off, rfl, c0, hg⟩ := rds_at h hx
  have L := Lib.hid fun w => isLock_calls x hxl true hL w
  obtain ⟨k, f, t, c', ps, a, b⟩ := m
  unfold letA
  simp only at hx hpl ⊢
  obtain ⟨n, hn⟩ : ∃ n, n = ps.length := ⟨_, rfl⟩
  have hn0 : 0 < n := by rw [hn]; exact (List.getElem?_eq_some_iff.1 hx).1
  rw [← hn] at hpl ⊢
  simp only [Nat.add_zero] at c0
  have X0 := Lib.hid (heap_alloc_new w (.cells #[.int .i64 k, .int .i64 f, .int .i64 t, .int .i64 c', .slice (some ⟨g, off, none⟩) n cap, str a, str b] 24))
  have C0 := Lib.hid (cellB c0 (al0 (.cells #[.int .i64 k, .int .i64 f, .int .i64 t, .int .i64 c', .slice (some ⟨g, off, none⟩) n cap, str a, str b] 24)) hg)
  have G0 : g < (w.alloc (.cells #[.int .i64 k, .int .i64 f, .int .i64 t, .int .i64 c', .slice (some ⟨g, off, none⟩) n cap, str a, str b] 24)).heap.size := by simp; omega
  have GH := Lib.hid G0
  have k0 := C0.out
  clear h hx hxl hL hn c0 hg G0
  go_enter Tryz.func68, Tryz.ntmps68
  go_wp2_with fail
  refine (L.out _).mono ?_
  rintro e w1 ⟨rfl, hb1⟩
  have HB1 := Lib.hid (base (al0 _) hb1)
  have k1 := cellB C0.out hb1 GH.out
  obtain ⟨q0, q1, q2, q3, q4, q5, q6, qz, qf⟩ := seven (keptB X0.out hb1)
  clear hb1 k0
  go_wp2_with fail
  refine (need_yes _ _).mono ?_
  rintro e w2 ⟨rfl, rfl⟩
  go_wp2_with fail
  go_ret
  exact ⟨rfl, HB1.out⟩
set_option maxHeartbeats 2000000 in
set_option maxRecDepth 100000 in
theorem first_no (m : Lt) (v : Value) (w : World) (h : Rds w v m.ps) (x : Bs) (hx : m.ps[0]? = some x) (hxl : x.length ≤ 4000000) (hL : (lockS x).isSome = false) (hpl : m.ps.length ≤ 1000000) :
    Calls Tryz.prog 68 #[.agg (letA m v)] w fun e w' => e = fault 3 ∧ Below w.heap.size w w' := by
  obtain ⟨ad, cap, hv⟩ := rds_form h
  subst hv
  obtain ⟨g, off, rfl, c0, hg⟩ := rds_at h hx
  have L := Lib.hid fun w => isLock_calls x hxl false hL w
  obtain ⟨k, f, t, c', ps, a, b⟩ := m
  unfold letA
  simp only at hx hpl ⊢
  obtain ⟨n, hn⟩ : ∃ n, n = ps.length := ⟨_, rfl⟩
  have hn0 : 0 < n := by rw [hn]; exact (List.getElem?_eq_some_iff.1 hx).1
  rw [← hn] at hpl ⊢
  simp only [Nat.add_zero] at c0
  have k0 := cellB c0 (al0 (.cells #[.int .i64 k, .int .i64 f, .int .i64 t, .int .i64 c', .slice (some ⟨g, off, none⟩) n cap, str a, str b] 24)) hg
  clear h hx hxl hL hn c0 hg
  go_enter Tryz.func68, Tryz.ntmps68
  go_wp2_with fail
  refine (L.out _).mono ?_
  rintro e w1 ⟨rfl, hb1⟩
  have HB1 := Lib.hid (base (al0 _) hb1)
  clear hb1 k0
  go_wp2_with fail
  refine (need_no _ _).mono ?_
  rintro e w2 ⟨rfl, rfl⟩
  exact ⟨rfl, rfl, HB1.out⟩
end Go.Proofs.YtonjohlecomeoaaGreat.hms
