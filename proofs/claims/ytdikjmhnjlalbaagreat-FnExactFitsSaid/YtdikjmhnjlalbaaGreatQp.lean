/- Several small texts, one behind the other. -/
import Derived.Test.YtdikjmhnjlalbaaGreatLsr1q
import Derived.Test.YtdikjmhnjlalbaaGreatLsr2q
import Derived.Test.YtdikjmhnjlalbaaGreatLsr3q
import Derived.Test.YtdikjmhnjlalbaaGreatLsr4q
import Derived.Test.YtdikjmhnjlalbaaGreatSguq
import Derived.Test.YtdikjmhnjlalbaaGreatQk

/- LetterRight of the model, all ways. -/
namespace Go.Proofs.YtdikjmhnjlalbaaGreat.lsa
open Go.RowKit Go.Sort Go.Proofs.YtdikjmhnjlalbaaGreat.tm Go.Proofs.YtdikjmhnjlalbaaGreat.lib Go.Proofs.YtdikjmhnjlalbaaGreat.rdr Go.Proofs.YtdikjmhnjlalbaaGreat.bld Go.Proofs.YtdikjmhnjlalbaaGreat.app Go.Proofs.YtdikjmhnjlalbaaGreat.mrk Go.Proofs.YtdikjmhnjlalbaaGreat.ltq Go.Proofs.YtdikjmhnjlalbaaGreat.ltv Go.Proofs.YtdikjmhnjlalbaaGreat.ltp Go.Proofs.YtdikjmhnjlalbaaGreat.lsm Go.Proofs.YtdikjmhnjlalbaaGreat.lsr
set_option linter.unusedVariables false

set_option maxHeartbeats 1000000 in
set_option maxRecDepth 100000 in
theorem no_kind (k f t c : Int) (v : Value) (a b : Bs) (w : World) (hk : isKind k = false) :
    Calls Tryz.prog 15 #[.agg #[.int .i64 k, .int .i64 f, .int .i64 t, .int .i64 c, v, str a, str b]] w fun e w' => e = .returned (.bool false) ∧ Below w.heap.size w w' := by
  have h : k ≠ 1 ∧ k ≠ 2 ∧ k ≠ 3 ∧ k ≠ 4 := by
    unfold isKind at hk
    refine ⟨?_, ?_, ?_, ?_⟩ <;> (rintro rfl; revert hk; decide)
  obtain ⟨h1, h2, h3, h4⟩ := h
  have d1 : (k == 1) = false := by simpa using h1
  have d2 : (k == 2) = false := by simpa using h2
  have d3 : (k == 3) = false := by simpa using h3
  have d4 : (k == 4) = false := by simpa using h4
  clear h1 h2 h3 h4 hk
  go_enter Tryz.func15, Tryz.ntmps15
  go_wp2_with fail
  go_ret
  exact ⟨rfl, new1 _ _⟩

theorem rds_form {w : World} {v : Value} {ls : List Bs} (h : Rds w v ls) : ∃ ad cap, v = .slice ad ls.length cap := by
  rcases h with ⟨rfl, ad, cap, e⟩ | ⟨g, off, cap, e, _⟩ <;> exact ⟨_, _, e⟩

theorem specRight_calls (m : Lt) (v : Value) (w : World) (h : Rds w v m.ps) (hl : m.ps.length ≤ 2000000) (hx : ∀ x ∈ m.ps, x.length ≤ 4000000) (ha : m.a.length ≤ 4000000) (hb : m.b.length ≤ 4000000) :
    Calls Tryz.prog 15 #[.agg (letA m v)] w fun e w' => e = .returned (.bool (right m)) ∧ Below w.heap.size w w' := by
  obtain ⟨k, f, t, c, ps, a, b⟩ := m
  simp only at h hl hx ha hb
  obtain ⟨ad, cap, rfl⟩ := rds_form h
  unfold letA
  simp only
  cases hk : isKind k with
  | false =>
    have e : right ⟨k, f, t, c, ps, a, b⟩ = false := by unfold right; simp [hk]
    rw [e]
    exact no_kind k f t c _ a b w hk
  | true =>
    have hn : k = 1 ∨ k = 2 ∨ k = 3 ∨ k = 4 := by unfold isKind at hk; simp at hk; omega
    have NF := Lib.hid (fun w => l04No_calls f w)
    have NT := Lib.hid (fun w => l04No_calls t w)
    have HR := Lib.hid h
    have HS := Lib.hid hx
    have HN := Lib.hid (rfl : ps.length = ps.length)
    rcases hn with rfl | rfl | rfl | rfl
    · have MC := Lib.hid (fun w => macsS 1 f t c (.slice ad ps.length cap) a b w (.inl rfl) ha hb)
      have e : right ⟨1, f, t, c, ps, a, b⟩ = (endR f && decide (t = 0) && decide (c = 0) && (decide (ps.length = 3) && ps.all okT) && macsR a b) := rfl
      rw [e]
      by_cases f1 : endR f = false
      · rw [f1]; exact no1_nf0 f t c ad _ cap a b w _ _ _ NF NT MC f1
      have f1 : endR f = true := by simpa using f1
      by_cases t1 : t = 0
      · by_cases n1 : ps.length = 3
        · by_cases m1 : macsR a b = false
          · rw [m1, Bool.and_false]; exact no1_nf1_t0_n1_mm0 f t c ad _ cap a b w _ _ _ NF NT MC f1 t1 n1 m1
          · have m1 : macsR a b = true := by simpa using m1
            have := go1 f t c ad _ cap ps a b w _ _ _ NF NT MC HR HS HN hl f1 t1 n1 m1
            rw [f1, m1, decide_eq_true t1, decide_eq_true n1]
            simp only [Bool.true_and, Bool.and_true]
            rw [Bool.and_comm]
            exact this
        · rw [decide_eq_false n1]
          simp only [Bool.false_and, Bool.and_false]
          exact no1_nf1_t0_n0 f t c ad _ cap a b w _ _ _ NF NT MC f1 t1 n1
      · rw [decide_eq_false t1]
        simp only [Bool.and_false, Bool.false_and]
        exact no1_nf1_t1 f t c ad _ cap a b w _ _ _ NF NT MC f1 t1
    · have MC := Lib.hid (fun w => macsS 2 f t c (.slice ad ps.length cap) a b w (.inr rfl) ha hb)
      have e : right ⟨2, f, t, c, ps, a, b⟩ = (endR f && endR t && decide (c = 0) && (decide (ps.length = 2) && ps.all okT) && macsR a b) := rfl
      rw [e]
      by_cases f1 : endR f = false
      · rw [f1]; exact no2_nf0 f t c ad _ cap a b w _ _ _ NF NT MC f1
      have f1 : endR f = true := by simpa using f1
      by_cases t0 : t = 0
      · have : endR t = false := by subst t0; decide
        rw [this]
        simp only [Bool.and_false, Bool.false_and]
        exact no2_nf1_t0 f t c ad _ cap a b w _ _ _ NF NT MC f1 t0
      by_cases t1 : endR t = false
      · have := no2_nf1_t1_nt0 f t c ad _ cap a b w _ _ _ NF NT MC f1 t0 t1
        rw [t1]
        simp only [Bool.and_false, Bool.false_and]
        exact this
      have t1 : endR t = true := by simpa using t1
      by_cases n1 : ps.length = 2
      · by_cases m1 : macsR a b = false
        · rw [m1, Bool.and_false]; exact no2_nf1_t1_nt1_n1_mm0 f t c ad _ cap a b w _ _ _ NF NT MC f1 t0 t1 n1 m1
        · have m1 : macsR a b = true := by simpa using m1
          have := go2 f t c ad _ cap ps a b w _ _ _ NF NT MC HR HS HN hl f1 t0 t1 n1 m1
          rw [f1, m1, t1, decide_eq_true n1]
          simp only [Bool.true_and, Bool.and_true]
          rw [Bool.and_comm]
          exact this
      · rw [decide_eq_false n1]
        simp only [Bool.false_and, Bool.and_false]
        exact no2_nf1_t1_nt1_n0 f t c ad _ cap a b w _ _ _ NF NT MC f1 t0 t1 n1
    · have MC := Lib.hid (fun w => macsD 3 f t c (.slice ad ps.length cap) a b w (.inl rfl))
      have e : right ⟨3, f, t, c, ps, a, b⟩ = (decide (f = 0) && endR t && decide (c = 0) && (decide (ps.length = 1) && ps.all okT) && (decide (a = []) && decide (b = []))) := rfl
      rw [e]
      by_cases f0 : endR f = true
      · have h0 : f ≠ 0 := by rintro rfl; revert f0; decide
        rw [decide_eq_false h0]
        exact no3_nf1 f t c ad _ cap a b w _ _ _ NF NT MC f0
      have f0 : endR f = false := by simpa using f0
      by_cases f1 : f = 0
      · by_cases t0 : t = 0
        · have : endR t = false := by subst t0; decide
          rw [this]
          simp only [Bool.and_false, Bool.false_and]
          exact no3_nf0_f0_t0 f t c ad _ cap a b w _ _ _ NF NT MC f0 f1 t0
        by_cases t1 : endR t = false
        · have := no3_nf0_f0_t1_nt0 f t c ad _ cap a b w _ _ _ NF NT MC f0 f1 t0 t1
          rw [t1]
          simp only [Bool.and_false, Bool.false_and]
          exact this
        have t1 : endR t = true := by simpa using t1
        by_cases n1 : ps.length = 1
        · by_cases m1 : (decide (a = []) && decide (b = [])) = false
          · rw [m1, Bool.and_false]; exact no3_nf0_f0_t1_nt1_n1_mm0 f t c ad _ cap a b w _ _ _ NF NT MC f0 f1 t0 t1 n1 m1
          · have m1 : (decide (a = []) && decide (b = [])) = true := by simpa using m1
            have := go3 f t c ad _ cap ps a b w _ _ _ NF NT MC HR HS HN hl f0 f1 t0 t1 n1 m1
            rw [decide_eq_true f1, m1, t1, decide_eq_true n1]
            simp only [Bool.true_and, Bool.and_true]
            rw [Bool.and_comm]
            exact this
        · rw [decide_eq_false n1]
          simp only [Bool.false_and, Bool.and_false]
          exact no3_nf0_f0_t1_nt1_n0 f t c ad _ cap a b w _ _ _ NF NT MC f0 f1 t0 t1 n1
      · rw [decide_eq_false f1]
        exact no3_nf0_f1 f t c ad _ cap a b w _ _ _ NF NT MC f0 f1
    · have MC := Lib.hid (fun w => macsD 4 f t c (.slice ad ps.length cap) a b w (.inr rfl))
      have e : right ⟨4, f, t, c, ps, a, b⟩ = (decide (f = 0) && endR t && timeR c && (decide (ps.length = 1) && ps.all okT) && (decide (a = []) && decide (b = []))) := rfl
      rw [e]
      by_cases f0 : endR f = true
      · have h0 : f ≠ 0 := by rintro rfl; revert f0; decide
        rw [decide_eq_false h0]
        exact no4_nf1 f t c ad _ cap a b w _ _ _ NF NT MC f0
      have f0 : endR f = false := by simpa using f0
      by_cases f1 : f = 0
      · by_cases t0 : t = 0
        · have : endR t = false := by subst t0; decide
          rw [this]
          simp only [Bool.and_false, Bool.false_and]
          exact no4_nf0_f0_t0 f t c ad _ cap a b w _ _ _ NF NT MC f0 f1 t0
        by_cases t1 : endR t = false
        · have := no4_nf0_f0_t1_nt0 f t c ad _ cap a b w _ _ _ NF NT MC f0 f1 t0 t1
          rw [t1]
          simp only [Bool.and_false, Bool.false_and]
          exact this
        have t1 : endR t = true := by simpa using t1
        by_cases n1 : ps.length = 1
        · by_cases m1 : (decide (a = []) && decide (b = [])) = false
          · rw [m1, Bool.and_false]; exact no4_nf0_f0_t1_nt1_n1_mm0 f t c ad _ cap a b w _ _ _ NF NT MC f0 f1 t0 t1 n1 m1
          · have m1 : (decide (a = []) && decide (b = [])) = true := by simpa using m1
            have := go4 f t c ad _ cap ps a b w _ _ _ NF NT MC HR HS HN hl f0 f1 t0 t1 n1 m1
            rw [decide_eq_true f1, m1, t1, decide_eq_true n1]
            simp only [Bool.true_and, Bool.and_true]
            rw [Bool.and_comm]
            exact this
        · rw [decide_eq_false n1]
          simp only [Bool.false_and, Bool.and_false]
          exact no4_nf0_f0_t1_nt1_n0 f t c ad _ cap a b w _ _ _ NF NT MC f0 f1 t0 t1 n1
      · rw [decide_eq_false f1]
        exact no4_nf0_f1 f t c ad _ cap a b w _ _ _ NF NT MC f0 f1
end Go.Proofs.YtdikjmhnjlalbaaGreat.lsa

/- Mac2Fits of the program. -/
namespace Go.Proofs.YtdikjmhnjlalbaaGreat.fts
open Go.RowKit Go.Proofs.YtdikjmhnjlalbaaGreat.tm Go.Proofs.YtdikjmhnjlalbaaGreat.lib Go.Proofs.YtdikjmhnjlalbaaGreat.rdr Go.Proofs.YtdikjmhnjlalbaaGreat.bld Go.Proofs.YtdikjmhnjlalbaaGreat.app Go.Proofs.YtdikjmhnjlalbaaGreat.mrk Go.Proofs.YtdikjmhnjlalbaaGreat.mrs Go.Proofs.YtdikjmhnjlalbaaGreat.mkp Go.Proofs.YtdikjmhnjlalbaaGreat.ltq Go.Proofs.YtdikjmhnjlalbaaGreat.ltv Go.Proofs.YtdikjmhnjlalbaaGreat.ltp Go.Proofs.YtdikjmhnjlalbaaGreat.lri Go.Proofs.YtdikjmhnjlalbaaGreat.sgi Go.Proofs.YtdikjmhnjlalbaaGreat.sgn
set_option linter.unusedVariables false

theorem strEq (a b : Bs) : (a == b) = decide (a = b) := by rw [Bool.eq_iff_iff]; simp

set_option maxHeartbeats 2000000 in
set_option maxRecDepth 100000 in
theorem fits2_of (m : Lt) (v : Value) (lock : Bs) (w : World) (s : Lt) (c0 : Int) (ad : Option Addr) (n cap : Nat) (hv : v = .slice ad n cap)
    (S : Hid (∀ w', Below w.heap.size w w' → Calls Tryz.prog 41 #[.agg (letA m v), str lock] w' fun e w'' => ∃ u, e = .returned (.agg (outA s u c0)) ∧ Below w'.heap.size w' w'' ∧ Wrs w'' w'.heap.size u s.ps)) :
    Calls Tryz.prog 23 #[.agg (letA m v), str lock] w fun e w' => e = .returned (.bool (decide (c0 = 0) && decide (s.b = m.b))) ∧ Below w.heap.size w w' := by
  obtain ⟨k, f, t, c, ps, a, b⟩ := m
  obtain ⟨k', f', t', c', ps', a', b'⟩ := s
  subst hv
  unfold letA outA at S
  unfold letA
  simp only at S ⊢
  by_cases h0 : c0 = 0
  · subst h0
    simp only [decide_true, Bool.true_and]
    rw [← strEq]
    go_enter Tryz.func23, Tryz.ntmps23
    go_wp2_with fail
    refine (S.out _ (new1 _ _)).mono ?_
    rintro e w1 ⟨u, rfl, hb1, hw1⟩
    obtain ⟨ua, uc, rfl⟩ := rds_form hw1.rds
    have X1 := Lib.hid (keptB (heap_alloc_new w _) hb1)
    have HB1 := Lib.hid ((new1 _ _).trans (hb1.mono (by simp)))
    obtain ⟨p0, p1, p2, p3, p4, p5, p6, pz⟩ := seven X1.out
    clear hb1 hw1
    go_wp2_with fail
    go_ret
    exact ⟨rfl, HB1.out.alloc HB1.out.size _⟩
  · have d0 : (c0 == 0) = false := by simpa using h0
    simp only [decide_eq_false h0, Bool.false_and]
    clear h0
    go_enter Tryz.func23, Tryz.ntmps23
    go_wp2_with fail
    refine (S.out _ (new1 _ _)).mono ?_
    rintro e w1 ⟨u, rfl, hb1, hw1⟩
    obtain ⟨ua, uc, rfl⟩ := rds_form hw1.rds
    have X1 := Lib.hid (keptB (heap_alloc_new w _) hb1)
    have HB1 := Lib.hid ((new1 _ _).trans (hb1.mono (by simp)))
    obtain ⟨p0, p1, p2, p3, p4, p5, p6, pz⟩ := seven X1.out
    clear hb1 hw1
    go_wp2_with fail
    go_ret
    exact ⟨rfl, HB1.out.alloc HB1.out.size _⟩

theorem implFits2_calls (m : Lt) (v : Value) (lock : Bs) (w : World) (h : Rds w v m.ps) (hl : m.ps.length ≤ 2000000) (hx : ∀ x ∈ m.ps, x.length ≤ 4000000) (ha : m.a.length ≤ 4000000) (hb : m.b.length ≤ 4000000) (hlk : lock.length ≤ 4000000) :
    Calls Tryz.prog 23 #[.agg (letA m v), str lock] w fun e w' => e = .returned (.bool (fits2 m lock)) ∧ Below w.heap.size w w' := by
  obtain ⟨ad, cap, hv⟩ := rds_form h
  have := fits2_of m v lock w (twiceR m lock).1 (twiceR m lock).2 ad _ cap hv (Lib.hid fun w' k => implTwice_calls m v lock w' (Rds.below h k) hl hx ha hb hlk)
  rw [fits2_eq] at this
  exact this
end Go.Proofs.YtdikjmhnjlalbaaGreat.fts

/- l04Body and BodyOf of the model. -/
namespace Go.Proofs.YtdikjmhnjlalbaaGreat.bdm
open Go.RowKit Go.Proofs.YtdikjmhnjlalbaaGreat.tm Go.Proofs.YtdikjmhnjlalbaaGreat.lib Go.Proofs.YtdikjmhnjlalbaaGreat.rdr Go.Proofs.YtdikjmhnjlalbaaGreat.bld Go.Proofs.YtdikjmhnjlalbaaGreat.app Go.Proofs.YtdikjmhnjlalbaaGreat.mrk Go.Proofs.YtdikjmhnjlalbaaGreat.ltq Go.Proofs.YtdikjmhnjlalbaaGreat.ltv Go.Proofs.YtdikjmhnjlalbaaGreat.ltp Go.Proofs.YtdikjmhnjlalbaaGreat.lsm Go.Proofs.YtdikjmhnjlalbaaGreat.bdr
set_option linter.unusedVariables false

theorem rds_cell {w : World} {v : Value} {ls : List Bs} (h : Rds w v ls) (hne : ls ≠ []) : ∃ g off cap, v = .slice (some ⟨g, off, none⟩) ls.length cap ∧ g < w.heap.size ∧ ∀ j l, ls[j]? = some l → w.cell? ⟨g, off + j, none⟩ = some (str l) := by
  rcases h with ⟨e, _⟩ | h
  · exact absurd e hne
  · exact h

set_option maxHeartbeats 1000000 in
set_option maxRecDepth 100000 in
theorem body1 (k f t c : Int) (x : Bs) (g off cap : Nat) (a b : Bs) (w : World) (c0 : w.cell? ⟨g, off, none⟩ = some (str x)) (hg : g < w.heap.size) :
    Calls Tryz.prog 44 #[.agg #[.int .i64 k, .int .i64 f, .int .i64 t, .int .i64 c, .slice (some ⟨g, off, none⟩) 1 cap, str a, str b]] w fun e w' => e = .returned (str x) ∧ Below w.heap.size w w' := by
  go_enter Tryz.func44, Tryz.ntmps44
  go_wp2_with fail
  refine wp_loop_rounds 1 ?_
  rw [rounds_succ]
  go_wp2_with fail
  go_ret
  exact ⟨rfl, new1 _ _⟩

set_option maxHeartbeats 1000000 in
set_option maxRecDepth 100000 in
theorem body2 (k f t c : Int) (x y : Bs) (g off cap : Nat) (a b : Bs) (w : World) (c0 : w.cell? ⟨g, off, none⟩ = some (str x)) (c1 : w.cell? ⟨g, off + 1, none⟩ = some (str y)) (hg : g < w.heap.size) (hx : x.length ≤ 3000) (hy : y.length ≤ 3000) :
    Calls Tryz.prog 44 #[.agg #[.int .i64 k, .int .i64 f, .int .i64 t, .int .i64 c, .slice (some ⟨g, off, none⟩) 2 cap, str a, str b]] w fun e w' => e = .returned (str (say oPair [x, y])) ∧ Below w.heap.size w w' := by
  have s1 := fun (w : World) (b : Nat) h0 h1 => ssy.say_two oPair x y b 0 2 w h0 h1 (by decide) (by omega) (by omega)
  obtain ⟨X, hX⟩ : ∃ X, X = say oPair [x, y] := ⟨_, rfl⟩
  simp only [← hX] at s1 ⊢
  have S1 := Lib.hid s1
  unfold oPair at S1
  clear s1 hX hx hy
  go_enter Tryz.func44, Tryz.ntmps44
  go_wp2_with fail
  refine wp_loop_rounds 2 ?_
  rw [rounds_succ]
  go_wp2_with fail
  refine (S1.out _ _ (by simp [go_sem]) (by simp [go_sem])).mono ?_
  rintro e w1 ⟨rfl, hb1⟩
  have HB1 := Lib.hid (((new1 w (.cells #[.int .i64 k, .int .i64 f, .int .i64 t, .int .i64 c, .slice (some ⟨g, off, none⟩) 2 cap, str a, str b] 35)).alloc (by simp) (.cells #[str x, str y] 9)).trans (hb1.mono (by simp; omega)))
  clear hb1
  go_wp2_with fail
  rw [rounds_succ]
  go_wp2_with fail
  go_ret
  exact ⟨rfl, HB1.out⟩

set_option maxHeartbeats 1000000 in
set_option maxRecDepth 100000 in
theorem body3 (k f t c : Int) (x y z : Bs) (g off cap : Nat) (a b : Bs) (w : World) (c0 : w.cell? ⟨g, off, none⟩ = some (str x)) (c1 : w.cell? ⟨g, off + 1, none⟩ = some (str y)) (c2 : w.cell? ⟨g, off + 2, none⟩ = some (str z)) (hg : g < w.heap.size) (hx : x.length ≤ 3000) (hy : y.length ≤ 3000) (hz : z.length ≤ 3000) :
    Calls Tryz.prog 44 #[.agg #[.int .i64 k, .int .i64 f, .int .i64 t, .int .i64 c, .slice (some ⟨g, off, none⟩) 3 cap, str a, str b]] w fun e w' => e = .returned (str (say oPair [x, say oPair [y, z]])) ∧ Below w.heap.size w w' := by
  have s1 := fun (w : World) (b : Nat) h0 h1 => ssy.say_two oPair y z b 0 2 w h0 h1 (by decide) (by omega) (by omega)
  obtain ⟨X, hX⟩ : ∃ X, X = say oPair [y, z] := ⟨_, rfl⟩
  have hXl : X.length ≤ 10000 := by rw [hX]; simp [say, oPair]; omega
  simp only [← hX] at s1 ⊢
  have s2 := fun (w : World) (b : Nat) h0 h1 => ssy.say_two oPair x X b 0 2 w h0 h1 (by decide) (by omega) (by omega)
  obtain ⟨Y, hY⟩ : ∃ Y, Y = say oPair [x, X] := ⟨_, rfl⟩
  simp only [← hY] at s2 ⊢
  have S1 := Lib.hid s1
  have S2 := Lib.hid s2
  unfold oPair at S1 S2
  clear s1 s2 hX hY hx hy hz hXl
  have k0 := fun (w' : World) (h : Below w.heap.size w w') => (h.cell (p := ⟨g, off, none⟩) hg).trans c0
  have K0 := Lib.hid k0
  clear k0
  go_enter Tryz.func44, Tryz.ntmps44
  go_wp2_with fail
  refine wp_loop_rounds 3 ?_
  rw [rounds_succ]
  go_wp2_with fail
  refine (S1.out _ _ (by simp [go_sem]) (by simp [go_sem])).mono ?_
  rintro e w1 ⟨rfl, hb1⟩
  have X1 := keptB (keptB (heap_alloc_new w (.cells #[.int .i64 k, .int .i64 f, .int .i64 t, .int .i64 c, .slice (some ⟨g, off, none⟩) 3 cap, str a, str b] 35)) (new1 _ _)) hb1
  obtain ⟨p0, p1, p2, p3, p4, p5, p6, pz⟩ := seven X1
  have hb := (((new1 w (.cells #[.int .i64 k, .int .i64 f, .int .i64 t, .int .i64 c, .slice (some ⟨g, off, none⟩) 3 cap, str a, str b] 35)).alloc (by simp) (.cells #[str y, str z] 9)).trans (hb1.mono (by simp; omega)))
  have HB1 := Lib.hid hb
  have d0 := K0.out _ hb
  clear hb1 X1 hb
  go_wp2_with fail
  rw [rounds_succ]
  go_wp2_with fail
  refine (S2.out _ _ (by simp [go_sem]) (by simp [go_sem])).mono ?_
  rintro e w2 ⟨rfl, hb2⟩
  have HB2 := Lib.hid ((HB1.out.alloc HB1.out.size (.cells #[str x, str X] 9)).trans (hb2.mono (by have := HB1.out.size; simp; omega)))
  clear hb2
  go_wp2_with fail
  rw [rounds_succ]
  go_wp2_with fail
  go_ret
  exact ⟨rfl, HB2.out⟩

theorem l04Body_calls (m : Lt) (v : Value) (w : World) (h : Rds w v m.ps) (hr : right m = true) :
    Calls Tryz.prog 44 #[.agg (letA m v)] w fun e w' => e = .returned (str (body m.ps)) ∧ Below w.heap.size w w' := by
  obtain ⟨h1, h2⟩ := right_ps hr
  have h3 := parts_pos m.k
  obtain ⟨k, f, t, c, ps, a, b⟩ := m
  unfold letA
  simp only at h h1 h2 h3 ⊢
  have hl : ∀ x ∈ ps, x.length ≤ 3000 := fun x hx => okT_len (List.all_eq_true.1 h1 x hx)
  match ps, h2, hl, h with
  | [], h2, hl, h => simp at h2; omega
  | [x], h2, hl, h =>
    obtain ⟨g, off, cap, rfl, hg, hc⟩ := rds_cell h (by simp)
    exact body1 k f t c x g off cap a b w (hc 0 x rfl) hg
  | [x, y], h2, hl, h =>
    obtain ⟨g, off, cap, rfl, hg, hc⟩ := rds_cell h (by simp)
    exact body2 k f t c x y g off cap a b w (hc 0 x rfl) (hc 1 y rfl) hg (hl x (by simp)) (hl y (by simp))
  | [x, y, z], h2, hl, h =>
    obtain ⟨g, off, cap, rfl, hg, hc⟩ := rds_cell h (by simp)
    exact body3 k f t c x y z g off cap a b w (hc 0 x rfl) (hc 1 y rfl) (hc 2 z rfl) hg (hl x (by simp)) (hl y (by simp)) (hl z (by simp))
  | x :: y :: z :: u :: l, h2, hl, h => simp at h2; omega
end Go.Proofs.YtdikjmhnjlalbaaGreat.bdm
