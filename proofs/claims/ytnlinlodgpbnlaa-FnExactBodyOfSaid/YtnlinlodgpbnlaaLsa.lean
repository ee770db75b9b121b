/- LetterRight of the model, all ways. -/
import Derived.Test.YtnlinlodgpbnlaaLsr1
import Derived.Test.YtnlinlodgpbnlaaLsr2
import Derived.Test.YtnlinlodgpbnlaaLsr3
import Derived.Test.YtnlinlodgpbnlaaLsr4
namespace Go.Proofs.Ytnlinlodgpbnlaa.lsa
open Go.RowKit Go.Sort Go.Proofs.Ytnlinlodgpbnlaa.tm Go.Proofs.Ytnlinlodgpbnlaa.lib Go.Proofs.Ytnlinlodgpbnlaa.rdr Go.Proofs.Ytnlinlodgpbnlaa.bld Go.Proofs.Ytnlinlodgpbnlaa.app Go.Proofs.Ytnlinlodgpbnlaa.mrk Go.Proofs.Ytnlinlodgpbnlaa.ltq Go.Proofs.Ytnlinlodgpbnlaa.ltv Go.Proofs.Ytnlinlodgpbnlaa.ltp Go.Proofs.Ytnlinlodgpbnlaa.lsm Go.Proofs.Ytnlinlodgpbnlaa.lsr
set_option linter.unusedVariables false

set_option maxHeartbeats 1000000 in
set_option maxRecDepth 100000 in
theorem no_kind (k f t c : Int) (v : Value) (a b : Bs) (w : World) (hk : isKind k = false) :
    Calls Try.prog 7 #[.agg #[.int .i64 k, .int .i64 f, .int .i64 t, .int .i64 c, v, str a, str b]] w fun e w' => e = .returned (.bool false) ∧ Below w.heap.size w w' := by
  have h : k ≠ 1 ∧ k ≠ 2 ∧ k ≠ 3 ∧ k ≠ 4 := by
    unfold isKind at hk
    refine ⟨?_, ?_, ?_, ?_⟩ <;> (rintro rfl; revert hk; decide)
  obtain ⟨h1, h2, h3, h4⟩ := h
  have d1 : (k == 1) = false := by simpa using h1
  have d2 : (k == 2) = false := by simpa using h2
  have d3 : (k == 3) = false := by simpa using h3
  have d4 : (k == 4) = false := by simpa using h4
  clear h1 h2 h3 h4 hk
  go_enter Try.func7, Try.ntmps7
  go_wp2_with fail
  go_ret
  exact ⟨rfl, new1 _ _⟩

theorem rds_form {w : World} {v : Value} {ls : List Bs} (h : Rds w v ls) : ∃ ad cap, v = .slice ad ls.length cap := by
  rcases h with ⟨rfl, ad, cap, e⟩ | ⟨g, off, cap, e, _⟩ <;> exact ⟨_, _, e⟩

theorem specRight_calls (m : Lt) (v : Value) (w : World) (h : Rds w v m.ps) (hl : m.ps.length ≤ 2000000) (hx : ∀ x ∈ m.ps, x.length ≤ 4000000) (ha : m.a.length ≤ 4000000) (hb : m.b.length ≤ 4000000) :
    Calls Try.prog 7 #[.agg (letA m v)] w fun e w' => e = .returned (.bool (right m)) ∧ Below w.heap.size w w' := by
  obtain ⟨k, f, t, c, ps, a, b⟩ := m
  simp only at h hl hx ha hb
  obtain ⟨ad, cap, rfl⟩ := rds_form h
  unfold letA
  simp only
  cases hk : isKind k with
  | false =>
    have e : right ⟨k, f, t, c, ps, a, b⟩ = false := by unfold right; simp [hk]
    rw [e]
    exact no_kind k f t c _ a b w hk
  | true =>
    have hn : k = 1 ∨ k = 2 ∨ k = 3 ∨ k = 4 := by unfold isKind at hk; simp at hk; omega
    have NF := Lib.hid (fun w => l04No_calls f w)
    have NT := Lib.hid (fun w => l04No_calls t w)
    have HR := Lib.hid h
    have HS := Lib.hid hx
    have HN := Lib.hid (rfl : ps.length = ps.length)
    rcases hn with rfl | rfl | rfl | rfl
    · have MC := Lib.hid (fun w => macsS 1 f t c (.slice ad ps.length cap) a b w (.inl rfl) ha hb)
      have e : right ⟨1, f, t, c, ps, a, b⟩ = (endR f && decide (t = 0) && decide (c = 0) && (decide (ps.length = 3) && ps.all okT) && macsR a b) := rfl
      rw [e]
      by_cases f1 : endR f = false
      · rw [f1]; exact no1_nf0 f t c ad _ cap a b w _ _ _ NF NT MC f1
      have f1 : endR f = true := by simpa using f1
      by_cases t1 : t = 0
      · by_cases n1 : ps.length = 3
        · by_cases m1 : macsR a b = false
          · rw [m1, Bool.and_false]; exact no1_nf1_t0_n1_mm0 f t c ad _ cap a b w _ _ _ NF NT MC f1 t1 n1 m1
          · have m1 : macsR a b = true := by simpa using m1
            have := go1 f t c ad _ cap ps a b w _ _ _ NF NT MC HR HS HN hl f1 t1 n1 m1
            rw [f1, m1, decide_eq_true t1, decide_eq_true n1]
            simp only [Bool.true_and, Bool.and_true]
            rw [Bool.and_comm]
            exact this
        · rw [decide_eq_false n1]
          simp only [Bool.false_and, Bool.and_false]
          exact no1_nf1_t0_n0 f t c ad _ cap a b w _ _ _ NF NT MC f1 t1 n1
      · rw [decide_eq_false t1]
        simp only [Bool.and_false, Bool.false_and]
        exact no1_nf1_t1 f t c ad _ cap a b w _ _ _ NF NT MC f1 t1
    · have MC := Lib.hid (fun w => macsS 2 f t c (.slice ad ps.length cap) a b w (.inr rfl) ha hb)
      have e : right ⟨2, f, t, c, ps, a, b⟩ = (endR f && endR t && decide (c = 0) && (decide (ps.length = 2) && ps.all okT) && macsR a b) := rfl
      rw [e]
      by_cases f1 : endR f = false
      · rw [f1]; exact no2_nf0 f t c ad _ cap a b w _ _ _ NF NT MC f1
      have f1 : endR f = true := by simpa using f1
      by_cases t0 : t = 0
      · have : endR t = false := by subst t0; decide
        rw [this]
        simp only [Bool.and_false, Bool.false_and]
        exact no2_nf1_t0 f t c ad _ cap a b w _ _ _ NF NT MC f1 t0
      by_cases t1 : endR t = false
      · have := no2_nf1_t1_nt0 f t c ad _ cap a b w _ _ _ NF NT MC f1 t0 t1
        rw [t1]
        simp only [Bool.and_false, Bool.false_and]
        exact this
      have t1 : endR t = true := by simpa using t1
      by_cases n1 : ps.length = 2
      · by_cases m1 : macsR a b = false
        · rw [m1, Bool.and_false]; exact no2_nf1_t1_nt1_n1_mm0 f t c ad _ cap a b w _ _ _ NF NT MC f1 t0 t1 n1 m1
        · have m1 : macsR a b = true := by simpa using m1
          have := go2 f t c ad _ cap ps a b w _ _ _ NF NT MC HR HS HN hl f1 t0 t1 n1 m1
          rw [f1, m1, t1, decide_eq_true n1]
          simp only [Bool.true_and, Bool.and_true]
          rw [Bool.and_comm]
          exact this
      · rw [decide_eq_false n1]
        simp only [Bool.false_and, Bool.and_false]
        exact no2_nf1_t1_nt1_n0 f t c ad _ cap a b w _ _ _ NF NT MC f1 t0 t1 n1
    · have MC := Lib.hid (fun w => macsD 3 f t c (.slice ad ps.length cap) a b w (.inl rfl))
      have e : right ⟨3, f, t, c, ps, a, b⟩ = (decide (f = 0) && endR t && decide (c = 0) && (decide (ps.length = 1) && ps.all okT) && (decide (a = []) && decide (b = []))) := rfl
      rw [e]
      by_cases f0 : endR f = true
      · have h0 : f ≠ 0 := by rintro rfl; revert f0; decide
        rw [decide_eq_false h0]
        exact no3_nf1 f t c ad _ cap a b w _ _ _ NF NT MC f0
      have f0 : endR f = false := by simpa using f0
      by_cases f1 : f = 0
      · by_cases t0 : t = 0
        · have : endR t = false := by subst t0; decide
          rw [this]
          simp only [Bool.and_false, Bool.false_and]
          exact no3_nf0_f0_t0 f t c ad _ cap a b w _ _ _ NF NT MC f0 f1 t0
        by_cases t1 : endR t = false
        · have := no3_nf0_f0_t1_nt0 f t c ad _ cap a b w _ _ _ NF NT MC f0 f1 t0 t1
          rw [t1]
          simp only [Bool.and_false, Bool.false_and]
          exact this
        have t1 : endR t = true := by simpa using t1
        by_cases n1 : ps.length = 1
        · by_cases m1 : (decide (a = []) && decide (b = [])) = false
          · rw [m1, Bool.and_false]; exact no3_nf0_f0_t1_nt1_n1_mm0 f t c ad _ cap a b w _ _ _ NF NT MC f0 f1 t0 t1 n1 m1
          · have m1 : (decide (a = []) && decide (b = [])) = true := by simpa using m1
            have := go3 f t c ad _ cap ps a b w _ _ _ NF NT MC HR HS HN hl f0 f1 t0 t1 n1 m1
            rw [decide_eq_true f1, m1, t1, decide_eq_true n1]
            simp only [Bool.true_and, Bool.and_true]
            rw [Bool.and_comm]
            exact this
        · rw [decide_eq_false n1]
          simp only [Bool.false_and, Bool.and_false]
          exact no3_nf0_f0_t1_nt1_n0 f t c ad _ cap a b w _ _ _ NF NT MC f0 f1 t0 t1 n1
      · rw [decide_eq_false f1]
        exact no3_nf0_f1 f t c ad _ cap a b w _ _ _ NF NT MC f0 f1
    · have MC := Lib.hid (fun w => macsD 4 f t c (.slice ad ps.length cap) a b w (.inr rfl))
      have e : right ⟨4, f, t, c, ps, a, b⟩ = (decide (f = 0) && endR t && timeR c && (decide (ps.length = 1) && ps.all okT) && (decide (a = []) && decide (b = []))) := rfl
      rw [e]
      by_cases f0 : endR f = true
      · have h0 : f ≠ 0 := by rintro rfl; revert f0; decide
        rw [decide_eq_false h0]
        exact no4_nf1 f t c ad _ cap a b w _ _ _ NF NT MC f0
      have f0 : endR f = false := by simpa using f0
      by_cases f1 : f = 0
      · by_cases t0 : t = 0
        · have : endR t = false := by subst t0; decide
          rw [this]
          simp only [Bool.and_false, Bool.false_and]
          exact no4_nf0_f0_t0 f t c ad _ cap a b w _ _ _ NF NT MC f0 f1 t0
        by_cases t1 : endR t = false
        · have := no4_nf0_f0_t1_nt0 f t c ad _ cap a b w _ _ _ NF NT MC f0 f1 t0 t1
          rw [t1]
          simp only [Bool.and_false, Bool.false_and]
          exact this
        have t1 : endR t = true := by simpa using t1
        by_cases n1 : ps.length = 1
        · by_cases m1 : (decide (a = []) && decide (b = [])) = false
          · rw [m1, Bool.and_false]; exact no4_nf0_f0_t1_nt1_n1_mm0 f t c ad _ cap a b w _ _ _ NF NT MC f0 f1 t0 t1 n1 m1
          · have m1 : (decide (a = []) && decide (b = [])) = true := by simpa using m1
            have := go4 f t c ad _ cap ps a b w _ _ _ NF NT MC HR HS HN hl f0 f1 t0 t1 n1 m1
            rw [decide_eq_true f1, m1, t1, decide_eq_true n1]
            simp only [Bool.true_and, Bool.and_true]
            rw [Bool.and_comm]
            exact this
        · rw [decide_eq_false n1]
          simp only [Bool.false_and, Bool.and_false]
          exact no4_nf0_f0_t1_nt1_n0 f t c ad _ cap a b w _ _ _ NF NT MC f0 f1 t0 t1 n1
      · rw [decide_eq_false f1]
        exact no4_nf0_f1 f t c ad _ cap a b w _ _ _ NF NT MC f0 f1
end Go.Proofs.Ytnlinlodgpbnlaa.lsa
