/- LimitAsk of the model, whole; a limit that was made from one that came in lies in a row of its own. -/
import Derived.Test.YtdikjmhnjlalbaaGsa
import Derived.Test.YtdikjmhnjlalbaaLms
import Derived.Test.YtdikjmhnjlalbaaGri
import Derived.Test.YtdikjmhnjlalbaaGjr
import Derived.Test.YtdikjmhnjlalbaaBlo
namespace Go.Proofs.Ytdikjmhnjlalbaa.gsa
open Go.RowKit Go.Sort Go.Maps Go.Proofs.Ytdikjmhnjlalbaa.tm Go.Proofs.Ytdikjmhnjlalbaa.lib Go.Proofs.Ytdikjmhnjlalbaa.rdr Go.Proofs.Ytdikjmhnjlalbaa.bld Go.Proofs.Ytdikjmhnjlalbaa.ltp Go.Proofs.Ytdikjmhnjlalbaa.ato Go.Proofs.Ytdikjmhnjlalbaa.gdp Go.Proofs.Ytdikjmhnjlalbaa.gdm Go.Proofs.Ytdikjmhnjlalbaa.rbk Go.Proofs.Ytdikjmhnjlalbaa.bkr Go.Proofs.Ytdikjmhnjlalbaa.glh Go.Proofs.Ytdikjmhnjlalbaa.gcl Go.Proofs.Ytdikjmhnjlalbaa.blo Go.Proofs.Ytdikjmhnjlalbaa.gic Go.Proofs.Ytdikjmhnjlalbaa.gap Go.Proofs.Ytdikjmhnjlalbaa.gsc
set_option linter.unusedVariables false

/-- A row of buckets that ends where it was made to end. -/
def Fit (w : World) (v : Value) (l : List Bk) : Prop := ∃ g, v = .slice (some ⟨g, 0, none⟩) l.length l.length ∧ g < w.heap.size ∧ ∀ j b, l[j]? = some b → LiesB w g (0 + j * 3) b

theorem fit_of {w : World} {v : Value} {l : List Bk} {g : Nat} (hv : v = .slice (some ⟨g, 0, none⟩) l.length l.length) (hg : g < w.heap.size) (h : Rbk w v l) : Fit w v l := by
  refine ⟨g, hv, hg, ?_⟩
  rcases h with ⟨h0, _⟩ | ⟨g', off', cap', e, hg', hc⟩
  · intro j b hj; rw [h0] at hj; simp at hj
  · rw [hv] at e
    simp only [Value.slice.injEq, Option.some.injEq, Addr.mk.injEq, and_true, true_and] at e
    obtain ⟨⟨e1, e2⟩, _⟩ := e
    subst e1; subst e2
    exact hc
theorem Fit.below {w w' : World} {v : Value} {l : List Bk} (h : Fit w v l) (k : Below w.heap.size w w') : Fit w' v l := by
  obtain ⟨g, e, hg, hc⟩ := h
  exact ⟨g, e, Nat.lt_of_lt_of_le hg k.size, fun j b hj => (hc j b hj).same (k.block g hg)⟩
theorem Fit.rbk {w : World} {v : Value} {l : List Bk} (h : Fit w v l) : Rbk w v l := by
  obtain ⟨g, e, hg, hc⟩ := h
  exact .inr ⟨g, 0, l.length, e, hg, hc⟩

theorem toLimit_own (rate burst : Int) (v : Value) (l : List Bk) (w : World) (h : Rbk w v l) (hl : l.length ≤ 2000000) :
    Calls Try.prog 16 #[.agg (lmA rate burst v)] w fun e w' => ∃ u, e = .returned (.agg (lmA rate burst u)) ∧ Below w.heap.size w w' ∧ Wbk w' w.heap.size u l ∧ Fit w' u l :=
  (toLimit_fit rate burst v l w h hl).mono fun e w' ⟨_, u, h0, hg, h1, h2, h3⟩ => ⟨u, h1, h2, h3, fit_of h0 hg h3.rbk⟩

set_option maxHeartbeats 4000000 in
set_option maxRecDepth 100000 in
theorem specAsk_calls (rate burst now : Int) (v : Value) (l : List Bk) (st : Bs) (w : World) (h : Fit w v l) (hl : l.length ≤ 2000000) (hs : ∀ b ∈ l, b.st.length ≤ 4000000) (hst : st.length ≤ 4000000) :
    Calls Try.prog 19 #[.agg (lmA rate burst v), str st, .int .i64 now] w fun e w' => ∃ u, e = .returned (.agg (loA (asR rate burst l st now).1 (asR rate burst l st now).2.1 u (asR rate burst l st now).2.2.2.1 (asR rate burst l st now).2.2.2.2)) ∧ Below w.heap.size w w' ∧ Wbk w' w.heap.size u (asR rate burst l st now).2.2.1 := by
  have il := fun w' (k : Below w.heap.size w w') => lms.specLim_calls rate burst v l w' (h.below k).rbk hl (fun b hb => by have := hs b hb; omega)
  obtain ⟨g, rfl, hg, hc⟩ := h
  unfold lmA at il ⊢
  obtain ⟨n, hn⟩ : ∃ n, n = l.length := ⟨_, rfl⟩
  rw [← hn] at il ⊢
  have kW := (new1 w (.cells #[.int .i64 rate, .int .i64 burst, .slice (some ⟨g, 0, none⟩) n n] 36)).alloc (by simp) (.cells #[.int .i64 0, .int .i64 0, .slice none 0 0, .bool false, .int .i64 0] 41)
  obtain ⟨x0, x1⟩ := alloc2 w (.cells #[.int .i64 rate, .int .i64 burst, .slice (some ⟨g, 0, none⟩) n n] 36) (.cells #[.int .i64 0, .int .i64 0, .slice none 0 0, .bool false, .int .i64 0] 41)
  have zz : ((w.alloc (.cells #[.int .i64 rate, .int .i64 burst, .slice (some ⟨g, 0, none⟩) n n] 36)).alloc (.cells #[.int .i64 0, .int .i64 0, .slice none 0 0, .bool false, .int .i64 0] 41)).heap.size = w.heap.size + 1 + 1 := by simp
  have Q := And.intro x0 (And.intro x1 (And.intro kW zz))
  clear x0 x1 kW zz
  by_cases h8 : 8000 < st.length
  · have e1 : asR rate burst l st now = (0, 0, [], false, 2) := by unfold asR; rw [if_pos h8]
    rw [e1]
    have d8 : decide ((8000 : Int) < st.length) = true := decide_eq_true (by omega)
    clear il e1 hs hn hl hc h8
    go_enter Try.func19, Try.ntmps19
    go_wp2_with fail
    clear Q
    refine bodyPost_ret (v := .agg #[.int .i64 0, .int .i64 0, .slice none 0 0, .bool false, .int .i64 2]) (by simp [results, Try.results19, go_sem]) rfl ⟨_, rfl, ?_, .inl ⟨rfl, _, _, rfl⟩⟩
    exact (new1 w _).alloc (by simp) _
  have d8 : decide ((8000 : Int) < st.length) = false := decide_eq_false (by omega)
  cases hr : limR rate burst l with
  | false =>
    have e1 : asR rate burst l st now = (0, 0, [], false, 1) := by unfold asR; rw [if_neg h8, hr]; rfl
    rw [e1]
    simp only [hr] at il
    have IL := Lib.hid il
    clear il hr e1 hs hn hl hc h8
    go_enter Try.func19, Try.ntmps19
    go_wp2_with fail
    generalize hW : ((w.alloc (.cells #[.int .i64 rate, .int .i64 burst, .slice (some ⟨g, 0, none⟩) n n] 36)).alloc (.cells #[.int .i64 0, .int .i64 0, .slice none 0 0, .bool false, .int .i64 0] 41)) = W at Q
    obtain ⟨x0, x1, kW, zW⟩ := Q
    refine (IL.out W kW).mono ?_
    rintro e w1 ⟨rfl, hb⟩
    obtain ⟨q0, q1, q2, q3, q4, qz, qf⟩ := five (keptB x1 hb)
    have HB := Lib.hid (kW.trans (hb.mono kW.size))
    clear hb x0 x1 hW kW
    go_wp2_with fail
    refine bodyPost_ret (v := .agg #[.int .i64 0, .int .i64 0, .slice none 0 0, .bool false, .int .i64 1]) (by simp [results, Try.results19, go_sem, q0, q1, q2, q3, q4]) rfl ⟨_, rfl, ?_, .inl ⟨rfl, _, _, rfl⟩⟩
    exact ((((HB.out.setCell (by simp) _).setCell (by simp) _).setCell (by simp) _).setCell (by simp) _).setCell (by simp) _
  | true =>
  simp only [hr] at il
  have IL := Lib.hid il
  cases ha : atomR st with
  | false =>
    have e1 : asR rate burst l st now = (0, 0, [], false, 1) := by unfold asR; rw [if_neg h8, ha, Bool.and_false]; rfl
    rw [e1]
    have I2 := Lib.hid (gri.satom st hst false ha)
    clear il hr e1 hs hn hl hc h8 ha hst
    go_enter Try.func19, Try.ntmps19
    go_wp2_with fail
    generalize hW : ((w.alloc (.cells #[.int .i64 rate, .int .i64 burst, .slice (some ⟨g, 0, none⟩) n n] 36)).alloc (.cells #[.int .i64 0, .int .i64 0, .slice none 0 0, .bool false, .int .i64 0] 41)) = W at Q
    obtain ⟨x0, x1, kW, zW⟩ := Q
    refine (IL.out W kW).mono ?_
    rintro e w1 ⟨rfl, hb⟩
    obtain ⟨q0, q1, q2, q3, q4, qz, qf⟩ := five (keptB x1 hb)
    have HB := Lib.hid (kW.trans (hb.mono kW.size))
    clear hb x0 x1 hW kW
    go_wp2_with fail
    refine (I2.out _).mono ?_
    rintro e w2 ⟨rfl, rfl⟩
    go_wp2_with fail
    refine bodyPost_ret (v := .agg #[.int .i64 0, .int .i64 0, .slice none 0 0, .bool false, .int .i64 1]) (by simp [results, Try.results19, go_sem, q0, q1, q2, q3, q4]) rfl ⟨_, rfl, ?_, .inl ⟨rfl, _, _, rfl⟩⟩
    exact ((((HB.out.setCell (by simp) _).setCell (by simp) _).setCell (by simp) _).setCell (by simp) _).setCell (by simp) _
  | true =>
  have I2 := Lib.hid (gri.satom st hst true ha)
  have i3 := gjr.l05Time_calls now
  cases ht : timeR now with
  | false =>
    have e1 : asR rate burst l st now = (0, 0, [], false, 1) := by unfold asR; rw [if_neg h8, ht, Bool.and_false]; rfl
    rw [e1]
    rw [ht] at i3
    have I3 := Lib.hid i3
    clear il hr e1 hs hn hl hc h8 ha hst i3 ht
    go_enter Try.func19, Try.ntmps19
    go_wp2_with fail
    generalize hW : ((w.alloc (.cells #[.int .i64 rate, .int .i64 burst, .slice (some ⟨g, 0, none⟩) n n] 36)).alloc (.cells #[.int .i64 0, .int .i64 0, .slice none 0 0, .bool false, .int .i64 0] 41)) = W at Q
    obtain ⟨x0, x1, kW, zW⟩ := Q
    refine (IL.out W kW).mono ?_
    rintro e w1 ⟨rfl, hb⟩
    obtain ⟨q0, q1, q2, q3, q4, qz, qf⟩ := five (keptB x1 hb)
    have HB := Lib.hid (kW.trans (hb.mono kW.size))
    clear hb x0 x1 hW kW
    go_wp2_with fail
    refine (I2.out _).mono ?_
    rintro e w2 ⟨rfl, rfl⟩
    go_wp2_with fail
    refine (I3.out _).mono ?_
    rintro e w3 ⟨rfl, rfl⟩
    go_wp2_with fail
    refine bodyPost_ret (v := .agg #[.int .i64 0, .int .i64 0, .slice none 0 0, .bool false, .int .i64 1]) (by simp [results, Try.results19, go_sem, q0, q1, q2, q3, q4]) rfl ⟨_, rfl, ?_, .inl ⟨rfl, _, _, rfl⟩⟩
    exact ((((HB.out.setCell (by simp) _).setCell (by simp) _).setCell (by simp) _).setCell (by simp) _).setCell (by simp) _
  | true =>
    obtain ⟨A, hA⟩ : ∃ A, A = asR rate burst l st now := ⟨_, rfl⟩
    rw [← hA]
    have hA2 : A = if (askO rate burst l st now).2.2 = 0 then (rate, burst, (askO rate burst l st now).1, (askO rate burst l st now).2.1, 0) else (0, 0, [], false, (askO rate burst l st now).2.2) := by
      rw [hA]; unfold asR; rw [if_neg h8, hr, ha, ht]; rfl
    rw [ht] at i3
    have I3 := Lib.hid i3
    have i4 := fun w' (k : Below w.heap.size w w') => l05Ask_calls rate burst now g 0 n n l st w' hn (Nat.lt_of_lt_of_le hg k.size) (fun j b hj => (hc j b hj).same (k.block g hg)) (Nat.le_refl _) hr ha ht A hA2
    unfold lmA at i4
    obtain ⟨a1, a2, a3, a4, a5⟩ := A
    unfold loA at i4 ⊢
    simp only at i4 ⊢
    have I4 := Lib.hid i4
    clear il hr hs hn hl hc h8 ha hst i3 ht hA hA2 i4
    go_enter Try.func19, Try.ntmps19
    go_wp2_with fail
    generalize hW : ((w.alloc (.cells #[.int .i64 rate, .int .i64 burst, .slice (some ⟨g, 0, none⟩) n n] 36)).alloc (.cells #[.int .i64 0, .int .i64 0, .slice none 0 0, .bool false, .int .i64 0] 41)) = W at Q
    obtain ⟨x0, x1, kW, zW⟩ := Q
    refine (IL.out W kW).mono ?_
    rintro e w1 ⟨rfl, hb⟩
    have Y0 := keptB x0 hb
    obtain ⟨p0, p1, p2, pz⟩ := three Y0
    have HX1 := Lib.hid (keptB x1 hb)
    have HB := Lib.hid (kW.trans (hb.mono kW.size))
    clear hb x0 x1 hW kW Y0
    go_wp2_with fail
    refine (I2.out _).mono ?_
    rintro e w2 ⟨rfl, rfl⟩
    go_wp2_with fail
    refine (I3.out _).mono ?_
    rintro e w3 ⟨rfl, rfl⟩
    go_wp2_with fail
    refine (I4.out _ HB.out).mono ?_
    rintro e w4 ⟨u, rfl, hb, hw⟩
    obtain ⟨ua, uc, hu⟩ := hw.rbk.form
    obtain ⟨m, hm⟩ : ∃ m, m = a3.length := ⟨_, rfl⟩
    rw [← hm] at hu
    subst hu
    obtain ⟨q0, q1, q2, q3, q4, qz, qf⟩ := five (keptB HX1.out hb)
    have HB4 := Lib.hid (HB.out.trans (hb.mono HB.out.size))
    have HW := Lib.hid hw
    have hz := HB.out.size
    have hz1 := (Array.getElem?_eq_some_iff.1 HX1.out).1
    clear hb hw hm
    go_wp2_with fail
    refine bodyPost_ret (v := .agg #[.int .i64 a1, .int .i64 a2, .slice ua m uc, .bool a4, .int .i64 a5]) (by simp [results, Try.results19, go_sem, q0, q1, q2, q3, q4]) rfl ⟨_, rfl, ?_, ?_⟩
    · exact ((((HB4.out.setCell (by simp) _).setCell (by simp) _).setCell (by simp) _).setCell (by simp) _).setCell (by simp) _
    · refine Wbk.base (B := w1.heap.size) ?_ hz
      exact Wbk.set (Wbk.set (Wbk.set (Wbk.set (Wbk.set HW.out (by simp; omega) _) (by simp; omega) _) (by simp; omega) _) (by simp; omega) _) (by simp; omega) _
end Go.Proofs.Ytdikjmhnjlalbaa.gsa
