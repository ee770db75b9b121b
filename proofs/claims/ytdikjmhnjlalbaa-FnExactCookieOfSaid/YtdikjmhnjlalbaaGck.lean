/- Contract of CookieOf of the model. -/
import Derived.Test.YtdikjmhnjlalbaaGcm
import Derived.Test.YtdikjmhnjlalbaaGri
namespace Go.Proofs.Ytdikjmhnjlalbaa.gck
open Go.RowKit Go.Sort Go.Proofs.Ytdikjmhnjlalbaa.tm Go.Proofs.Ytdikjmhnjlalbaa.lib Go.Proofs.Ytdikjmhnjlalbaa.rdr Go.Proofs.Ytdikjmhnjlalbaa.bld Go.Proofs.Ytdikjmhnjlalbaa.mkp Go.Proofs.Ytdikjmhnjlalbaa.ltq Go.Proofs.Ytdikjmhnjlalbaa.ltp Go.Proofs.Ytdikjmhnjlalbaa.gdp Go.Proofs.Ytdikjmhnjlalbaa.rbk Go.Proofs.Ytdikjmhnjlalbaa.gri
set_option linter.unusedVariables false

set_option maxHeartbeats 2000000 in
set_option maxRecDepth 100000 in
theorem specCookie_calls (s : Bs) (a : Ad) (hs : s.length ≤ 4000000) (h1 : a.st.length ≤ 4000000) (h2 : a.hs.length ≤ 4000000) (w : World) :
    Calls Try.prog 31 #[str s, .agg (adA a)] w fun e w' => e = .returned (str (cookieR s a)) ∧ Below w.heap.size w w' := by
  unfold cookieR
  cases hb1 : atomR s with
  | false =>
    have I1 := Lib.hid (satom s hs false hb1)
    rw [if_neg (by simp)]
    obtain ⟨p, q⟩ := a
    unfold adA
    clear hb1 hs h1 h2
    go_enter Try.func31, Try.ntmps31
    go_wp2_with fail
    refine (I1.out _).mono ?_
    rintro e w1 ⟨rfl, rfl⟩
    go_wp2_with fail
    go_ret
    exact ⟨rfl, new1 _ _⟩
  | true =>
    have I1 := Lib.hid (satom s hs true hb1)
    cases hb2 : adR a with
    | false =>
      have I2 := specAddr_calls a h1 h2
      rw [hb2] at I2
      rw [if_neg (by simp)]
      obtain ⟨p, q⟩ := a
      unfold adA at I2 ⊢
      have I2 := Lib.hid I2
      clear hb1 hb2 hs h1 h2
      go_enter Try.func31, Try.ntmps31
      go_wp2_with fail
      refine (I1.out _).mono ?_
      rintro e w1 ⟨rfl, rfl⟩
      go_wp2_with fail
      refine (I2.out _).mono ?_
      rintro e w1 ⟨rfl, hb⟩
      have HB := Lib.hid ((new1 _ _).trans (hb.mono (by simp)))
      clear hb
      go_wp2_with fail
      go_ret
      exact ⟨rfl, HB.out⟩
    | true =>
      have I2 := specAddr_calls a h1 h2
      have I3 := l05Cookie_calls s a (atom8 hb1) (atom8 (ad_atoms hb2).1) (atom8 (ad_atoms hb2).2)
      rw [hb2] at I2
      rw [if_pos (by simp)]
      obtain ⟨C, hC⟩ : ∃ C, C = cookS s a := ⟨_, rfl⟩
      rw [← hC] at I3 ⊢
      obtain ⟨p, q⟩ := a
      unfold adA at I2 I3 ⊢
      have I2 := Lib.hid I2
      have I3 := Lib.hid I3
      clear hb1 hb2 hs h1 h2 hC
      go_enter Try.func31, Try.ntmps31
      go_wp2_with fail
      refine (I1.out _).mono ?_
      rintro e w1 ⟨rfl, rfl⟩
      go_wp2_with fail
      refine (I2.out _).mono ?_
      rintro e w1 ⟨rfl, hb⟩
      have X1 := glh.keptB (heap_alloc_new w _) hb
      obtain ⟨p0, p1, pz⟩ := glh.two X1
      have HB := Lib.hid ((new1 _ _).trans (hb.mono (by simp)))
      clear hb X1
      go_wp2_with fail
      refine (I3.out _).mono ?_
      rintro e w2 ⟨rfl, hb⟩
      have HB2 := Lib.hid (HB.out.trans (hb.mono HB.out.size))
      clear hb
      go_wp2_with fail
      go_ret
      exact ⟨rfl, HB2.out⟩
end Go.Proofs.Ytdikjmhnjlalbaa.gck
