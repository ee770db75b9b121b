/- Contract of CookieOf of the program. -/
import Derived.Test.YtdikjmhnjlalbaaGcp
import Derived.Test.YtdikjmhnjlalbaaMdo
import Derived.Test.YtdikjmhnjlalbaaGl0
import Derived.Test.YtdikjmhnjlalbaaGri
namespace Go.Proofs.Ytdikjmhnjlalbaa.gck
open Go.RowKit Go.Sort Go.Proofs.Ytdikjmhnjlalbaa.tm Go.Proofs.Ytdikjmhnjlalbaa.lib Go.Proofs.Ytdikjmhnjlalbaa.rdr Go.Proofs.Ytdikjmhnjlalbaa.bld Go.Proofs.Ytdikjmhnjlalbaa.app Go.Proofs.Ytdikjmhnjlalbaa.mrk Go.Proofs.Ytdikjmhnjlalbaa.mkp Go.Proofs.Ytdikjmhnjlalbaa.ltq Go.Proofs.Ytdikjmhnjlalbaa.ltp Go.Proofs.Ytdikjmhnjlalbaa.gky Go.Proofs.Ytdikjmhnjlalbaa.gdp Go.Proofs.Ytdikjmhnjlalbaa.rbk Go.Proofs.Ytdikjmhnjlalbaa.gri
set_option linter.unusedVariables false

set_option maxHeartbeats 2000000 in
set_option maxRecDepth 100000 in
theorem implCookie_calls (s : Bs) (a : Ad) (hs : s.length ≤ 4000000) (h1 : a.st.length ≤ 4000000) (h2 : a.hs.length ≤ 4000000) (w : World) :
    Calls Try.prog 32 #[str s, .agg (adA a)] w fun e w' => e = .returned (str (cookieR s a)) ∧ Below w.heap.size w w' := by
  unfold cookieR
  cases hb1 : atomR s with
  | false =>
    have I1 := Lib.hid (iatom s hs false hb1)
    rw [if_neg (by simp)]
    obtain ⟨p, q⟩ := a
    unfold adA
    clear hb1 hs h1 h2
    go_enter Try.func32, Try.ntmps32
    go_wp2_with fail
    refine (I1.out _).mono ?_
    rintro e w1 ⟨rfl, rfl⟩
    go_wp2_with fail
    go_ret
    exact ⟨rfl, new1 _ _⟩
  | true =>
    have I1 := Lib.hid (iatom s hs true hb1)
    cases hb2 : adR a with
    | false =>
      have I2 := implAddr_calls a h1 h2
      rw [hb2] at I2
      rw [if_neg (by simp)]
      obtain ⟨p, q⟩ := a
      unfold adA at I2 ⊢
      have I2 := Lib.hid I2
      clear hb1 hb2 hs h1 h2
      go_enter Try.func32, Try.ntmps32
      go_wp2_with fail
      refine (I1.out _).mono ?_
      rintro e w1 ⟨rfl, rfl⟩
      go_wp2_with fail
      refine (I2.out _).mono ?_
      rintro e w1 ⟨rfl, hb⟩
      have HB := Lib.hid ((new1 _ _).trans (hb.mono (by simp)))
      clear hb
      go_wp2_with fail
      go_ret
      exact ⟨rfl, HB.out⟩
    | true =>
      have I2 := implAddr_calls a h1 h2
      have hpl := pair_len hb2
      have c1 := fun (w : World) (b : Nat) k0 k1 kb => madeTwo oPair a.st a.hs b 2 w k0 k1 kb (by decide) h1 h2 (pairS a) (pair_made hb2)
      have c2 := fun (w : World) (b : Nat) k0 k1 kb => madeTwo oMac s (pairS a) b 2 w k0 k1 kb (by decide) hs (by omega) (cookS s a) (cook_made hb1 hb2)
      rw [hb2] at I2
      rw [if_pos (by simp)]
      obtain ⟨C, hC⟩ : ∃ C, C = cookS s a := ⟨_, rfl⟩
      obtain ⟨P, hP⟩ : ∃ P, P = pairS a := ⟨_, rfl⟩
      rw [← hC] at c2 ⊢
      rw [← hP] at c1 c2
      obtain ⟨p, q⟩ := a
      unfold adA at I2 ⊢
      simp only at c1
      have I2 := Lib.hid I2
      have C1 := Lib.hid c1
      have C2 := Lib.hid c2
      unfold oPair at C1
      unfold oMac at C2
      clear hb1 hb2 hs h1 h2 hC hP c1 c2 hpl
      go_enter Try.func32, Try.ntmps32
      go_wp2_with fail
      refine (I1.out _).mono ?_
      rintro e w1 ⟨rfl, rfl⟩
      go_wp2_with fail
      refine (I2.out _).mono ?_
      rintro e w1 ⟨rfl, hb⟩
      have X1 := glh.keptB (heap_alloc_new w _) hb
      obtain ⟨p0, p1, pz⟩ := glh.two X1
      have HB := Lib.hid ((new1 _ _).trans (hb.mono (by simp)))
      clear hb X1
      go_wp2_with fail
      refine (C1.out _ _ (by simp [go_sem]) (by simp [go_sem]) (by simp)).mono ?_
      rintro e w2 ⟨rfl, hb⟩
      have HB2 := Lib.hid ((HB.out.alloc HB.out.size _).trans (hb.mono (by have := HB.out.size; simp; omega)))
      clear hb
      go_wp2_with fail
      refine (C2.out _ _ (by simp [go_sem]) (by simp [go_sem]) (by simp)).mono ?_
      rintro e w3 ⟨rfl, hb⟩
      have HB3 := Lib.hid ((HB2.out.alloc HB2.out.size _).trans (hb.mono (by have := HB2.out.size; simp; omega)))
      clear hb
      go_wp2_with fail
      go_ret
      exact ⟨rfl, HB3.out⟩
end Go.Proofs.Ytdikjmhnjlalbaa.gck
