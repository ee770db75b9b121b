/- Contract of l05Cookie of the model. -/
import Derived.Test.YtdikjmhnjlalbaaGcp
import Derived.Test.YtdikjmhnjlalbaaSay
import Derived.Test.YtdikjmhnjlalbaaGl0
import Derived.Test.YtdikjmhnjlalbaaGat
namespace Go.Proofs.Ytdikjmhnjlalbaa.gck
open Go.RowKit Go.Sort Go.Proofs.Ytdikjmhnjlalbaa.tm Go.Proofs.Ytdikjmhnjlalbaa.lib Go.Proofs.Ytdikjmhnjlalbaa.rdr Go.Proofs.Ytdikjmhnjlalbaa.bld Go.Proofs.Ytdikjmhnjlalbaa.mkp Go.Proofs.Ytdikjmhnjlalbaa.ltq Go.Proofs.Ytdikjmhnjlalbaa.ltp Go.Proofs.Ytdikjmhnjlalbaa.gdp Go.Proofs.Ytdikjmhnjlalbaa.rbk Go.Proofs.Ytdikjmhnjlalbaa.gri
set_option linter.unusedVariables false

set_option maxHeartbeats 1000000 in
set_option maxRecDepth 100000 in
theorem l05Cookie_calls (s : Bs) (a : Ad) (hs : s.length ≤ 100000) (h1 : a.st.length ≤ 100000) (h2 : a.hs.length ≤ 100000) (w : World) :
    Calls Try.prog 58 #[str s, .agg (adA a)] w fun e w' => e = .returned (str (cookS s a)) ∧ Below w.heap.size w w' := by
  obtain ⟨p, q⟩ := a
  unfold adA cookS pairS
  simp only at h1 h2 ⊢
  obtain ⟨P, hP⟩ : ∃ P, P = say oPair [p, q] := ⟨_, rfl⟩
  have hPl : P.length ≤ 4000000 := by rw [hP]; simp [say, oPair]; omega
  have c1 := fun (w : World) (b : Nat) h0 h1 => ssy.say_two oPair p q b 0 2 w h0 h1 (by decide) (by omega) (by omega)
  rw [← hP] at c1 ⊢
  have c2 := fun (w : World) (b : Nat) h0 h1 => ssy.say_two oMac s P b 0 2 w h0 h1 (by decide) (by omega) hPl
  obtain ⟨G, hG⟩ : ∃ G, G = say oMac [s, P] := ⟨_, rfl⟩
  rw [← hG] at c2 ⊢
  have C1 := Lib.hid c1
  have C2 := Lib.hid c2
  unfold oPair at C1
  unfold oMac at C2
  clear c1 c2 hP hG hPl hs h1 h2
  go_enter Try.func58, Try.ntmps58
  go_wp2_with fail
  refine (C1.out _ _ (by simp [go_sem]) (by simp [go_sem])).mono ?_
  rintro e w1 ⟨rfl, hb1⟩
  have HB1 := Lib.hid ((((Below.refl _ w).alloc (Nat.le_refl _) _).alloc (by simp) _).trans (hb1.mono (by simp; omega)))
  clear hb1
  go_wp2_with fail
  refine (C2.out _ _ (by simp [go_sem]) (by simp [go_sem])).mono ?_
  rintro e w2 ⟨rfl, hb2⟩
  have HB2 := Lib.hid ((HB1.out.alloc HB1.out.size _).trans (hb2.mono (by have := HB1.out.size; simp; omega)))
  clear hb2
  go_wp2_with fail
  go_ret
  exact ⟨rfl, HB2.out⟩
end Go.Proofs.Ytdikjmhnjlalbaa.gck
