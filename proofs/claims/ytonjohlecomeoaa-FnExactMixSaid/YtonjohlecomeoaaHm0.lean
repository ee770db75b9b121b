/- Mix of the program. -/
import Derived.Test.YtonjohlecomeoaaHd0
import Derived.Test.YtonjohlecomeoaaBlw
import Derived.Test.YtonjohlecomeoaaMdo
namespace Go.Proofs.Ytonjohlecomeoaa.hmi
open Go.RowKit Go.Proofs.Ytonjohlecomeoaa.tm Go.Proofs.Ytonjohlecomeoaa.lib Go.Proofs.Ytonjohlecomeoaa.rdr Go.Proofs.Ytonjohlecomeoaa.bld Go.Proofs.Ytonjohlecomeoaa.mkp Go.Proofs.Ytonjohlecomeoaa.mrk Go.Proofs.Ytonjohlecomeoaa.ltq Go.Proofs.Ytonjohlecomeoaa.ltv Go.Proofs.Ytonjohlecomeoaa.ltp Go.Proofs.Ytonjohlecomeoaa.hdp Go.Proofs.Ytonjohlecomeoaa.blw Go.Proofs.Ytonjohlecomeoaa.gky
set_option linter.unusedVariables false

set_option maxHeartbeats 1000000 in
set_option maxRecDepth 100000 in
theorem implMix_calls (c t : Bs) (hc : c.length ≤ 4000000) (ht : t.length ≤ 4000000) (w : World) :
    Calls Try.prog 6 #[str c, str t] w fun e w' => e = .returned (str (mixR c t)) ∧ Below w.heap.size w w' := by
  rw [← mix_made c t]
  obtain ⟨P, hP⟩ : ∃ P, (makeR oPair [c, t]).1 = P := ⟨_, rfl⟩
  rw [hP]
  have hPl : P.length ≤ 4000000 := by have := made_len oPair [c, t]; rw [hP] at this; omega
  obtain ⟨G, hG⟩ : ∃ G, (makeR oHash [P]).1 = G := ⟨_, rfl⟩
  rw [hG]
  have c1 := fun (w : World) (b : Nat) h0 h1 hb => madeTwo oPair c t b 2 w h0 h1 hb (by decide) hc ht P hP
  have c2 := fun (w : World) (b : Nat) h0 hb => madeOne oHash P b 1 w h0 hb (by decide) hPl G hG
  have C1 := Lib.hid c1
  have C2 := Lib.hid c2
  unfold oPair at C1
  unfold oHash at C2
  clear c1 c2 hP hG hPl hc ht
  go_enter Try.func6, Try.ntmps6
  go_wp2_with fail
  refine (on (al0 _) (C1.out _ _ (by simp [go_sem]) (by simp [go_sem]) (by simp))).mono ?_
  rintro e w1 ⟨rfl, hb1⟩
  have HB1 := Lib.hid hb1
  clear hb1
  go_wp2_with fail
  refine (on (al1 HB1.out _) (C2.out _ _ (by simp [go_sem]) (by simp))).mono ?_
  rintro e w2 ⟨rfl, hb2⟩
  have HB2 := Lib.hid hb2
  clear hb2
  go_wp2_with fail
  go_ret
  exact ⟨rfl, HB2.out⟩
end Go.Proofs.Ytonjohlecomeoaa.hmi
