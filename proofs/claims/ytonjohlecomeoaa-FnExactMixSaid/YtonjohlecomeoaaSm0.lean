/- Mix of the model. -/
import Derived.Test.YtonjohlecomeoaaHd0
import Derived.Test.YtonjohlecomeoaaBlw
import Derived.Test.YtonjohlecomeoaaSay
import Derived.Test.YtonjohlecomeoaaSrt
namespace Go.Proofs.Ytonjohlecomeoaa.smx
open Go.RowKit Go.Proofs.Ytonjohlecomeoaa.tm Go.Proofs.Ytonjohlecomeoaa.lib Go.Proofs.Ytonjohlecomeoaa.rdr Go.Proofs.Ytonjohlecomeoaa.bld Go.Proofs.Ytonjohlecomeoaa.mkp Go.Proofs.Ytonjohlecomeoaa.ltq Go.Proofs.Ytonjohlecomeoaa.ltv Go.Proofs.Ytonjohlecomeoaa.ltp Go.Proofs.Ytonjohlecomeoaa.hdp Go.Proofs.Ytonjohlecomeoaa.blw
set_option linter.unusedVariables false

theorem sright (l : Bs) (b : Bool) (h : okT l = b) (hl : l.length ≤ 4000000) (w : World) :
    Calls Try.prog 17 #[str l] w fun e w' => e = .returned (.bool b) ∧ Below w.heap.size w w' := by
  have := srt.specTermRight_calls ⟨l.toArray⟩ (by unfold maxLen; show l.toArray.size ≤ _; simp; omega) w
  rw [show (term (⟨l.toArray⟩ : ByteArray).data.toList).isSome = b from h] at this
  exact this

theorem mixT_len (c t : Bs) : (mixT c t).length = c.length + t.length + 15 := by simp [mixT, say, oHash, oPair]; omega

set_option maxHeartbeats 1000000 in
set_option maxRecDepth 100000 in
theorem l06Mix_calls (c t : Bs) (hc : c.length ≤ 1000000) (ht : t.length ≤ 1000000) (w : World) :
    Calls Try.prog 18 #[str c, str t] w fun e w' => e = .returned (str (mixT c t)) ∧ Below w.heap.size w w' := by
  unfold mixT
  obtain ⟨P, hP⟩ : ∃ P, P = say oPair [c, t] := ⟨_, rfl⟩
  have hPl : P.length ≤ 4000000 := by rw [hP]; simp [say, oPair]; omega
  have c1 := fun (w : World) (b : Nat) h0 h1 => ssy.say_two oPair c t b 0 2 w h0 h1 (by decide) (by omega) (by omega)
  rw [← hP] at c1 ⊢
  have c2 := fun (w : World) (b : Nat) h0 => ssy.say_one oHash P b 0 1 w h0 (by decide) hPl
  obtain ⟨G, hG⟩ : ∃ G, G = say oHash [P] := ⟨_, rfl⟩
  rw [← hG] at c2 ⊢
  have C1 := Lib.hid c1
  have C2 := Lib.hid c2
  unfold oPair at C1
  unfold oHash at C2
  clear c1 c2 hP hG hPl hc ht
  go_enter Try.func18, Try.ntmps18
  go_wp2_with fail
  refine (on (al0 _) (C1.out _ _ (by simp [go_sem]) (by simp [go_sem]))).mono ?_
  rintro e w1 ⟨rfl, hb1⟩
  have HB1 := Lib.hid hb1
  clear hb1
  go_wp2_with fail
  refine (on (al1 HB1.out _) (C2.out _ _ (by simp [go_sem]))).mono ?_
  rintro e w2 ⟨rfl, hb2⟩
  have HB2 := Lib.hid hb2
  clear hb2
  go_wp2_with fail
  go_ret
  exact ⟨rfl, HB2.out⟩

set_option maxHeartbeats 1000000 in
set_option maxRecDepth 100000 in
theorem specMix_calls (c t : Bs) (hc : c.length ≤ 4000000) (ht : t.length ≤ 4000000) (w : World) :
    Calls Try.prog 5 #[str c, str t] w fun e w' => e = .returned (str (mixR c t)) ∧ Below w.heap.size w w' := by
  unfold mixR
  cases h1 : okT c with
  | false =>
    have c1 := fun w => sright c false h1 hc w
    have C1 := Lib.hid c1
    simp only [Bool.false_and, Bool.false_eq_true, if_false]
    clear c1 h1 hc ht
    go_enter Try.func5, Try.ntmps5
    go_wp2_with fail
    refine (C1.out _).mono ?_
    rintro e w1 ⟨rfl, hb1⟩
    have HB1 := Lib.hid hb1
    clear hb1
    go_wp2_with fail
    go_ret
    exact ⟨rfl, HB1.out⟩
  | true =>
    cases h2 : okT t with
    | false =>
      have c1 := fun w => sright c true h1 hc w
      have c2 := fun w => sright t false h2 ht w
      have C1 := Lib.hid c1
      have C2 := Lib.hid c2
      simp only [Bool.and_false, Bool.false_and, Bool.false_eq_true, if_false]
      clear c1 c2 h1 h2 hc ht
      go_enter Try.func5, Try.ntmps5
      go_wp2_with fail
      refine (C1.out _).mono ?_
      rintro e w1 ⟨rfl, hb1⟩
      have HB1 := Lib.hid hb1
      clear hb1
      go_wp2_with fail
      refine (on HB1.out (C2.out _)).mono ?_
      rintro e w2 ⟨rfl, hb2⟩
      have HB2 := Lib.hid hb2
      clear hb2
      go_wp2_with fail
      go_ret
      exact ⟨rfl, HB2.out⟩
    | true =>
      have l1 := okT_len h1
      have l2 := okT_len h2
      have c1 := fun w => sright c true h1 hc w
      have c2 := fun w => sright t true h2 ht w
      have c3 := fun w => l06Mix_calls c t (by omega) (by omega) w
      have hml := mixT_len c t
      obtain ⟨M, hM⟩ : ∃ M, M = mixT c t := ⟨_, rfl⟩
      rw [← hM] at c3 hml ⊢
      simp only [Bool.true_and]
      have C1 := Lib.hid c1
      have C2 := Lib.hid c2
      have C3 := Lib.hid c3
      cases h3 : okT M with
      | false =>
        have c4 := fun w => sright M false h3 (by omega) w
        have C4 := Lib.hid c4
        simp only [Bool.false_eq_true, if_false]
        clear c1 c2 c3 c4 h1 h2 h3 hc ht hM hml l1 l2
        go_enter Try.func5, Try.ntmps5
        go_wp2_with fail
        refine (C1.out _).mono ?_
        rintro e w1 ⟨rfl, hb1⟩
        have HB1 := Lib.hid hb1
        clear hb1
        go_wp2_with fail
        refine (on HB1.out (C2.out _)).mono ?_
        rintro e w2 ⟨rfl, hb2⟩
        have HB2 := Lib.hid hb2
        clear hb2
        go_wp2_with fail
        refine (on HB2.out (C3.out _)).mono ?_
        rintro e w3 ⟨rfl, hb3⟩
        have HB3 := Lib.hid hb3
        clear hb3
        go_wp2_with fail
        refine (on HB3.out (C4.out _)).mono ?_
        rintro e w4 ⟨rfl, hb4⟩
        have HB4 := Lib.hid hb4
        clear hb4
        go_wp2_with fail
        go_ret
        exact ⟨rfl, HB4.out⟩
      | true =>
        have c4 := fun w => sright M true h3 (by omega) w
        have C4 := Lib.hid c4
        simp only [if_true]
        clear c1 c2 c3 c4 h1 h2 h3 hc ht hM hml l1 l2
        go_enter Try.func5, Try.ntmps5
        go_wp2_with fail
        refine (C1.out _).mono ?_
        rintro e w1 ⟨rfl, hb1⟩
        have HB1 := Lib.hid hb1
        clear hb1
        go_wp2_with fail
        refine (on HB1.out (C2.out _)).mono ?_
        rintro e w2 ⟨rfl, hb2⟩
        have HB2 := Lib.hid hb2
        clear hb2
        go_wp2_with fail
        refine (on HB2.out (C3.out _)).mono ?_
        rintro e w3 ⟨rfl, hb3⟩
        have HB3 := Lib.hid hb3
        clear hb3
        go_wp2_with fail
        refine (on HB3.out (C4.out _)).mono ?_
        rintro e w4 ⟨rfl, hb4⟩
        have HB4 := Lib.hid hb4
        clear hb4
        go_wp2_with fail
        refine (on HB4.out (C3.out _)).mono ?_
        rintro e w5 ⟨rfl, hb5⟩
        have HB5 := Lib.hid hb5
        clear hb5
        go_wp2_with fail
        go_ret
        exact ⟨rfl, HB5.out⟩
end Go.Proofs.Ytonjohlecomeoaa.smx
