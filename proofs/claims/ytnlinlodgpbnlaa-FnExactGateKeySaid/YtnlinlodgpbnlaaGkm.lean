/- Contract of GateKey of the model. -/
import Derived.Test.YtnlinlodgpbnlaaGky
namespace Go.Proofs.Ytnlinlodgpbnlaa.gky
open Go.RowKit Go.Proofs.Ytnlinlodgpbnlaa.tm Go.Proofs.Ytnlinlodgpbnlaa.lib Go.Proofs.Ytnlinlodgpbnlaa.rdr Go.Proofs.Ytnlinlodgpbnlaa.bld Go.Proofs.Ytnlinlodgpbnlaa.app Go.Proofs.Ytnlinlodgpbnlaa.sop Go.Proofs.Ytnlinlodgpbnlaa.mkp Go.Proofs.Ytnlinlodgpbnlaa.mrk Go.Proofs.Ytnlinlodgpbnlaa.ltp Go.Proofs.Ytnlinlodgpbnlaa.ltq Go.Proofs.Ytnlinlodgpbnlaa.ltv
set_option linter.unusedVariables false

set_option maxHeartbeats 1000000 in
set_option maxRecDepth 100000 in
theorem specGateKey_calls (lock : Bs) (hl : lock.length ≤ 4000000) (w : World) :
    Calls Try.prog 13 #[str lock] w fun e w' => e = .returned (str (gateR lock)) ∧ Below w.heap.size w w' := by
  unfold gateR
  cases h1 : okT lock with
  | false =>
    have c1 := fun w => right_any lock false h1 hl w
    have C1 := Lib.hid c1
    simp only [Bool.false_and, Bool.false_eq_true, if_false]
    clear c1 h1
    go_enter Try.func13, Try.ntmps13
    go_wp2_with fail
    refine (C1.out _).mono ?_
    rintro e w1 ⟨rfl, hb1⟩
    have HB1 := Lib.hid hb1
    clear hb1
    go_wp2_with fail
    go_ret
    exact ⟨rfl, HB1.out⟩
  | true =>
    have hL := okT_len h1
    have hgl := gate_len lock
    simp only [Bool.true_and]
    have c2 := fun w => l04Gate_calls lock (by omega) w
    obtain ⟨G, hG⟩ : ∃ G, G = gate lock := ⟨_, rfl⟩
    rw [← hG] at c2 hgl ⊢
    have c1 := fun w => right_any lock true h1 hl w
    have C1 := Lib.hid c1
    have C2 := Lib.hid c2
    cases h2 : okT G with
    | false =>
      have c3 := fun w => right_any G false h2 (by omega) w
      have C3 := Lib.hid c3
      simp only [Bool.false_eq_true, if_false]
      clear c1 h1 c2 c3 h2 hG
      go_enter Try.func13, Try.ntmps13
      go_wp2_with fail
      refine (C1.out _).mono ?_
      rintro e w1 ⟨rfl, hb1⟩
      have HB1 := Lib.hid hb1
      clear hb1
      go_wp2_with fail
      refine (C2.out _).mono ?_
      rintro e w2 ⟨rfl, hb2⟩
      have HB2 := Lib.hid (HB1.out.trans (hb2.mono HB1.out.size))
      clear hb2
      go_wp2_with fail
      refine (C3.out _).mono ?_
      rintro e w3 ⟨rfl, hb3⟩
      have HB3 := Lib.hid (HB2.out.trans (hb3.mono HB2.out.size))
      clear hb3
      go_wp2_with fail
      go_ret
      exact ⟨rfl, HB3.out⟩
    | true =>
      have c3 := fun w => right_any G true h2 (by omega) w
      have C3 := Lib.hid c3
      simp only [if_true]
      clear c1 h1 c2 c3 h2 hG
      go_enter Try.func13, Try.ntmps13
      go_wp2_with fail
      refine (C1.out _).mono ?_
      rintro e w1 ⟨rfl, hb1⟩
      have HB1 := Lib.hid hb1
      clear hb1
      go_wp2_with fail
      refine (C2.out _).mono ?_
      rintro e w2 ⟨rfl, hb2⟩
      have HB2 := Lib.hid (HB1.out.trans (hb2.mono HB1.out.size))
      clear hb2
      go_wp2_with fail
      refine (C3.out _).mono ?_
      rintro e w3 ⟨rfl, hb3⟩
      have HB3 := Lib.hid (HB2.out.trans (hb3.mono HB2.out.size))
      clear hb3
      go_wp2_with fail
      refine (C2.out _).mono ?_
      rintro e w4 ⟨rfl, hb4⟩
      have HB4 := Lib.hid (HB3.out.trans (hb4.mono HB3.out.size))
      clear hb4
      go_wp2_with fail
      go_ret
      exact ⟨rfl, HB4.out⟩
end Go.Proofs.Ytnlinlodgpbnlaa.gky
