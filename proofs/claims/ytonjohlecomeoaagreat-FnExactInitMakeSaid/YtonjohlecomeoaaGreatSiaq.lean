/- InitMake of the model answers initR. -/
import Derived.Test.YtonjohlecomeoaaGreatSigq
namespace Go.Proofs.YtonjohlecomeoaaGreat.sim
open Go.RowKit Go.Proofs.YtonjohlecomeoaaGreat.tm Go.Proofs.YtonjohlecomeoaaGreat.lib Go.Proofs.YtonjohlecomeoaaGreat.rdr Go.Proofs.YtonjohlecomeoaaGreat.bld Go.Proofs.YtonjohlecomeoaaGreat.sop Go.Proofs.YtonjohlecomeoaaGreat.mkp Go.Proofs.YtonjohlecomeoaaGreat.mrk Go.Proofs.YtonjohlecomeoaaGreat.mrs Go.Proofs.YtonjohlecomeoaaGreat.ltq Go.Proofs.YtonjohlecomeoaaGreat.ltv Go.Proofs.YtonjohlecomeoaaGreat.ltp Go.Proofs.YtonjohlecomeoaaGreat.hdp Go.Proofs.YtonjohlecomeoaaGreat.hdv Go.Proofs.YtonjohlecomeoaaGreat.blw Go.Proofs.YtonjohlecomeoaaGreat.smx
set_option linter.unusedVariables false

theorem dh_len {x y : Bs} (h : atomR x = true) (k : atomR y = true) : (dhS x y).length ≤ 22 := by
  obtain ⟨D, _, e, hl, _⟩ := dh_tm h k
  rw [← e]; exact hl
theorem pub_len {x : Bs} (h : atomR x = true) : (say oPub [x]).length ≤ 14 := lock_len (lockS_pub h)
theorem shut_len (x y : Bs) : (say oShut [x, y]).length = x.length + y.length + 8 := by simp [say, oShut]; omega
theorem hash_len (x : Bs) : (say oHash [x]).length = x.length + 7 := by simp [say, oHash]

set_option maxHeartbeats 1000000 in
theorem specInit_calls (f : Int) (me lock eph stamp : Bs) (w : World) (h1 : me.length ≤ 4000000) (h2 : lock.length ≤ 4000000) (h3 : eph.length ≤ 4000000) (h4 : stamp.length ≤ 4000000) :
    Calls Tryz.prog 9 #[.int .i64 f, str me, str lock, str eph, str stamp] w (HEnd (initR f me lock eph stamp) w) := by
  by_cases hb : ¬ (8000 < me.length ∨ 8000 < lock.length ∨ 8000 < eph.length ∨ 8000 < stamp.length) → (endR f && atomR me && (lockS lock).isSome && atomR eph && okT stamp) = false
  · exact bad_calls f me lock eph stamp w h1 h2 h3 h4 hb
  obtain ⟨hs, hb⟩ := Classical.not_imp.1 hb
  simp only [Bool.not_eq_false, Bool.and_eq_true] at hb
  obtain ⟨⟨⟨⟨g1, g2⟩, g3⟩, g4⟩, g5⟩ := hb
  obtain ⟨s, hl⟩ := Option.isSome_iff_exists.1 g3
  rw [initR_ok hs g1 g2 hl g4 g5]
  have dF : ∀ {l : Bs}, ¬ 8000 < l.length → decide (8000 < (l.length : Int)) = false := fun h => by simp; omega
  have ll := lock_len hl
  obtain ⟨_, sA, _⟩ := lock_tx hl
  have lm := atomR_len g2
  have le := atomR_len g4
  have lt := okT_len g5
  have lp := pub_len g4
  have lq := pub_len g2
  have ld := dh_len g4 sA
  have ld2 := dh_len g2 sA
  have lh := hash_len lock
  have l1 : (ic1 lock eph).length ≤ 60 := by unfold ic1; rw [mixT_len]; omega
  have l2 : (ic2 lock eph s).length ≤ 100 := by unfold ic2; rw [mixT_len]; omega
  have l3 : (ic3 lock eph me s).length ≤ 140 := by unfold ic3; rw [mixT_len]; omega
  have lA := shut_len (ic2 lock eph s) (say oPub [me])
  have lB := shut_len (ic3 lock eph me s) stamp
  have hps : ∀ x ∈ (initL f me lock eph stamp s).ps, x.length ≤ 4000000 := by
    intro x hx
    simp only [initL, List.mem_cons, List.not_mem_nil, or_false] at hx
    rcases hx with rfl | rfl | rfl <;> omega
  have N : Gives 37 #[.int .i64 f] (.bool true) := fun w => by have := lsm.l04No_calls f w; rw [g1] at this; exact this
  have M : Gives 38 #[str me] (.bool true) := fun w => still (Below.refl _ _) (atom_calls me _ h1 g2 w)
  have L : Gives 39 #[str lock] (.bool true) := fun w => l06Lock_calls lock h2 _ g3 w
  have E : Gives 38 #[str eph] (.bool true) := fun w => still (Below.refl _ _) (atom_calls eph _ h3 g4 w)
  have S : Gives 40 #[str stamp] (.bool true) := fun w => gky.right_any stamp _ g5 h4 w
  have HH := fun (w : World) (b : Nat) h0 => ssy.say_one oHash lock b 0 1 w h0 (by decide) h2
  have PU : Gives 43 #[str eph] (str (say oPub [eph])) := fun w => l06Pub_calls eph h3 w
  have MA : Gives 41 #[str (say oHash [lock]), str (say oPub [eph])] (str (ic1 lock eph)) := fun w => l06Mix_calls _ _ (by omega) (by omega) w
  have DA : Gives 44 #[str eph, str lock] (str (dhS eph s)) := fun w => l06Dh_calls eph lock s hl h3 w
  have MB : Gives 41 #[str (ic1 lock eph), str (dhS eph s)] (str (ic2 lock eph s)) := fun w => l06Mix_calls _ _ (by omega) (by omega) w
  have DB : Gives 44 #[str me, str lock] (str (dhS me s)) := fun w => l06Dh_calls me lock s hl h1 w
  have MC : Gives 41 #[str (ic2 lock eph s), str (dhS me s)] (str (ic3 lock eph me s)) := fun w => l06Mix_calls _ _ (by omega) (by omega) w
  have PV : Gives 43 #[str me] (str (say oPub [me])) := fun w => l06Pub_calls me h1 w
  have SA := fun (w : World) (b : Nat) h0 h1 => ssy.say_two oShut (ic2 lock eph s) (say oPub [me]) b 0 2 w h0 h1 (by decide) (by omega) (by omega)
  have SB := fun (w : World) (b : Nat) h0 h1 => ssy.say_two oShut (ic3 lock eph me s) stamp b 0 2 w h0 h1 (by decide) (by omega) (by omega)
  have LR := fun w v (h : Rds w v (initL f me lock eph stamp s).ps) => lsa.specRight_calls (initL f me lock eph stamp s) v w h (by simp [initL]) hps (by simp [initL]) (by simp [initL])
  have SG := fun w v (h : Rds w v (initL f me lock eph stamp s).ps) => sgx.specSign_calls (initL f me lock eph stamp s) v lock w h (by simp [initL]) hps (by simp [initL]) (by simp [initL]) h2
  unfold initMade
  cases hR : right (initL f me lock eph stamp s) with
  | false =>
    simp only [Bool.false_and, Bool.false_eq_true, if_false]
    simp only [hR] at LR
    exact good_no f me lock eph stamp _ _ _ _ _ _ _ _ _ _ w (dF (by omega)) (dF (by omega)) (dF (by omega)) (dF (by omega)) N M L E S HH PU MA DA MB DB MC PV SA SB LR
  | true =>
    simp only [Bool.true_and]
    simp only [hR] at LR
    generalize signR (initL f me lock eph stamp s) lock = y at SG ⊢
    obtain ⟨⟨k', f', t', c', ps, a', b'⟩, yc⟩ := y
    simp only at SG ⊢
    have SG' : ∀ w v, Rds w v (initL f me lock eph stamp s).ps → Calls Tryz.prog 46 #[.agg (letA (initL f me lock eph stamp s) v), str lock] w fun e w' => ∃ au nu cu, e = .returned (.agg #[.int .i64 k', .int .i64 f', .int .i64 t', .int .i64 c', .slice au nu cu, str a', str b', .int .i64 yc]) ∧ Below w.heap.size w w' ∧ Wrs w' w.heap.size (.slice au nu cu) ps := fun w v h => (SG w v h).mono (by
      rintro e w' ⟨u, rfl, hb, hw⟩
      obtain ⟨a, n, c, rfl⟩ := tell hw
      exact ⟨a, n, c, rfl, hb, hw⟩)
    by_cases hc : yc = 0
    · subst hc
      simp only [decide_true, if_true]
      exact good_yes f me lock eph stamp _ _ _ _ _ _ _ _ _ _ k' f' t' c' ps a' b' w (dF (by omega)) (dF (by omega)) (dF (by omega)) (dF (by omega)) N M L E S HH PU MA DA MB DB MC PV SA SB LR SG'
    · simp only [hc, decide_false, Bool.false_eq_true, if_false]
      exact good_code f me lock eph stamp _ _ _ _ _ _ _ _ _ _ k' f' t' c' yc ps a' b' w (dF (by omega)) (dF (by omega)) (dF (by omega)) (dF (by omega)) N M L E S HH PU MA DA MB DB MC PV SA SB LR SG' (by rw [beq_eq_false_iff_ne]; exact hc)
end Go.Proofs.YtonjohlecomeoaaGreat.sim
