/- InitMake of the program answers initR. -/
import Derived.Test.YtonjohlecomeoaaGreatIihq
import Derived.Test.YtonjohlecomeoaaGreatQm
namespace Go.Proofs.YtonjohlecomeoaaGreat.iih
open Go.RowKit Go.Proofs.YtonjohlecomeoaaGreat.tm Go.Proofs.YtonjohlecomeoaaGreat.lib Go.Proofs.YtonjohlecomeoaaGreat.rdr Go.Proofs.YtonjohlecomeoaaGreat.bld Go.Proofs.YtonjohlecomeoaaGreat.prs Go.Proofs.YtonjohlecomeoaaGreat.sop Go.Proofs.YtonjohlecomeoaaGreat.mkp Go.Proofs.YtonjohlecomeoaaGreat.mrk Go.Proofs.YtonjohlecomeoaaGreat.mrs Go.Proofs.YtonjohlecomeoaaGreat.ltq Go.Proofs.YtonjohlecomeoaaGreat.ltv Go.Proofs.YtonjohlecomeoaaGreat.ltp Go.Proofs.YtonjohlecomeoaaGreat.trp Go.Proofs.YtonjohlecomeoaaGreat.hdp Go.Proofs.YtonjohlecomeoaaGreat.hdv Go.Proofs.YtonjohlecomeoaaGreat.blw Go.Proofs.YtonjohlecomeoaaGreat.hmi Go.Proofs.YtonjohlecomeoaaGreat.hgo
set_option linter.unusedVariables false

/-- What a closure of a hand ends with. -/
def CEnd (H : Hd) (w : World) (e : Ending) (w' : World) : Prop := (H.code = 0 ∧ HEnd H w e w') ∨ (H.code ≠ 0 ∧ e = fault H.code ∧ Below w.heap.size w w')

theorem hand_calls (F : FuncId) (cap : Array Value) (H : Hd) (hH : H.code ≠ 0 → H = ill H.code) (hcf : ∀ (w : World), (callFunc F cap).run Tryz.prog w = .ok (.enter F cap) w) (w : World)
    (h : ∀ w1, Below w.heap.size w w1 → Calls Tryz.prog F cap w1 (CEnd H w1)) : Calls Tryz.prog 47 #[.func (.func F) #[] cap] w (HEnd H w) := by
  by_cases h0 : H.code = 0
  · exact handOut_ret F cap H h0 hcf w fun w1 k => (h w1 k).mono (by
      rintro e w' (⟨_, h1⟩ | ⟨h1, _⟩)
      · exact h1
      · exact absurd h0 h1)
  · rw [hH h0]
    exact handOut_fault F cap H.code hcf w fun w1 k => (h w1 k).mono (by
      rintro e w' (⟨h1, _⟩ | ⟨_, h3, h4⟩)
      · exact absurd h1 h0
      · exact ⟨h3, h4⟩)

theorem CEnd.ill {c : Int} {w : World} {e : Ending} {w' : World} (hc : c ≠ 0) (h : e = fault c ∧ Below w.heap.size w w') : CEnd (ill c) w e w' := .inr ⟨hc, h.1, h.2⟩

theorem initMade_ill {L : Lt} {y : Lt × Int} {e c : Bs} (h : (initMade L y e c).code ≠ 0) : initMade L y e c = ill (initMade L y e c).code := by
  unfold initMade at h ⊢
  by_cases hc : (right L && decide (y.2 = 0)) = true
  · rw [if_pos hc] at h
    exact absurd rfl h
  · rw [if_neg hc]
    rfl
theorem initR_ill {f : Int} {me lock eph stamp : Bs} (h : (initR f me lock eph stamp).code ≠ 0) : initR f me lock eph stamp = ill (initR f me lock eph stamp).code := by
  by_cases hs : 8000 < me.length ∨ 8000 < lock.length ∨ 8000 < eph.length ∨ 8000 < stamp.length
  · rw [initR_size hs]; rfl
  by_cases hb : (endR f && atomR me && (lockS lock).isSome && atomR eph && okT stamp) = false
  · rw [initR_form hs hb]; rfl
  simp only [Bool.not_eq_false, Bool.and_eq_true] at hb
  obtain ⟨⟨⟨⟨g1, g2⟩, g3⟩, g4⟩, g5⟩ := hb
  obtain ⟨s, hl⟩ := Option.isSome_iff_exists.1 g3
  rw [initR_ok hs g1 g2 hl g4 g5] at h ⊢
  exact initMade_ill h

theorem okA_some {l : Bs} (hl : l.length ≤ 4000000) (b : Bool) (h : atomR l = b) (w : World) : Calls Tryz.prog 52 #[str l] w fun e w' => e = .returned (.bool b) ∧ w = w' := by
  have := atm.implAtom_calls ⟨l.toArray⟩ (by unfold maxLen; show l.toArray.size ≤ _; simp; omega) w
  rw [show atomR (⟨l.toArray⟩ : ByteArray).data.toList = b from h] at this
  exact this

theorem big_four {a b c d : Bs} : big [a, b, c, d] = decide (8000 < a.length ∨ 8000 < b.length ∨ 8000 < c.length ∨ 8000 < d.length) := by
  unfold big
  simp

theorem clone_at (l : Bs) (hl : l.length ≤ 100000) : Gives 60 #[str l] (str l) := fun w => clo.clone_calls ⟨l.toArray⟩ (by show l.toArray.size ≤ _; simp; omega) w

set_option maxHeartbeats 1000000 in
theorem good_calls (f : Int) (me lock eph stamp s : Bs) (p0 p1 p2 p3 p4 : Nat) (w : World)
    (hk : ∀ X, Below w.heap.size w X → X.cell? ⟨p0, 0, none⟩ = some (str me) ∧ X.cell? ⟨p1, 0, none⟩ = some (str lock) ∧ X.cell? ⟨p2, 0, none⟩ = some (str eph) ∧ X.cell? ⟨p3, 0, none⟩ = some (str stamp) ∧ X.cell? ⟨p4, 0, none⟩ = some (.int .i64 f))
    (h1 : me.length ≤ 4000000) (h2 : lock.length ≤ 4000000) (h3 : eph.length ≤ 4000000) (h4 : stamp.length ≤ 4000000)
    (SH : ∀ w v, Rds w v [me, lock, eph, stamp] → Calls Tryz.prog 49 #[v] w fun e w' => e = .returned (.tuple #[]) ∧ w = w')
    (g1 : endR f = true) (g2 : atomR me = true) (hl : lockS lock = some s) (g4 : atomR eph = true) (g5 : okT stamp = true) :
    Calls Tryz.prog 48 #[.pointer (some ⟨p0, 0, none⟩), .pointer (some ⟨p1, 0, none⟩), .pointer (some ⟨p2, 0, none⟩), .pointer (some ⟨p3, 0, none⟩), .pointer (some ⟨p4, 0, none⟩)] w (CEnd (initMade (initL f me lock eph stamp s) (signR (initL f me lock eph stamp s) lock) eph (ic3 lock eph me s)) w) := by
  have N : ∀ w, Calls Tryz.prog 51 #[.int .i64 f] w fun e w' => e = .returned (.bool true) ∧ w = w' := fun w => by have := lri.isEnd_calls f w; rw [g1] at this; exact this
  have M := okA_some h1 _ g2
  have L : Gives 53 #[str lock] (.bool true) := fun w => isLock_calls lock h2 _ (by rw [hl]; rfl) w
  have E := okA_some h3 _ g4
  have S : Gives 54 #[str stamp] (.bool true) := fun w => gky.iright_any stamp _ g5 h4 w
  obtain ⟨S2, hS2⟩ : ∃ S2, (makeR oShut [ic3 lock eph me s, stamp]).1 = S2 := ⟨_, rfl⟩
  obtain ⟨m, hm⟩ : ∃ m : Lt, m = ⟨1, f, 0, 0, [say oPub [eph], say oShut [ic2 lock eph s, say oPub [me]], S2], [], []⟩ := ⟨_, rfl⟩
  have A := made g1 g2 hl g4 g5 hS2 hm
  have PU := fun (w : World) (b : Nat) h0 hb => gky.madeOne oPub eph b 1 w h0 hb (by decide) h3 (say oPub [eph]) (by rw [(lock_of g4).1])
  have BG : Gives 56 #[str lock] (str (say oHash [lock])) := fun w => begun_calls lock _ h2 A.e0 w
  have MA : Gives 57 #[str (say oHash [lock]), str (say oPub [eph])] (.tuple #[str (ic1 lock eph), mixer (ic1 lock eph)]) := fun w => mix_calls _ _ _ (by have := A.l0; have := A.l1; have := A.l2; have := A.l3; have := A.lp; have := A.lq; have := A.ld; have := A.ld2; have := A.lt; omega) (by have := A.l0; have := A.l1; have := A.l2; have := A.l3; have := A.lp; have := A.lq; have := A.ld; have := A.ld2; have := A.lt; omega) A.e1 w
  have DA : Gives 58 #[str eph, str lock] (str (dhS eph s)) := fun w => shared_calls eph lock s g4 hl w
  have MB : Gives 57 #[str (ic1 lock eph), str (dhS eph s)] (.tuple #[str (ic2 lock eph s), mixer (ic2 lock eph s)]) := fun w => mix_calls _ _ _ (by have := A.l0; have := A.l1; have := A.l2; have := A.l3; have := A.lp; have := A.lq; have := A.ld; have := A.ld2; have := A.lt; omega) (by have := A.l0; have := A.l1; have := A.l2; have := A.l3; have := A.lp; have := A.lq; have := A.ld; have := A.ld2; have := A.lt; omega) A.e2 w
  have DB : Gives 58 #[str me, str lock] (str (dhS me s)) := fun w => shared_calls me lock s g2 hl w
  have MC : Gives 57 #[str (ic2 lock eph s), str (dhS me s)] (.tuple #[str (ic3 lock eph me s), mixer (ic3 lock eph me s)]) := fun w => mix_calls _ _ _ (by have := A.l0; have := A.l1; have := A.l2; have := A.l3; have := A.lp; have := A.lq; have := A.ld; have := A.ld2; have := A.lt; omega) (by have := A.l0; have := A.l1; have := A.l2; have := A.l3; have := A.lp; have := A.lq; have := A.ld; have := A.ld2; have := A.lt; omega) A.e3 w
  have PV := fun (w : World) (b : Nat) h0 hb => gky.madeOne oPub me b 1 w h0 hb (by decide) h1 (say oPub [me]) (by rw [(lock_of g2).1])
  have SA := fun (w : World) (b : Nat) h0 h1 hb => gky.madeTwo oShut (ic2 lock eph s) (say oPub [me]) b 2 w h0 h1 hb (by decide) (by have := A.l0; have := A.l1; have := A.l2; have := A.l3; have := A.lp; have := A.lq; have := A.ld; have := A.ld2; have := A.lt; omega) (by have := A.l0; have := A.l1; have := A.l2; have := A.l3; have := A.lp; have := A.lq; have := A.ld; have := A.ld2; have := A.lt; omega) _ A.eS1
  have SB := fun (w : World) (b : Nat) h0 h1 hb => gky.madeTwo oShut (ic3 lock eph me s) stamp b 2 w h0 h1 hb (by decide) (by have := A.l0; have := A.l1; have := A.l2; have := A.l3; have := A.lp; have := A.lq; have := A.ld; have := A.ld2; have := A.lt; omega) (by have := A.l0; have := A.l1; have := A.l2; have := A.l3; have := A.lp; have := A.lq; have := A.ld; have := A.ld2; have := A.lt; omega) S2 hS2
  have CL := clone_at eph (by have := atomR_len g4; omega)
  rw [A.fit]
  by_cases hc : (signR m lock).2 = 0
  · rw [if_pos hc]
    have SG := fun w v (h : Rds w v m.ps) => hms.signed_yes m v lock w h (by rw [hm]; simp) A.hps (by rw [hm]; simp) (by rw [hm]; simp) h2 hc
    generalize signR m lock = y at SG
    obtain ⟨⟨k', f', t', c', ps, a', b'⟩, yc⟩ := y
    rw [hm] at SG
    have SG' : ∀ w v, Rds w v [say oPub [eph], say oShut [ic2 lock eph s, say oPub [me]], S2] → Calls Tryz.prog 59 #[.agg (letA ⟨1, f, 0, 0, [say oPub [eph], say oShut [ic2 lock eph s, say oPub [me]], S2], [], []⟩ v), str lock] w fun e w' => ∃ au nu cu, e = .returned (.agg #[.int .i64 k', .int .i64 f', .int .i64 t', .int .i64 c', .slice au nu cu, str a', str b']) ∧ Below w.heap.size w w' ∧ Wrs w' w.heap.size (.slice au nu cu) ps := fun w v h => (SG w v h).mono (by
      rintro e w' ⟨u, rfl, hb, hw⟩
      obtain ⟨a, n, c, rfl⟩ := tell hw
      exact ⟨a, n, c, rfl, hb, hw⟩)
    exact (yes f me lock eph stamp _ _ _ _ _ _ _ _ _ _ k' f' t' c' ps a' b' p0 p1 p2 p3 p4 w hk SH N M L E S PU BG MA DA MB DB MC PV SA SB SG' CL).mono fun e w' h => .inl ⟨rfl, h⟩
  · rw [if_neg hc]
    have SG := fun w v (h : Rds w v m.ps) => hms.signed_no m v lock w h (by rw [hm]; simp) A.hps (by rw [hm]; simp) (by rw [hm]; simp) h2 hc
    rw [hm] at SG
    exact (nosign f me lock eph stamp _ _ _ _ _ _ _ _ _ _ p0 p1 p2 p3 p4 w hk SH N M L E S PU BG MA DA MB DB MC PV SA SB SG).mono fun e w' h => CEnd.ill (by decide) h

set_option maxHeartbeats 1000000 in
theorem clos_calls (f : Int) (me lock eph stamp : Bs) (p0 p1 p2 p3 p4 : Nat) (w : World)
    (hk : ∀ X, Below w.heap.size w X → X.cell? ⟨p0, 0, none⟩ = some (str me) ∧ X.cell? ⟨p1, 0, none⟩ = some (str lock) ∧ X.cell? ⟨p2, 0, none⟩ = some (str eph) ∧ X.cell? ⟨p3, 0, none⟩ = some (str stamp) ∧ X.cell? ⟨p4, 0, none⟩ = some (.int .i64 f))
    (h1 : me.length ≤ 4000000) (h2 : lock.length ≤ 4000000) (h3 : eph.length ≤ 4000000) (h4 : stamp.length ≤ 4000000) :
    Calls Tryz.prog 48 #[.pointer (some ⟨p0, 0, none⟩), .pointer (some ⟨p1, 0, none⟩), .pointer (some ⟨p2, 0, none⟩), .pointer (some ⟨p3, 0, none⟩), .pointer (some ⟨p4, 0, none⟩)] w (CEnd (initR f me lock eph stamp) w) := by
  have hall : ∀ x ∈ [me, lock, eph, stamp], x.length ≤ 4000000 := by
    intro x hx
    simp only [List.mem_cons, List.not_mem_nil, or_false] at hx
    rcases hx with rfl | rfl | rfl | rfl <;> assumption
  by_cases hs : 8000 < me.length ∨ 8000 < lock.length ∨ 8000 < eph.length ∨ 8000 < stamp.length
  · rw [initR_size hs]
    refine (long f me lock eph stamp [] [] [] [] [] [] [] [] [] [] p0 p1 p2 p3 p4 w hk fun w v h => ?_).mono fun e w' h => CEnd.ill (by decide) h
    obtain ⟨ad, cap, rfl⟩ := hms.rds_form h
    exact short_no ad _ cap _ w rfl h (by simp) hall (by rw [big_four]; exact decide_eq_true hs)
  have SH : ∀ w v, Rds w v [me, lock, eph, stamp] → Calls Tryz.prog 49 #[v] w fun e w' => e = .returned (.tuple #[]) ∧ w = w' := fun w v h => by
    obtain ⟨ad, cap, rfl⟩ := hms.rds_form h
    exact short_yes ad _ cap _ w rfl h (by simp) hall (by rw [big_four]; exact decide_eq_false hs)
  have N : ∀ w, Calls Tryz.prog 51 #[.int .i64 f] w fun e w' => e = .returned (.bool (endR f)) ∧ w = w' := fun w => lri.isEnd_calls f w
  have M := okA_some h1 _ rfl
  have L : Gives 53 #[str lock] (.bool (lockS lock).isSome) := fun w => isLock_calls lock h2 _ rfl w
  have E := okA_some h3 _ rfl
  have S : Gives 54 #[str stamp] (.bool (okT stamp)) := fun w => gky.iright_any stamp _ rfl h4 w
  by_cases hb : (endR f && atomR me && (lockS lock).isSome && atomR eph && okT stamp) = false
  · rw [initR_form hs hb]
    cases b0 : endR f
    · rw [b0] at N; exact (form0 f me lock eph stamp [] [] [] [] [] [] [] [] [] [] p0 p1 p2 p3 p4 w hk SH N).mono fun e w' h => CEnd.ill (by decide) h
    rw [b0] at N
    cases b1 : atomR me
    · rw [b1] at M; exact (form1 f me lock eph stamp [] [] [] [] [] [] [] [] [] [] p0 p1 p2 p3 p4 w hk SH N M).mono fun e w' h => CEnd.ill (by decide) h
    rw [b1] at M
    cases b2 : (lockS lock).isSome
    · rw [b2] at L; exact (form2 f me lock eph stamp [] [] [] [] [] [] [] [] [] [] p0 p1 p2 p3 p4 w hk SH N M L).mono fun e w' h => CEnd.ill (by decide) h
    rw [b2] at L
    cases b3 : atomR eph
    · rw [b3] at E; exact (form3 f me lock eph stamp [] [] [] [] [] [] [] [] [] [] p0 p1 p2 p3 p4 w hk SH N M L E).mono fun e w' h => CEnd.ill (by decide) h
    rw [b3] at E
    cases b4 : okT stamp
    · rw [b4] at S; exact (form4 f me lock eph stamp [] [] [] [] [] [] [] [] [] [] p0 p1 p2 p3 p4 w hk SH N M L E S).mono fun e w' h => CEnd.ill (by decide) h
    rw [b0, b1, b2, b3, b4] at hb
    cases hb
  simp only [Bool.not_eq_false, Bool.and_eq_true] at hb
  obtain ⟨⟨⟨⟨g1, g2⟩, g3⟩, g4⟩, g5⟩ := hb
  obtain ⟨s, hl⟩ := Option.isSome_iff_exists.1 g3
  rw [initR_ok hs g1 g2 hl g4 g5]
  exact good_calls f me lock eph stamp s p0 p1 p2 p3 p4 w hk h1 h2 h3 h4 SH g1 g2 hl g4 g5
end Go.Proofs.YtonjohlecomeoaaGreat.iih
