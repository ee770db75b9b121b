/- Several small texts, one behind the other. -/
import Derived.Test.YtonjohlecomeoaaGreatQf
import Derived.Test.YtonjohlecomeoaaGreatQk
import Derived.Test.YtonjohlecomeoaaGreatQj
import Derived.Test.YtonjohlecomeoaaGreatQe
import Derived.Test.YtonjohlecomeoaaGreatQd
import Derived.Test.YtonjohlecomeoaaGreatQg
import Derived.StillTailTactics
import Derived.Lib.QuietBelow
import Derived.Test.YtonjohlecomeoaaGreatQc
import Derived.Test.YtonjohlecomeoaaGreatQh
import Derived.Deep.RegionWith

/- TermRight at any text, of the model and of the program. -/
namespace Go.Proofs.YtonjohlecomeoaaGreat.gky
open Go.RowKit Go.Proofs.YtonjohlecomeoaaGreat.tm Go.Proofs.YtonjohlecomeoaaGreat.lib Go.Proofs.YtonjohlecomeoaaGreat.rdr Go.Proofs.YtonjohlecomeoaaGreat.bld Go.Proofs.YtonjohlecomeoaaGreat.app Go.Proofs.YtonjohlecomeoaaGreat.sop Go.Proofs.YtonjohlecomeoaaGreat.mkp Go.Proofs.YtonjohlecomeoaaGreat.mrk Go.Proofs.YtonjohlecomeoaaGreat.ltp Go.Proofs.YtonjohlecomeoaaGreat.ltq Go.Proofs.YtonjohlecomeoaaGreat.ltv
set_option linter.unusedVariables false

theorem right_any (l : Bs) (b : Bool) (h : okT l = b) (hl : l.length ≤ 4000000) (w : World) :
    Calls Tryz.prog 40 #[str l] w fun e w' => e = .returned (.bool b) ∧ Below w.heap.size w w' := by
  have := srt.specTermRight_calls ⟨l.toArray⟩ (by unfold maxLen; show l.toArray.size ≤ _; simp; omega) w
  rw [show (term (⟨l.toArray⟩ : ByteArray).data.toList).isSome = b from h] at this
  exact this
/-- .. of the program. -/
theorem iright_any (l : Bs) (b : Bool) (h : okT l = b) (hl : l.length ≤ 4000000) (w : World) :
    Calls Tryz.prog 54 #[str l] w fun e w' => e = .returned (.bool b) ∧ Below w.heap.size w w' := by
  have := grd.implTermRight_calls ⟨l.toArray⟩ (by unfold maxLen; show l.toArray.size ≤ _; simp; omega) w
  rw [show (term (⟨l.toArray⟩ : ByteArray).data.toList).isSome = b from h] at this
  exact this

end Go.Proofs.YtonjohlecomeoaaGreat.gky

/- Mix and the small functions of chapter 7, of the model. -/
namespace Go.Proofs.YtonjohlecomeoaaGreat.smx
open Go.RowKit Go.Proofs.YtonjohlecomeoaaGreat.tm Go.Proofs.YtonjohlecomeoaaGreat.lib Go.Proofs.YtonjohlecomeoaaGreat.rdr Go.Proofs.YtonjohlecomeoaaGreat.bld Go.Proofs.YtonjohlecomeoaaGreat.snd Go.Proofs.YtonjohlecomeoaaGreat.sop Go.Proofs.YtonjohlecomeoaaGreat.mkp Go.Proofs.YtonjohlecomeoaaGreat.ltq Go.Proofs.YtonjohlecomeoaaGreat.ltv Go.Proofs.YtonjohlecomeoaaGreat.ltp Go.Proofs.YtonjohlecomeoaaGreat.hdp Go.Proofs.YtonjohlecomeoaaGreat.blw Go.Proofs.YtonjohlecomeoaaGreat.dhs
set_option linter.unusedVariables false

theorem atom_calls (l : Bs) (b : Bool) (hl : l.length ≤ 4000000) (h : atomR l = b) (w : World) :
    Calls Tryz.prog 38 #[str l] w fun e w' => e = .returned (.bool b) ∧ w = w' := by
  have := atm.specAtom_calls ⟨l.toArray⟩ (by unfold maxLen; show l.toArray.size ≤ _; simp; omega) w
  rw [show atomR (⟨l.toArray⟩ : ByteArray).data.toList = b from h] at this
  exact this

set_option maxHeartbeats 1000000 in
set_option maxRecDepth 100000 in
theorem l06Lock_calls (t : Bs) (ht : t.length ≤ 4000000) (b : Bool) (hb : (lockS t).isSome = b) (w : World) :
    Calls Tryz.prog 39 #[str t] w fun e w' => e = .returned (.bool b) ∧ Below w.heap.size w w' := by
  rw [← hb]
  cases hT : term t with
  | none =>
    have e : (lockS t).isSome = false := by unfold lockS; rw [hT]; rfl
    rw [e]
    have c1 := fun w => gky.right_any t false (by unfold okT; rw [hT]; rfl) ht w
    have C1 := Lib.hid c1
    clear c1 hT e ht hb
    go_enter Tryz.func39, Tryz.ntmps39
    go_wp2_with fail
    refine (C1.out _).mono ?_
    rintro e w1 ⟨rfl, hb1⟩
    have HB1 := Lib.hid hb1
    clear hb1
    go_wp2_with fail
    go_ret
    exact ⟨rfl, HB1.out⟩
  | some T =>
    have c1 := fun w => gky.right_any t true (by unfold okT; rw [hT]; rfl) ht w
    have c2 := node_at t T hT
    have d : (lockS t).isSome = (T.op == [112, 117, 98]) := by
      unfold lockS
      rw [hT]
      cases T <;> rfl
    rw [d]
    have n0 := node_op T.op
    obtain ⟨O, hO⟩ : ∃ O, O = T.op := ⟨_, rfl⟩
    simp only [← hO] at c2 n0 ⊢
    obtain ⟨q, hq⟩ : ∃ q, (O == [112, 117, 98]) = q := ⟨_, rfl⟩
    rw [hq]
    have C1 := Lib.hid c1
    have C2 := Lib.hid c2
    clear c1 c2 hT d hO ht hb
    go_enter Tryz.func39, Tryz.ntmps39
    go_wp2_with fail
    refine (C1.out _).mono ?_
    rintro e w1 ⟨rfl, hb1⟩
    have HB1 := Lib.hid hb1
    clear hb1
    go_wp2_with fail
    refine (C2.out _).mono ?_
    rintro e w2 ⟨v, rfl, hb2, g2, off2, cap2, rfl, _⟩
    have HB2 := Lib.hid (base HB1.out hb2)
    clear hb2
    go_wp2_with fail
    go_ret
    exact ⟨rfl, HB2.out⟩

set_option maxHeartbeats 1000000 in
set_option maxRecDepth 100000 in
theorem l06Pub_calls (x : Bs) (hx : x.length ≤ 4000000) (w : World) :
    Calls Tryz.prog 43 #[str x] w fun e w' => e = .returned (str (say oPub [x])) ∧ Below w.heap.size w w' := by
  have c2 := fun (w : World) (b : Nat) h0 => ssy.say_one oPub x b 0 1 w h0 (by decide) hx
  obtain ⟨G, hG⟩ : ∃ G, G = say oPub [x] := ⟨_, rfl⟩
  rw [← hG] at c2 ⊢
  have C2 := Lib.hid c2
  unfold oPub at C2
  clear c2 hG hx
  go_enter Tryz.func43, Tryz.ntmps43
  go_wp2_with fail
  refine (on (al0 _) (C2.out _ _ (by simp [go_sem]))).mono ?_
  rintro e w2 ⟨rfl, hb2⟩
  have HB2 := Lib.hid hb2
  clear hb2
  go_wp2_with fail
  go_ret
  exact ⟨rfl, HB2.out⟩

set_option maxHeartbeats 1000000 in
set_option maxRecDepth 100000 in
theorem l06Dh_calls (x p s : Bs) (h : lockS p = some s) (hx : x.length ≤ 4000000) (w : World) :
    Calls Tryz.prog 44 #[str x, str p] w fun e w' => e = .returned (str (dhS x s)) ∧ Below w.heap.size w w' := by
  have hT := lockS_some.1 h
  have hsl : s.length ≤ 8 := (atomR_len (show atomR s = true from (term_some.1 hT).2.1)).2
  have a3 := node_at p (.pub s) hT
  have a4 := ssy.dh_calls x s hx (by omega)
  have ek : nodeArgs (.pub s) = [s] := rfl
  rw [ek] at a3
  obtain ⟨R, hR⟩ : ∃ R, R = dhS x s := ⟨_, rfl⟩
  rw [← hR] at a4 ⊢
  have n1 := node_args oPub
  simp only [Tm.op, oPub] at a3 n1
  have A3 := Lib.hid a3
  have A4 := Lib.hid a4
  clear hT ek hR a3 a4 h hx hsl
  go_enter Tryz.func44, Tryz.ntmps44
  go_wp2_with fail
  refine (A3.out _).mono ?_
  rintro e w3 ⟨v3, rfl, hb3, g3, off3, cap3, rfl, hB3, hg3, _, hc3⟩
  have k0 : w3.cell? ⟨g3, off3, none⟩ = some (str s) := by simpa using hc3 0 s rfl
  have HB3 := Lib.hid hb3
  clear hb3 hc3
  go_wp2_with fail
  refine (on HB3.out (A4.out _)).mono ?_
  rintro e w4 ⟨rfl, hb4⟩
  have HB4 := Lib.hid hb4
  clear hb4
  go_wp2_with fail
  go_ret
  exact ⟨rfl, HB4.out⟩
end Go.Proofs.YtonjohlecomeoaaGreat.smx

/- l02Is, l04No, l04Macs of the model. -/
namespace Go.Proofs.YtonjohlecomeoaaGreat.lsm
open Go.RowKit Go.Sort Go.Proofs.YtonjohlecomeoaaGreat.tm Go.Proofs.YtonjohlecomeoaaGreat.lib Go.Proofs.YtonjohlecomeoaaGreat.rdr Go.Proofs.YtonjohlecomeoaaGreat.bld Go.Proofs.YtonjohlecomeoaaGreat.app Go.Proofs.YtonjohlecomeoaaGreat.mrk Go.Proofs.YtonjohlecomeoaaGreat.ltq Go.Proofs.YtonjohlecomeoaaGreat.ltv Go.Proofs.YtonjohlecomeoaaGreat.ltp Go.Proofs.YtonjohlecomeoaaGreat.gky
set_option linter.unusedVariables false

theorem seven {w : World} {b : Nat} {v0 v1 v2 v3 v4 v5 v6 : Value} {t : TypeId} (h : w.heap[b]? = some (.cells #[v0, v1, v2, v3, v4, v5, v6] t (0, 0))) :
    w.cell? ⟨b, 0, none⟩ = some v0 ∧ w.cell? ⟨b, 1, none⟩ = some v1 ∧ w.cell? ⟨b, 2, none⟩ = some v2 ∧ w.cell? ⟨b, 3, none⟩ = some v3 ∧ w.cell? ⟨b, 4, none⟩ = some v4 ∧ w.cell? ⟨b, 5, none⟩ = some v5 ∧ w.cell? ⟨b, 6, none⟩ = some v6 ∧ b < w.heap.size := by
  refine ⟨?_, ?_, ?_, ?_, ?_, ?_, ?_, (Array.getElem?_eq_some_iff.1 h).1⟩ <;> (rw [cell_of_row w b _ _ t (0, 0) h]; rfl)
theorem keptB {W W' : World} {b : Nat} {o : Obj} (h : W.heap[b]? = some o) (k : Below W.heap.size W W') : W'.heap[b]? = some o :=
  (k.block b (Array.getElem?_eq_some_iff.1 h).1).trans h
theorem new1 (w : World) (o : Obj) : Below w.heap.size w (w.alloc o) := (Below.refl _ _).alloc (Nat.le_refl _) _

theorem l04No_calls (n : Int) (w : World) : Calls Tryz.prog 37 #[.int .i64 n] w fun e w' => e = .returned (.bool (endR n)) ∧ Below w.heap.size w w' := by
  unfold endR
  go_enter Tryz.func37, Tryz.ntmps37
  go_wp2_with (go_at_call 93; refine (l02Is_calls _ _ _ _).mono ?_; rintro e w' ⟨rfl, rfl⟩)
  go_ret
  exact ⟨rfl, Below.refl _ _⟩

set_option maxHeartbeats 1000000 in
set_option maxRecDepth 100000 in
theorem macsD (k f t c : Int) (v : Value) (a b : Bs) (w : World) (hk : k = 3 ∨ k = 4) :
    Calls Tryz.prog 96 #[.agg #[.int .i64 k, .int .i64 f, .int .i64 t, .int .i64 c, v, str a, str b]] w fun e w' => e = .returned (.bool (decide (a = []) && decide (b = []))) ∧ Below w.heap.size w w' := by
  by_cases h1 : a = []
  · subst h1
    by_cases h2 : b = []
    · subst h2
      rcases hk with rfl | rfl
      all_goals
        go_enter Tryz.func96, Tryz.ntmps96
        go_wp2_with fail
        go_ret
        exact ⟨rfl, new1 _ _⟩
    · obtain ⟨d1, d2, d3⟩ := e_no h2
      simp only [decide_eq_false h2, Bool.and_false]
      clear h2
      rcases hk with rfl | rfl
      all_goals
        go_enter Tryz.func96, Tryz.ntmps96
        go_wp2_with fail
        go_ret
        exact ⟨rfl, new1 _ _⟩
  · obtain ⟨d1, d2, d3⟩ := e_no h1
    simp only [decide_eq_false h1, Bool.false_and]
    clear h1
    rcases hk with rfl | rfl
    all_goals
      go_enter Tryz.func96, Tryz.ntmps96
      go_wp2_with fail
      go_ret
      exact ⟨rfl, new1 _ _⟩

set_option maxHeartbeats 2000000 in
set_option maxRecDepth 100000 in
theorem macsS (k f t c : Int) (v : Value) (a b : Bs) (w : World) (hk : k = 1 ∨ k = 2) (ha : a.length ≤ 4000000) (hb : b.length ≤ 4000000) :
    Calls Tryz.prog 96 #[.agg #[.int .i64 k, .int .i64 f, .int .i64 t, .int .i64 c, v, str a, str b]] w fun e w' => e = .returned (.bool (macsR a b)) ∧ Below w.heap.size w w' := by
  unfold macsR
  by_cases h1 : a = []
  · subst h1
    simp only [if_true]
    by_cases h2 : b = []
    · subst h2
      rcases hk with rfl | rfl
      all_goals
        go_enter Tryz.func96, Tryz.ntmps96
        go_wp2_with fail
        go_ret
        exact ⟨rfl, new1 _ _⟩
    · obtain ⟨d1, d2, d3⟩ := e_no h2
      simp only [decide_eq_false h2]
      clear h2
      rcases hk with rfl | rfl
      all_goals
        go_enter Tryz.func96, Tryz.ntmps96
        go_wp2_with fail
        go_ret
        exact ⟨rfl, new1 _ _⟩
  · obtain ⟨d1, d2, d3⟩ := e_no h1
    simp only [if_neg h1]
    clear h1
    cases hA : okT a with
    | false =>
      have c1 := fun w => right_any a false hA ha w
      have C1 := Lib.hid c1
      simp only [Bool.false_and]
      clear c1 hA
      rcases hk with rfl | rfl
      all_goals
        go_enter Tryz.func96, Tryz.ntmps96
        go_wp2_with fail
        refine (C1.out _).mono ?_
        rintro e w1 ⟨rfl, hb1⟩
        have HB1 := Lib.hid ((new1 _ _).trans (hb1.mono (by simp)))
        clear hb1
        go_wp2_with fail
        go_ret
        exact ⟨rfl, HB1.out⟩
    | true =>
      have c1 := fun w => right_any a true hA ha w
      have C1 := Lib.hid c1
      simp only [Bool.true_and]
      clear c1 hA
      by_cases h2 : b = []
      · subst h2
        simp only [decide_true, Bool.true_or]
        rcases hk with rfl | rfl
        all_goals
          go_enter Tryz.func96, Tryz.ntmps96
          go_wp2_with fail
          refine (C1.out _).mono ?_
          rintro e w1 ⟨rfl, hb1⟩
          have X1 := Lib.hid (keptB (heap_alloc_new w _) hb1)
          obtain ⟨p0, p1, p2, p3, p4, p5, p6, pz⟩ := seven X1.out
          have HB1 := Lib.hid ((new1 _ _).trans (hb1.mono (by simp)))
          clear hb1
          go_wp2_with fail
          go_ret
          exact ⟨rfl, HB1.out⟩
      · obtain ⟨d4, d5, d6⟩ := e_no h2
        have c2 := fun w => right_any b (okT b) rfl hb w
        simp only [decide_eq_false h2, Bool.false_or]
        obtain ⟨ob, hob⟩ : ∃ x, x = okT b := ⟨_, rfl⟩
        simp only [← hob] at c2 ⊢
        have C2 := Lib.hid c2
        clear hob c2 h2
        rcases hk with rfl | rfl
        all_goals
          go_enter Tryz.func96, Tryz.ntmps96
          go_wp2_with fail
          refine (C1.out _).mono ?_
          rintro e w1 ⟨rfl, hb1⟩
          have X1 := Lib.hid (keptB (heap_alloc_new w _) hb1)
          obtain ⟨p0, p1, p2, p3, p4, p5, p6, pz⟩ := seven X1.out
          have HB1 := Lib.hid ((new1 _ _).trans (hb1.mono (by simp)))
          clear hb1
          go_wp2_with fail
          refine (C2.out _).mono ?_
          rintro e w2 ⟨rfl, hb2⟩
          have HB2 := Lib.hid (HB1.out.trans (hb2.mono HB1.out.size))
          clear hb2
          go_wp2_with fail
          go_ret
          exact ⟨rfl, HB2.out⟩

/-- The count of a kind. -/
def cq (k c : Int) : Bool := if k = 4 then timeR c else decide (c = 0)
theorem eq0 (n : Int) : (n == 0) = decide (n = 0) := by rw [Bool.eq_iff_iff]; simp

/-- Behind j parts. -/
structure Lp (w : World) (ps : List Bs) (wr : World) (j : Nat) (o : Obj) : Prop where
  le : j ≤ ps.length
  all : ∀ i x, i < j → ps[i]? = some x → okT x = true
  bel : Below w.heap.size w wr
  x : wr.heap[w.heap.size]? = some o
theorem Lp.step {w : World} {ps : List Bs} {wr w3 : World} {j : Nat} {o : Obj} {x : Bs} (h : Lp w ps wr j o) (hx : ps[j]? = some x) (ho : okT x = true) (k : Below wr.heap.size wr w3) : Lp w ps w3 (j + 1) o :=
  ⟨(List.getElem?_eq_some_iff.1 hx).1, fun i y hi hy => by
    by_cases e : i = j
    · subst e; rw [hx] at hy; cases hy; exact ho
    · exact h.all i y (by omega) hy, h.bel.trans (k.mono h.bel.size), keptB h.x k⟩
theorem Lp.done {w : World} {ps : List Bs} {wr : World} {j : Nat} {o : Obj} (h : Lp w ps wr j o) (e : j = ps.length) : ps.all okT = true := by
  rw [List.all_eq_true]
  intro x hx
  obtain ⟨i, hi, e2⟩ := List.getElem_of_mem hx
  exact h.all i x (by omega) (by rw [← e2]; exact List.getElem?_eq_getElem hi)
end Go.Proofs.YtonjohlecomeoaaGreat.lsm

/- What Open answers, told as what is inside. -/
namespace Go.Proofs.YtonjohlecomeoaaGreat.hdp
open Go Go.RowKit Go.Proofs.YtonjohlecomeoaaGreat.tm Go.Proofs.YtonjohlecomeoaaGreat.mkp Go.Proofs.YtonjohlecomeoaaGreat.ltq Go.Proofs.YtonjohlecomeoaaGreat.ltv Go.Proofs.YtonjohlecomeoaaGreat.ltp Go.Proofs.YtonjohlecomeoaaGreat.sop
set_option linter.unusedVariables false

theorem open_inside {key t r : Bs} {c : Int} (h : OpenR key t r c) : (inside key t = some r ∧ c = 0) ∨ (inside key t = none ∧ c ≠ 0 ∧ r = []) := by
  cases h with
  | size h =>
    refine .inr ⟨?_, by decide, rfl⟩
    unfold inside
    split
    · rename_i k x e
      split
      · rename_i hk
        obtain ⟨h1, h2, h3, h4⟩ := term_some.1 e
        rw [← hk] at h
        simp [← h4, Tm.tx, say] at h h1
        omega
      · rfl
    · rfl
  | form h1 h2 h =>
    refine .inr ⟨?_, by decide, rfl⟩
    unfold inside
    split
    · rename_i k x e
      split
      · rename_i hk
        rcases h with h | h
        · obtain ⟨q1, q2, q3, q4⟩ := term_some.1 e
          have : term k.tx = some k := term_some.2 ⟨by simp [← q4, Tm.tx, say] at q1; omega, q2.1, by simp [Tm.deep] at q3; omega, rfl⟩
          rw [hk, h] at this
          cases this
        · rw [h] at e; cases e
      · rfl
    · rfl
  | other h1 h2 K T hK hT h =>
    refine .inr ⟨?_, by decide, rfl⟩
    unfold inside
    rw [hT]
    cases T <;> first | rfl | exact absurd rfl h
  | none h1 h2 K k x hK hT h =>
    refine .inr ⟨?_, by decide, rfl⟩
    unfold inside
    rw [hT]
    simp [h]
  | some h1 h2 K k x hK hT h =>
    refine .inl ⟨?_, rfl⟩
    unfold inside
    rw [hT]
    simp [h]
theorem inside_len {key t r : Bs} (h : inside key t = some r) : r.length ≤ 3000 ∧ okT r = true := by
  unfold inside at h
  split at h
  · rename_i k x e
    split at h
    · cases h
      obtain ⟨h1, h2, h3, h4⟩ := term_some.1 e
      have hl : x.tx.length ≤ 3000 := by simp [← h4, Tm.tx, say] at h1; omega
      have : term x.tx = some x := term_some.2 ⟨hl, h2.2, by simp [Tm.deep] at h3; omega, rfl⟩
      exact ⟨hl, by unfold okT; rw [this]; rfl⟩
    · cases h
  · cases h
end Go.Proofs.YtonjohlecomeoaaGreat.hdp

/- Contract of Open of the program. -/
namespace Go.Proofs.YtonjohlecomeoaaGreat.iop
open Go.RowKit Go.Proofs.YtonjohlecomeoaaGreat.tm Go.Proofs.YtonjohlecomeoaaGreat.lib Go.Proofs.YtonjohlecomeoaaGreat.rdr Go.Proofs.YtonjohlecomeoaaGreat.bld Go.Proofs.YtonjohlecomeoaaGreat.app Go.Proofs.YtonjohlecomeoaaGreat.grd Go.Proofs.YtonjohlecomeoaaGreat.txo Go.Proofs.YtonjohlecomeoaaGreat.sop
set_option linter.unusedVariables false

theorem as_shut (k x : Tm) (w : World) : (Instr.typeAssert (val (.shut k x)) 122 178 true).run Tryz.prog w = .ok (.tuple #[.agg #[val k, val x], .bool true]) w := by kernel_rfl
theorem as_shut_no (T : Tm) (h : T.op ≠ oShut) (w : World) : (Instr.typeAssert (val T) 122 178 true).run Tryz.prog w = .ok (.tuple #[.agg #[.nilIface, .nilIface], .bool false]) w := by
  cases T with
  | shut k x => exact absurd rfl h
  | _ => kernel_rfl

set_option maxHeartbeats 2000000 in
set_option maxRecDepth 100000 in
theorem clos_calls (key t r : Bs) (c : Int) (h : OpenR key t r c) (hc2 : c ≠ 2) (p q : Nat) (w : World) (c0 : w.cell? ⟨p, 0, none⟩ = some (str key)) (c1 : w.cell? ⟨q, 0, none⟩ = some (str t)) (hp : p < w.heap.size) (hq : q < w.heap.size) :
    Calls Tryz.prog 155 #[.pointer (some ⟨p, 0, none⟩), .pointer (some ⟨q, 0, none⟩)] w (OEnd r c w) := by
  cases h with
  | size h => exact absurd rfl hc2
  | form h1 h2 h =>
    rcases hK : term key with _ | K
    · have a1 := read_no key (by omega) hK
      clear h hK
      go_enter Tryz.func155, Tryz.ntmps155
      go_wp2_with fail
      refine (a1 _).mono ?_
      rintro e w1 ⟨rfl, hb⟩
      exact ⟨rfl, .inr ⟨by decide, rfl⟩, hb⟩
    · have hT : term t = none := by rcases h with h | h; rw [hK] at h; cases h; exact h
      have a1 := read_yes key K hK
      have a2 := read_no t (by omega) hT
      obtain ⟨tK, vK, eK⟩ := val_iface K
      rw [eK] at a1
      clear h hK hT eK
      go_enter Tryz.func155, Tryz.ntmps155
      go_wp2_with fail
      refine (a1 _).mono ?_
      rintro e w1 ⟨rfl, hb⟩
      have k1 := kept_cell hb c1 hq
      have HB := Lib.hid hb
      clear hb
      go_wp2_with fail
      refine (a2 _).mono ?_
      rintro e w2 ⟨rfl, hb2⟩
      exact ⟨rfl, .inr ⟨by decide, rfl⟩, HB.out.trans (hb2.mono HB.out.size)⟩
  | other h1 h2 K T hK hT h =>
    have a1 := read_yes key K hK
    have a2 := read_yes t T hT
    have a3 := as_shut_no T h
    obtain ⟨tK, vK, eK⟩ := val_iface K
    rw [eK] at a1
    obtain ⟨tT, vT, eT⟩ := val_iface T
    rw [eT] at a2
    simp only [eT] at a3
    clear h hK hT eK eT
    go_enter Tryz.func155, Tryz.ntmps155
    go_wp2_with fail
    refine (a1 _).mono ?_
    rintro e w1 ⟨rfl, hb⟩
    have k1 := kept_cell hb c1 hq
    have HB := Lib.hid hb
    clear hb
    go_wp2_with fail
    refine (a2 _).mono ?_
    rintro e w2 ⟨rfl, hb2⟩
    have HB2 := Lib.hid (HB.out.trans (hb2.mono HB.out.size))
    clear hb2
    go_wp2_with (go_at_call 103; refine (refuse_calls _ _).mono ?_; rintro e w' ⟨rfl, rfl⟩)
    exact ⟨rfl, .inr ⟨by decide, rfl⟩, HB2.out.alloc HB2.out.size _⟩
  | none h1 h2 K k x hK hT h =>
    have a1 := read_yes key K hK
    have a2 := read_yes t (.shut k x) hT
    have a3 := as_shut k x
    have eKt : K.tx = key := (term_some.1 hK).2.2.2
    have hKl : K.tx.length ≤ 3000 := by rw [eKt]; exact (term_some.1 hK).1
    have hTl : (Tm.shut k x).tx.length ≤ 3000 := by rw [(term_some.1 hT).2.2.2]; exact (term_some.1 hT).1
    have hkl : k.tx.length ≤ 3000 := by simp [Tm.tx, say] at hTl; omega
    have hxl : x.tx.length ≤ 3000 := by simp [Tm.tx, say] at hTl; omega
    have tK := textOf_calls K (by omega)
    have tk := textOf_calls k (by omega)
    have tx := textOf_calls x (by omega)
    rw [eKt] at tK
    obtain ⟨kt, hkt⟩ : ∃ l, l = k.tx := ⟨_, rfl⟩
    obtain ⟨xt, hxt⟩ : ∃ l, l = x.tx := ⟨_, rfl⟩
    rw [← hkt] at tk
    simp only [← hkt] at h
    rw [← hxt] at tx
    try rw [← hxt]
    obtain ⟨uK, vK, eK⟩ := val_iface K
    obtain ⟨uk, vk, ek⟩ := val_iface k
    obtain ⟨ux, vx, ex⟩ := val_iface x
    obtain ⟨uT, vT, eT⟩ := val_iface (.shut k x)
    rw [eK] at a1 tK
    rw [eT] at a2
    rw [ek] at tk
    rw [ex] at tx
    simp only [ek, ex, eT] at a3
    have d3 : (kt == key) = false := by rw [beq_eq_false_iff_ne]; exact h
    have d4 : ¬ kt = key := h
    clear h
    clear hK hT eK ek ex eT eKt hKl hTl hkl hxl hkt hxt
    go_enter Tryz.func155, Tryz.ntmps155
    go_wp2_with fail
    refine (a1 _).mono ?_
    rintro e w1 ⟨rfl, hb⟩
    have k1 := kept_cell hb c1 hq
    have HB := Lib.hid hb
    clear hb
    go_wp2_with fail
    refine (a2 _).mono ?_
    rintro e w2 ⟨rfl, hb2⟩
    have HB2 := Lib.hid (HB.out.trans (hb2.mono HB.out.size))
    clear hb2
    go_wp2_with fail
    refine (tk _).mono ?_
    rintro e w3 ⟨rfl, hb3⟩
    obtain ⟨m0, m1, f0, f1, hz⟩ := two (clo.new_kept hb3)
    have HB3 := Lib.hid ((HB2.out.alloc HB2.out.size _).trans (hb3.mono (by have := HB2.out.size; simp; omega)))
    clear hb3
    go_wp2_with fail
    refine (tK _).mono ?_
    rintro e w4 ⟨rfl, hb4⟩
    have n1 := hb4.cell (p := ⟨w2.heap.size, 1, none⟩) hz
    rw [m1] at n1
    have HB4 := Lib.hid (HB3.out.trans (hb4.mono HB3.out.size))
    clear hb4
    go_wp2_with (go_at_call 103; refine (refuse_calls _ _).mono ?_; rintro e w' ⟨rfl, rfl⟩)
    exact ⟨rfl, .inr ⟨by decide, rfl⟩, HB4.out⟩
  | some h1 h2 K k x hK hT h =>
    have a1 := read_yes key K hK
    have a2 := read_yes t (.shut k x) hT
    have a3 := as_shut k x
    have eKt : K.tx = key := (term_some.1 hK).2.2.2
    have hKl : K.tx.length ≤ 3000 := by rw [eKt]; exact (term_some.1 hK).1
    have hTl : (Tm.shut k x).tx.length ≤ 3000 := by rw [(term_some.1 hT).2.2.2]; exact (term_some.1 hT).1
    have hkl : k.tx.length ≤ 3000 := by simp [Tm.tx, say] at hTl; omega
    have hxl : x.tx.length ≤ 3000 := by simp [Tm.tx, say] at hTl; omega
    have tK := textOf_calls K (by omega)
    have tk := textOf_calls k (by omega)
    have tx := textOf_calls x (by omega)
    rw [eKt] at tK
    obtain ⟨kt, hkt⟩ : ∃ l, l = k.tx := ⟨_, rfl⟩
    obtain ⟨xt, hxt⟩ : ∃ l, l = x.tx := ⟨_, rfl⟩
    rw [← hkt] at tk
    simp only [← hkt] at h
    rw [← hxt] at tx
    try rw [← hxt]
    obtain ⟨uK, vK, eK⟩ := val_iface K
    obtain ⟨uk, vk, ek⟩ := val_iface k
    obtain ⟨ux, vx, ex⟩ := val_iface x
    obtain ⟨uT, vT, eT⟩ := val_iface (.shut k x)
    rw [eK] at a1 tK
    rw [eT] at a2
    rw [ek] at tk
    rw [ex] at tx
    simp only [ek, ex, eT] at a3
    subst h
    clear hK hT eK ek ex eT eKt hKl hTl hkl hxl hkt hxt
    go_enter Tryz.func155, Tryz.ntmps155
    go_wp2_with fail
    refine (a1 _).mono ?_
    rintro e w1 ⟨rfl, hb⟩
    have k1 := kept_cell hb c1 hq
    have HB := Lib.hid hb
    clear hb
    go_wp2_with fail
    refine (a2 _).mono ?_
    rintro e w2 ⟨rfl, hb2⟩
    have HB2 := Lib.hid (HB.out.trans (hb2.mono HB.out.size))
    clear hb2
    go_wp2_with fail
    refine (tk _).mono ?_
    rintro e w3 ⟨rfl, hb3⟩
    obtain ⟨m0, m1, f0, f1, hz⟩ := two (clo.new_kept hb3)
    have HB3 := Lib.hid ((HB2.out.alloc HB2.out.size _).trans (hb3.mono (by have := HB2.out.size; simp; omega)))
    clear hb3
    go_wp2_with fail
    refine (tK _).mono ?_
    rintro e w4 ⟨rfl, hb4⟩
    have n1 := hb4.cell (p := ⟨w2.heap.size, 1, none⟩) hz
    rw [m1] at n1
    have HB4 := Lib.hid (HB3.out.trans (hb4.mono HB3.out.size))
    clear hb4
    go_wp2_with fail
    refine (tx _).mono ?_
    rintro e w5 ⟨rfl, hb5⟩
    go_wp2_with fail
    go_ret
    exact ⟨.inl ⟨rfl, rfl⟩, HB4.out.trans (hb5.mono HB4.out.size)⟩

theorem closO (a b : Value) (w : World) : (callFunc 155 #[a, b]).run Tryz.prog w = .ok (.enter 155 #[a, b]) w := by kernel_rfl

set_option maxHeartbeats 1000000 in
set_option maxRecDepth 100000 in
theorem implOpen_calls (key t r : Bs) (c : Int) (h : OpenR key t r c) (hk : key.length ≤ 4000000) (ht : t.length ≤ 4000000) (w : World) :
    Calls Tryz.prog 116 #[str key, str t] w fun e w' => e = .returned (outVal r c) ∧ Below w.heap.size w w' := by
  by_cases hs : 8000 < key.length ∨ 8000 < t.length
  · obtain ⟨rfl, rfl⟩ : r = [] ∧ c = 2 := by
      cases h with
      | size h => exact ⟨rfl, rfl⟩
      | form h1 h2 h => omega
      | other h1 h2 K T hK hT h => omega
      | none h1 h2 K k x hK hT h => omega
      | some h1 h2 K k x hK hT h => omega
    unfold outVal
    clear h
    by_cases h1 : 8000 < key.length
    · have t1 := tooLong_calls key hk true (by simpa using h1)
      go_enter Tryz.func116, Tryz.ntmps116
      go_wp2_with (go_at_call 102; refine (t1 _).mono ?_; rintro e w' ⟨rfl, rfl⟩)
      exact bodyPost_ret (v := .agg #[.string ⟨#[]⟩, .int .i64 2]) (by simp [results, Tryz.results116, go_sem]) rfl ⟨rfl, (((Below.refl _ _).alloc (Nat.le_refl _) _).alloc (by simp) _).alloc (by simp; omega) _⟩
    · have t1 := tooLong_calls key hk false (by simpa using h1)
      have t2 := tooLong_calls t ht true (by simp; omega)
      go_enter Tryz.func116, Tryz.ntmps116
      go_wp2_with (go_at_call 102; first | (refine (t1 _).mono ?_; rintro e w' ⟨rfl, rfl⟩) | (refine (t2 _).mono ?_; rintro e w' ⟨rfl, rfl⟩))
      exact bodyPost_ret (v := .agg #[.string ⟨#[]⟩, .int .i64 2]) (by simp [results, Tryz.results116, go_sem]) rfl ⟨rfl, (((Below.refl _ _).alloc (Nat.le_refl _) _).alloc (by simp) _).alloc (by simp; omega) _⟩
  · have h1 : key.length ≤ 8000 := by omega
    have h2 : t.length ≤ 8000 := by omega
    have hc2 : c ≠ 2 := by
      cases h with
      | size h => exact absurd h hs
      | _ => decide
    have t1 := tooLong_calls key hk false (by simp; omega)
    have t2 := tooLong_calls t ht false (by simp; omega)
    have hmf : ∀ (fn : Fn) (first cap : Array Value) (w : World), (Instr.makeFunc fn first cap).run Tryz.prog w = .ok (.func fn first cap) w := fun _ _ _ _ => rfl
    have hcl : ∀ w1, Below (w.heap.size + 3) (((w.alloc (.cells #[str key] 9)).alloc (.cells #[str t] 9)).alloc (.cells #[.string ⟨#[]⟩, .int .i64 0] 87)) w1 →
        Calls Tryz.prog 155 #[.pointer (some ⟨w.heap.size, 0, none⟩), .pointer (some ⟨w.heap.size + 1, 0, none⟩)] w1 (OEnd r c w1) := fun w1 hb => by
      have hz := hb.size
      simp at hz
      exact clos_calls key t r c h hc2 _ _ w1 (by rw [hb.cell (p := ⟨w.heap.size, 0, none⟩) (by simp)]; simp [go_sem]) (by rw [hb.cell (p := ⟨w.heap.size + 1, 0, none⟩) (by simp)]; simp [go_sem]) (by omega) (by omega)
    have HC := Lib.hid hcl
    have HR := Lib.hid (show c ≠ 0 → r = [] from fun hn => by cases h <;> first | rfl | exact absurd rfl hn)
    clear h hs hcl
    by_cases hc : c = 0
    · subst hc
      have to := termOut_ret 155 #[.pointer (some ⟨w.heap.size, 0, none⟩), .pointer (some ⟨w.heap.size + 1, 0, none⟩)] r (fun w => closO _ _ w)
        (((w.alloc (.cells #[str key] 9)).alloc (.cells #[str t] 9)).alloc (.cells #[.string ⟨#[]⟩, .int .i64 0] 87)) fun w1 hb => (HC.out w1 (hb.mono (by simp))).mono fun e w' hk => by
          obtain ⟨hk, hb⟩ := hk
          rcases hk with ⟨_, rfl⟩ | ⟨hn, _⟩
          · exact ⟨rfl, hb⟩
          · exact absurd rfl hn
      have HT := Lib.hid to
      clear to hc2
      go_enter Tryz.func116, Tryz.ntmps116
      go_wp2_with (go_at_call 102; first | (refine (t1 _).mono ?_; rintro e w' ⟨rfl, rfl⟩) | (refine (t2 _).mono ?_; rintro e w' ⟨rfl, rfl⟩))
      refine HT.out.mono ?_
      rintro e w1 ⟨rfl, hb⟩
      unfold outVal
      have hz := hb.size
      simp at hz
      have hblk : w1.heap[w.heap.size + 2]? = some (.cells #[.string ⟨#[]⟩, .int .i64 0] 87 (0, 0)) := by
        rw [hb.block _ (by simp)]
        have := heap_alloc_new ((w.alloc (.cells #[str key] 9)).alloc (.cells #[str t] 9)) (.cells #[.string ⟨#[]⟩, .int .i64 0] 87)
        simpa using this
      obtain ⟨c0, c1, f0, f1, hz2⟩ := two hblk
      have HB := Lib.hid ((((((Below.refl _ _).alloc (Nat.le_refl _) _).alloc (by simp) _).alloc (by simp; omega) _).trans (hb.mono (by simp; omega)) : Below w.heap.size w w1))
      clear hb hblk
      go_wp2_with fail
      exact bodyPost_ret (v := .agg #[str r, .int .i64 0]) (by simp [results, Tryz.results116, go_sem, c0, c1]) rfl ⟨rfl, (HB.out.setCell (by first | (simp; done) | (simp; omega)) _).setCell (by first | (simp; done) | (simp; omega)) _⟩
    · have hr : r = [] := HR.out hc
      subst hr
      have to := termOut_fault 155 #[.pointer (some ⟨w.heap.size, 0, none⟩), .pointer (some ⟨w.heap.size + 1, 0, none⟩)] c (fun w => closO _ _ w)
        (((w.alloc (.cells #[str key] 9)).alloc (.cells #[str t] 9)).alloc (.cells #[.string ⟨#[]⟩, .int .i64 0] 87)) fun w1 hb => (HC.out w1 (hb.mono (by simp))).mono fun e w' hk => by
          obtain ⟨hk, hb⟩ := hk
          rcases hk with ⟨hn, _⟩ | ⟨_, rfl⟩
          · exact absurd hn hc
          · exact ⟨rfl, hb⟩
      have HT := Lib.hid to
      clear to hc2 hc
      go_enter Tryz.func116, Tryz.ntmps116
      go_wp2_with (go_at_call 102; first | (refine (t1 _).mono ?_; rintro e w' ⟨rfl, rfl⟩) | (refine (t2 _).mono ?_; rintro e w' ⟨rfl, rfl⟩))
      refine HT.out.mono ?_
      rintro e w1 ⟨rfl, hb⟩
      unfold outVal
      have hz := hb.size
      simp at hz
      have hblk : w1.heap[w.heap.size + 2]? = some (.cells #[.string ⟨#[]⟩, .int .i64 0] 87 (0, 0)) := by
        rw [hb.block _ (by simp)]
        have := heap_alloc_new ((w.alloc (.cells #[str key] 9)).alloc (.cells #[str t] 9)) (.cells #[.string ⟨#[]⟩, .int .i64 0] 87)
        simpa using this
      obtain ⟨c0, c1, f0, f1, hz2⟩ := two hblk
      have HB := Lib.hid ((((((Below.refl _ _).alloc (Nat.le_refl _) _).alloc (by simp) _).alloc (by simp; omega) _).trans (hb.mono (by simp; omega)) : Below w.heap.size w w1))
      clear hb hblk
      go_wp2_with fail
      exact bodyPost_ret (v := .agg #[.string ⟨#[]⟩, .int .i64 c]) (by simp [results, Tryz.results116, go_sem, c0, c1]) rfl ⟨rfl, (HB.out.setCell (by first | (simp; done) | (simp; omega)) _).setCell (by first | (simp; done) | (simp; omega)) _⟩
end Go.Proofs.YtonjohlecomeoaaGreat.iop

/- Contracts of NodeOf, of the program and of the model. -/
namespace Go.Proofs.YtonjohlecomeoaaGreat.ndo
open Go.RowKit Go.Proofs.YtonjohlecomeoaaGreat.tm Go.Proofs.YtonjohlecomeoaaGreat.lib Go.Proofs.YtonjohlecomeoaaGreat.rdr Go.Proofs.YtonjohlecomeoaaGreat.bld Go.Proofs.YtonjohlecomeoaaGreat.app Go.Proofs.YtonjohlecomeoaaGreat.arg Go.Proofs.YtonjohlecomeoaaGreat.grd Go.Proofs.YtonjohlecomeoaaGreat.txo Go.Proofs.YtonjohlecomeoaaGreat.snd Go.Proofs.YtonjohlecomeoaaGreat.sop Go.Proofs.YtonjohlecomeoaaGreat.mrk Go.Proofs.YtonjohlecomeoaaGreat.mrs
set_option linter.unusedVariables false

def opR (l : Bs) : Bs := match term l with | some T => T.op | none => []
def argsR (l : Bs) : List Bs := match term l with | some T => nodeArgs T | none => []

theorem opR_none {l : Bs} (h : term l = none) : opR l = [] := by unfold opR; rw [h]
theorem argsR_none {l : Bs} (h : term l = none) : argsR l = [] := by unfold argsR; rw [h]
theorem opR_some {l : Bs} {T : Tm} (h : term l = some T) : opR l = T.op := by unfold opR; rw [h]
theorem argsR_some {l : Bs} {T : Tm} (h : term l = some T) : argsR l = nodeArgs T := by unfold argsR; rw [h]

theorem Txs.rds {w : World} {B : Nat} {v : Value} {ls : List Bs} (h : Txs w B v ls) : Rds w v ls := by
  obtain ⟨g, off, cap, e, _, hg, _, hc⟩ := h
  exact .inr ⟨g, off, cap, e, hg, hc⟩

set_option maxHeartbeats 1000000 in
set_option maxRecDepth 100000 in
theorem specNodeOf_calls (s : ByteArray) (hs : s.size ≤ maxLen) (w : World) :
    Calls Tryz.prog 32 #[.string s] w fun e w' => ∃ v, e = .returned (.agg #[str (opR s.data.toList), v]) ∧ Below w.heap.size w w' ∧ Rds w' v (argsR s.data.toList) := by
  have a1 := srt.specTermRight_calls s hs
  rcases h : term s.data.toList with _ | T
  · rw [opR_none h, argsR_none h]
    rw [h] at a1
    simp only [Option.isSome] at a1
    clear h
    go_enter Tryz.func32, Tryz.ntmps32
    go_wp2_with fail
    refine (a1 _).mono ?_
    rintro e w1 ⟨rfl, hb⟩
    obtain ⟨c0, c1, f0, f1, hz⟩ := two (clo.new_kept hb)
    have HB := Lib.hid hb
    clear hb
    go_wp2_with fail
    exact bodyPost_ret (v := .agg #[.string ⟨#[]⟩, .slice none 0 0]) (by simp [results, Tryz.results32, go_sem, c0, c1]) rfl ⟨_, rfl, fin3 HB.out _ _, .inl ⟨rfl, _, _, rfl⟩⟩
  · rw [opR_some h, argsR_some h]
    rw [h] at a1
    simp only [Option.isSome] at a1
    have a2 := node_at s.data.toList T h
    obtain ⟨O, hO⟩ : ∃ O, O = T.op := ⟨_, rfl⟩
    simp only [← hO] at a2 ⊢
    change ∀ w, Calls _ _ #[.string s] w _ at a2
    clear h hO
    go_enter Tryz.func32, Tryz.ntmps32
    go_wp2_with fail
    refine (a1 _).mono ?_
    rintro e w1 ⟨rfl, hb⟩
    have HB := Lib.hid hb
    clear hb
    go_wp2_with fail
    refine (a2 _).mono ?_
    rintro e w2 ⟨v, rfl, hb2, hx⟩
    have HB2 := Lib.hid (HB.out.trans (hb2.mono HB.out.size))
    obtain ⟨c0, c1, f0, f1, hz⟩ := two (clo.new_kept HB2.out)
    obtain ⟨g, off, cap, rfl, hg, hg2, _, hc⟩ := hx
    have hgn : g ≠ w.heap.size := by have := HB.out.size; simp at this; omega
    have HC := Lib.hid hc
    clear hb2 hc
    go_wp2_with fail
    refine bodyPost_ret (v := .agg #[str O, .slice (some ⟨g, off, none⟩) (nodeArgs T).length cap]) (by simp [results, Tryz.results32, go_sem, c0, c1]) rfl ⟨_, rfl, fin3 HB2.out _ _, .inr ⟨g, off, cap, rfl, by simpa [World.setCell] using hg2, fun j l hj => ?_⟩⟩
    rw [World.cell?_setCell_other _ _ _ _ (fun e' => hgn (congrArg Addr.block e').symm), World.cell?_setCell_other _ _ _ _ (fun e' => hgn (congrArg Addr.block e').symm)]
    exact HC.out j l hj

set_option maxHeartbeats 1000000 in
set_option maxRecDepth 100000 in
theorem implNodeOf_calls (s : ByteArray) (hs : s.size ≤ maxLen) (w : World) :
    Calls Tryz.prog 105 #[.string s] w fun e w' => ∃ v, e = .returned (.agg #[str (opR s.data.toList), v]) ∧ Below w.heap.size w w' ∧ Wrs w' w.heap.size v (argsR s.data.toList) := by
  rcases h : term s.data.toList with _ | T
  · rw [opR_none h, argsR_none h]
    have a1 := termOf_no s hs h
    clear h
    go_enter Tryz.func105, Tryz.ntmps105
    go_wp2_with fail
    refine (a1 _).mono ?_
    rintro e w1 ⟨rfl, hb⟩
    obtain ⟨c0, c1, f0, f1, hz⟩ := two (clo.new_kept hb)
    have HB := Lib.hid hb
    clear hb
    go_wp2_with fail
    exact bodyPost_ret (v := .agg #[.string ⟨#[]⟩, .slice none 0 0]) (by simp [results, Tryz.results105, go_sem, c0, c1]) rfl ⟨_, rfl, fin3 HB.out _ _, .inl ⟨rfl, _, _, rfl⟩⟩
  · have a1 := termOf_yes s hs T h
    have hl : T.tx.length ≤ 1000000 := by have := (term_some.1 h).1; rw [(term_some.1 h).2.2.2]; omega
    rcases isAtom_cases T with hn | ⟨a, rfl⟩
    · rw [opR_some h, argsR_some h]
      have a2 := as_atom_no T hn
      have a3 := argTexts_calls T hn hl
      have hna : nodeArgs T = T.kids.map Tm.tx := by unfold nodeArgs; rw [hn]; rfl
      rw [hna]
      obtain ⟨ks, hks⟩ : ∃ ks, ks = T.kids.map Tm.tx := ⟨_, rfl⟩
      rw [← hks]
      simp only [← hks] at a3
      have m1 := met_op T
      have m2 := inv_op T
      have m3 := op_calls T
      obtain ⟨O, hO⟩ : ∃ O, O = T.op := ⟨_, rfl⟩
      rw [← hO]
      simp only [← hO] at m3
      rw [val_eq] at a1 a2 a3
      clear h hl hn hna hks hO
      go_enter Tryz.func105, Tryz.ntmps105
      go_wp2_with fail
      refine (a1 _).mono ?_
      rintro e w1 ⟨rfl, hb⟩
      have HB := Lib.hid hb
      clear hb
      go_wp2_with fail
      refine (m3 _).mono ?_
      rintro e w2 ⟨rfl, hb2⟩
      have HB2 := Lib.hid (HB.out.trans (hb2.mono HB.out.size))
      clear hb2
      go_wp2_with fail
      refine (a3 _).mono ?_
      rintro e w3 ⟨v, rfl, hb3, hx⟩
      have HB3 := Lib.hid (HB2.out.trans (hb3.mono HB2.out.size))
      obtain ⟨c0, c1, f0, f1, hz⟩ := two (clo.new_kept HB3.out)
      clear hb3
      rcases Strs.wrs hx with ⟨h0, ad, cap, rfl⟩ | ⟨g, off, cap, rfl, hBg, hg, hc, hf⟩
      · have H0 := Lib.hid h0
        clear h0 hx
        go_wp2_with fail
        exact bodyPost_ret (v := .agg #[str O, .slice ad 0 cap]) (by simp [results, Tryz.results105, go_sem, c0, c1]) rfl ⟨_, rfl, fin3 HB3.out _ _, .inl ⟨H0.out, _, _, rfl⟩⟩
      · have hgn : g ≠ w.heap.size := by have := HB2.out.size; simp at this; omega
        have hgw : w.heap.size ≤ g := by have := HB2.out.size; simp at this; omega
        have HC := Lib.hid hc
        have HF := Lib.hid hf
        clear hc hf hx
        go_wp2_with fail
        refine bodyPost_ret (v := .agg #[str O, .slice (some ⟨g, off, none⟩) ks.length cap]) (by simp [results, Tryz.results105, go_sem, c0, c1]) rfl ⟨_, rfl, fin3 HB3.out _ _, .inr ⟨g, off, cap, rfl, hgw, by simpa [World.setCell] using hg, fun j l hj => ?_, fun j hj => ?_⟩⟩
        · rw [World.cell?_setCell_other _ _ _ _ (fun e' => hgn (congrArg Addr.block e').symm), World.cell?_setCell_other _ _ _ _ (fun e' => hgn (congrArg Addr.block e').symm)]
          exact HC.out j l hj
        · rw [World.frozen?_setCell, World.frozen?_setCell]
          exact HF.out j hj
    · rw [opR_some h, argsR_some h]
      have a2 := as_atom a
      have hna : nodeArgs (.atom a) = [a] := rfl
      rw [hna]
      simp only [Tm.op]
      rw [val_eq] at a1 a2
      simp only [ty, inner] at a1 a2
      clear h hl hna
      go_enter Tryz.func105, Tryz.ntmps105
      go_wp2_with fail
      refine (a1 _).mono ?_
      rintro e w1 ⟨rfl, hb⟩
      have HB := Lib.hid hb
      obtain ⟨c0, c1, f0, f1, hz⟩ := two (clo.new_kept hb)
      clear hb
      go_wp2_with fail
      refine bodyPost_ret (v := .agg #[.string ⟨#[]⟩, .slice (some ⟨w1.heap.size, 0, none⟩) 1 1]) (by simp [results, Tryz.results105, go_sem, c0, c1, hz]) rfl ⟨_, rfl, fin2 HB.out _ _ _, .inr ⟨w1.heap.size, 0, 1, rfl, by omega, by simp [World.setCell], fun j l hj => ?_, fun j hj => ?_⟩⟩
      · match j, hj with
        | 0, hj => simp at hj; subst hj; simp [go_sem]
        | j + 1, hj => simp at hj
      · simp at hj
        subst hj
        simp [go_sem]
end Go.Proofs.YtonjohlecomeoaaGreat.ndo

/- signable, clonedTexts, withMacs of the program; what a LetterOut is. -/
namespace Go.Proofs.YtonjohlecomeoaaGreat.sgi
open Go.RowKit Go.Proofs.YtonjohlecomeoaaGreat.tm Go.Proofs.YtonjohlecomeoaaGreat.lib Go.Proofs.YtonjohlecomeoaaGreat.rdr Go.Proofs.YtonjohlecomeoaaGreat.bld Go.Proofs.YtonjohlecomeoaaGreat.app Go.Proofs.YtonjohlecomeoaaGreat.mrk Go.Proofs.YtonjohlecomeoaaGreat.mrs Go.Proofs.YtonjohlecomeoaaGreat.plf Go.Proofs.YtonjohlecomeoaaGreat.ltq Go.Proofs.YtonjohlecomeoaaGreat.ltv Go.Proofs.YtonjohlecomeoaaGreat.ltp Go.Proofs.YtonjohlecomeoaaGreat.prr Go.Proofs.YtonjohlecomeoaaGreat.kin Go.Proofs.YtonjohlecomeoaaGreat.lri
set_option linter.unusedVariables false

theorem Wrs.set {w : World} {B : Nat} {v : Value} {ls : List Bs} (h : Wrs w B v ls) {p : Addr} (hp : p.block < B) (x : Value) : Wrs (w.setCell p x) B v ls := by
  rcases h with h | ⟨g, off, cap, e, hB, hg, hc, hf⟩
  · exact .inl h
  · refine .inr ⟨g, off, cap, e, hB, by simpa [World.setCell] using hg, fun j l hj => ?_, fun j hj => ?_⟩
    · rw [World.cell?_setCell_other _ _ _ _ (fun e' => by have := congrArg Addr.block e'; simp at this; omega)]; exact hc j l hj
    · rw [World.frozen?_setCell]; exact hf j hj
theorem Wrs.base {w : World} {B B' : Nat} {v : Value} {ls : List Bs} (h : Wrs w B v ls) (hB : B' ≤ B) : Wrs w B' v ls := by
  rcases h with h | ⟨g, off, cap, e, hb, r⟩
  · exact .inl h
  · exact .inr ⟨g, off, cap, e, by omega, r⟩

def outA (m : Lt) (v : Value) (c : Int) : Array Value := #[.int .i64 m.k, .int .i64 m.f, .int .i64 m.t, .int .i64 m.c, v, str m.a, str m.b, .int .i64 c]

set_option maxHeartbeats 1000000 in
set_option maxRecDepth 100000 in
theorem signable_calls (m : Lt) (v : Value) (w : World) (h : Rds w v m.ps) (hl : m.ps.length ≤ 2000000) (hx : ∀ x ∈ m.ps, x.length ≤ 4000000) (ha : m.a.length ≤ 4000000) (hb : m.b.length ≤ 4000000) :
    Calls Tryz.prog 149 #[.agg (letA m v)] w fun e w' => e = .returned (.bool (signs m)) ∧ Below w.heap.size w w' := by
  have hr := fun w' (k : Below w.heap.size w w') => implRight_calls m v w' (Rds.below h k) hl hx ha hb
  unfold signs
  obtain ⟨r, hrr⟩ : ∃ r, r = right m := ⟨_, rfl⟩
  simp only [← hrr] at hr ⊢
  obtain ⟨k, f, t, c, ps, a, b⟩ := m
  have HR := Lib.hid hr
  unfold letA
  unfold letV wireV at HR
  simp only at HR ⊢
  clear h hr hx ha hb hrr hl
  cases hk : isK k with
  | false =>
    have hs : signed k = false := by
      unfold isK at hk
      unfold signed
      by_cases h1 : k = 1
      · subst h1; revert hk; decide
      · by_cases h2 : k = 2
        · subst h2; revert hk; decide
        · simp [h1, h2]
    rw [hs, Bool.and_false]
    have c1 := fun w => kindOf_no k hk w
    unfold kV kindV at c1
    simp only [show ¬ (0 : Int) = 1 by decide, show ¬ (0 : Int) = 2 by decide, show ¬ (0 : Int) = 3 by decide, show ¬ (0 : Int) = 4 by decide, if_false] at c1
    have C1 := Lib.hid c1
    clear c1 hk hs
    go_enter Tryz.func149, Tryz.ntmps149
    go_wp2_with fail
    refine (C1.out _).mono ?_
    rintro e w1 ⟨rfl, hb1⟩
    have HB1 := Lib.hid ((new1 _ _).trans (hb1.mono (by simp)))
    clear hb1
    go_wp2_with fail
    go_ret
    exact ⟨rfl, HB1.out.alloc HB1.out.size _⟩
  | true =>
    have c1 := fun w => kindOf_yes k hk w
    obtain ⟨kw, n1, n2, n3, hkv⟩ := kV_form k hk
    rw [hkv] at c1
    obtain ⟨kn, hkn⟩ : ∃ n, n = parts k := ⟨_, rfl⟩
    obtain ⟨ks, hks⟩ : ∃ n, n = signed k := ⟨_, rfl⟩
    rw [← hkn, ← hks] at c1
    rw [← hks]
    unfold kindV at c1
    have C1 := Lib.hid c1
    clear c1 hk hkv hkn hks
    cases ks with
    | false =>
      rw [Bool.and_false]
      go_enter Tryz.func149, Tryz.ntmps149
      go_wp2_with fail
      refine (C1.out _).mono ?_
      rintro e w1 ⟨rfl, hb1⟩
      have HB1 := Lib.hid ((new1 _ _).trans (hb1.mono (by simp)))
      clear hb1
      go_wp2_with fail
      go_ret
      exact ⟨rfl, HB1.out.alloc HB1.out.size _⟩
    | true =>
      rw [Bool.and_true]
      go_enter Tryz.func149, Tryz.ntmps149
      go_wp2_with fail
      refine (C1.out _).mono ?_
      rintro e w1 ⟨rfl, hb1⟩
      have X1 := Lib.hid (keptB (heap_alloc_new w _) hb1)
      obtain ⟨p0, p1, p2, p3, p4, p5, p6, pz⟩ := seven X1.out
      have HB1 := Lib.hid ((new1 _ _).trans (hb1.mono (by simp)))
      clear hb1
      go_wp2_with fail
      refine (HR.out _ (HB1.out.alloc HB1.out.size _)).mono ?_
      rintro e w2 ⟨rfl, hb2⟩
      have HB2 := Lib.hid ((HB1.out.alloc HB1.out.size (.cells #[str kw, .int .i64 kn, .bool true, .func (.func n1) #[] #[], .func (.func n2) #[] #[], .func (.func n3) #[] #[]] 128)).trans (hb2.mono (by have := HB1.out.size; simp; omega)))
      clear hb2
      go_wp2_with fail
      go_ret
      exact ⟨rfl, HB2.out⟩

/-- Behind j clones. -/
structure Cn (w : World) (ps : List Bs) (wr : World) (j : Nat) (v : Value) : Prop where
  le : j ≤ ps.length
  own : Strs wr w.heap.size v (ps.take j)
  bel : Below w.heap.size w wr

set_option maxHeartbeats 1000000 in
set_option maxRecDepth 100000 in
theorem cloned_calls (v : Value) (ps : List Bs) (w : World) (h : Rds w v ps) (hl : ps.length ≤ 900000) (hx : ∀ x ∈ ps, x.length ≤ 3000) :
    Calls Tryz.prog 167 #[v] w fun e w' => ∃ u, e = .returned u ∧ Below w.heap.size w w' ∧ Strs w' w.heap.size u ps := by
  obtain ⟨ad, cap, rfl⟩ := Go.Proofs.YtonjohlecomeoaaGreat.lri.rds_form h
  obtain ⟨n, hn⟩ : ∃ n, n = ps.length := ⟨_, rfl⟩
  rw [← hn] at h hl ⊢
  have H := Lib.hid h
  have HN := Lib.hid hn
  have HX := Lib.hid hx
  clear h hn hx
  go_enter Tryz.func167, Tryz.ntmps167
  go_wp2_with fail
  go_loopw [3, 5, 8, 9, 10, 11, 12, 13, 14, 15, 16, 17] (fun v3 _ v8 _ _ _ _ _ _ _ _ _ wr => ∃ j : Nat, v8 = .int .i64 j ∧ Cn w ps wr j v3) (fun _ _ v8 _ _ _ _ _ _ _ _ _ _ => n - (intOf v8).toNat)
  case atStart => exact ⟨0, rfl, Nat.zero_le _, by rw [List.take_zero]; exact Strs.nil _ _, Below.refl _ _⟩
  case round =>
    obtain ⟨j, rfl, C⟩ := hrel
    have HC := Lib.hid C
    have hj : j ≤ n := by have := C.le; have := HN.out; omega
    clear C
    by_cases hlt : j < n
    · obtain ⟨x, hx⟩ : ∃ x, ps[j]? = some x := ⟨_, List.getElem?_eq_getElem (by have := HN.out; omega)⟩
      rcases H.out with ⟨h0, _⟩ | ⟨g, off, cap', e, hg, hc⟩
      · rw [h0] at hx; simp at hx
      cases e
      have c1 : wr.cell? ⟨g, off + j, none⟩ = some (str x) := by rw [← hc j x hx]; exact HC.out.bel.cell (p := ⟨g, off + j, none⟩) hg
      have hxl := HX.out x (List.mem_of_getElem? hx)
      have cl := fun w => clo.clone_calls ⟨x.toArray⟩ (by show x.toArray.size ≤ _; simp; omega) w
      have CL := Lib.hid cl
      have HX1 := Lib.hid hx
      clear hx hc hg hxl cl
      go_wp2_with fail
      refine (CL.out _).mono ?_
      rintro e w2 ⟨rfl, hb2⟩
      have HB2 := Lib.hid (HC.out.bel.trans (hb2.mono HC.out.bel.size))
      have S2 := Lib.hid (Strs.below HC.out.own hb2)
      have hz := HB2.out.size
      clear hb2
      go_wp2_with (at_builtin; refine wp_putS (.tmp 12) (.tmp 15) x w.heap.size _ (ps.take j) rfl rfl rfl S2.out rfl (by have := HN.out; simp; omega) hz ?_; intro v3 w3 t3 b3)
      have HC3 := Lib.hid (show Cn w ps w3 (j + 1) v3 from ⟨by have := HN.out; omega, by
        rw [List.take_add_one, HX1.out]; exact t3, HB2.out.trans b3⟩)
      clear t3 b3
      go_roundw
      case rel => exact ⟨j + 1, by first | rfl | trivial | go_num, HC3.out⟩
      case measure => simp [intOf]; omega
    · obtain rfl : j = n := by omega
      go_wp2_with fail
      go_ret
      refine ⟨_, rfl, HC.out.bel, ?_⟩
      have := HC.out.own
      rw [HN.out, List.take_length] at this
      exact this

set_option maxHeartbeats 1000000 in
set_option maxRecDepth 100000 in
theorem withMacs_calls (m : Lt) (v : Value) (x y : Bs) (w : World) (h : Rds w v m.ps) (hl : m.ps.length ≤ 900000) (hx : ∀ x ∈ m.ps, x.length ≤ 3000) :
    Calls Tryz.prog 152 #[.agg (letA m v), str x, str y] w fun e w' => ∃ u, e = .returned (.agg (letA { m with a := x, b := y } u)) ∧ Below w.heap.size w w' ∧ Wrs w' w.heap.size u m.ps := by
  obtain ⟨ad, cap, hv⟩ := Go.Proofs.YtonjohlecomeoaaGreat.lri.rds_form h
  have ct := fun w' (k : Below w.heap.size w w') => cloned_calls v m.ps w' (Rds.below h k) hl hx
  have CT := Lib.hid ct
  clear ct hl hx h
  subst hv
  obtain ⟨k, f, t, c, ps, a, b⟩ := m
  unfold letA
  simp only at CT ⊢
  obtain ⟨n, hn⟩ : ∃ n, n = ps.length := ⟨_, rfl⟩
  rw [← hn] at CT ⊢
  have HN := Lib.hid hn
  clear hn
  go_enter Tryz.func152, Tryz.ntmps152
  go_wp2_with fail
  refine (CT.out _ ((new1 _ _).alloc (by simp) _)).mono ?_
  rintro e w1 ⟨u, rfl, hb, hs⟩
  have hw := Strs.wrs hs
  obtain ⟨ua, uc, hu⟩ := Go.Proofs.YtonjohlecomeoaaGreat.lri.rds_form hw.rds
  rw [← HN.out] at hu
  subst hu
  have X := alloc2 w (.cells #[.int .i64 k, .int .i64 f, .int .i64 t, .int .i64 c, .slice ad n cap, str a, str b] 131) (.cells #[.int .i64 0, .int .i64 0, .int .i64 0, .int .i64 0, .slice none 0 0, .string ⟨#[]⟩, .string ⟨#[]⟩] 24)
  have X0 := (hb.block w.heap.size (by simp; omega)).trans X.1
  have X1 := (hb.block (w.heap.size + 1) (by simp)).trans X.2
  obtain ⟨p0, p1, p2, p3, p4, p5, p6, pz⟩ := seven X0
  obtain ⟨q0, q1, q2, q3, q4, q5, q6, qz⟩ := seven X1
  have pf : ∀ o, w1.frozen? ⟨w.heap.size, o, none⟩ = false := fun o => by simp [World.frozen?, X0]
  have qf : ∀ o, w1.frozen? ⟨w.heap.size + 1, o, none⟩ = false := fun o => by simp [World.frozen?, X1]
  have HB := Lib.hid (((new1 w (.cells #[.int .i64 k, .int .i64 f, .int .i64 t, .int .i64 c, .slice ad n cap, str a, str b] 131)).alloc (by simp) (.cells #[.int .i64 0, .int .i64 0, .int .i64 0, .int .i64 0, .slice none 0 0, .string ⟨#[]⟩, .string ⟨#[]⟩] 24)).trans (hb.mono (by simp; omega)))
  have HW := Lib.hid hw
  clear hb hw hs X0 X1 X
  go_wp2_with fail
  refine bodyPost_ret (v := .agg #[.int .i64 k, .int .i64 f, .int .i64 t, .int .i64 c, .slice ua n uc, str x, str y]) (by simp [results, Tryz.results152, go_sem, q0, q1, q2, q3, q4, q5, q6]) rfl ⟨_, rfl, ?_, ?_⟩
  · exact (((((((((HB.out.setCell (by simp) _).setCell (by simp) _).setCell (by simp) _).setCell (by simp) _).setCell (by simp) _).setCell (by simp) _).setCell (by simp) _).setCell (by simp) _).setCell (by simp) _).setCell (by simp) _
  · refine Wrs.base ?_ (B := w.heap.size + 1 + 1) (by omega)
    have h := HW.out
    simp only [World.size_alloc] at h
    exact Wrs.set (Wrs.set (Wrs.set (Wrs.set (Wrs.set (Wrs.set (Wrs.set (Wrs.set (Wrs.set (Wrs.set h (by simp; omega) _) (by simp; omega) _) (by simp; omega) _) (by simp) _) (by simp) _) (by simp) _) (by simp) _) (by simp) _) (by simp) _) (by simp) _
end Go.Proofs.YtonjohlecomeoaaGreat.sgi

/- Small laws on blocks of eight cells. -/
namespace Go.Proofs.YtonjohlecomeoaaGreat.sgn
open Go.RowKit Go.Proofs.YtonjohlecomeoaaGreat.tm Go.Proofs.YtonjohlecomeoaaGreat.lib Go.Proofs.YtonjohlecomeoaaGreat.rdr Go.Proofs.YtonjohlecomeoaaGreat.bld Go.Proofs.YtonjohlecomeoaaGreat.app Go.Proofs.YtonjohlecomeoaaGreat.mrk Go.Proofs.YtonjohlecomeoaaGreat.mrs Go.Proofs.YtonjohlecomeoaaGreat.mkp Go.Proofs.YtonjohlecomeoaaGreat.ltq Go.Proofs.YtonjohlecomeoaaGreat.ltv Go.Proofs.YtonjohlecomeoaaGreat.ltp Go.Proofs.YtonjohlecomeoaaGreat.lri Go.Proofs.YtonjohlecomeoaaGreat.sgi
set_option linter.unusedVariables false

theorem set8 {B : Nat} {w w' : World} (h : Below B w w') {b : Nat} (hb : B ≤ b) (v0 v1 v2 v3 v4 v5 v6 v7 : Value) : Below B w ((((((((w'.setCell ⟨b, 0, none⟩ v0).setCell ⟨b, 1, none⟩ v1).setCell ⟨b, 2, none⟩ v2).setCell ⟨b, 3, none⟩ v3).setCell ⟨b, 4, none⟩ v4).setCell ⟨b, 5, none⟩ v5).setCell ⟨b, 6, none⟩ v6).setCell ⟨b, 7, none⟩ v7) :=
  (((((((h.setCell hb _).setCell hb _).setCell hb _).setCell hb _).setCell hb _).setCell hb _).setCell hb _).setCell hb _

theorem wset8 {B B' : Nat} {w : World} {u : Value} {ls : List Bs} (h : Wrs w B u ls) {b : Nat} (hb : b < B) (hB : B' ≤ B) (v0 v1 v2 v3 v4 v5 v6 v7 : Value) : Wrs ((((((((w.setCell ⟨b, 0, none⟩ v0).setCell ⟨b, 1, none⟩ v1).setCell ⟨b, 2, none⟩ v2).setCell ⟨b, 3, none⟩ v3).setCell ⟨b, 4, none⟩ v4).setCell ⟨b, 5, none⟩ v5).setCell ⟨b, 6, none⟩ v6).setCell ⟨b, 7, none⟩ v7) B' u ls :=
  Wrs.base (Wrs.set (Wrs.set (Wrs.set (Wrs.set (Wrs.set (Wrs.set (Wrs.set (Wrs.set h hb _) hb _) hb _) hb _) hb _) hb _) hb _) hb _) hB

theorem eight {w : World} {b : Nat} {v0 v1 v2 v3 v4 v5 v6 v7 : Value} {t : TypeId} (h : w.heap[b]? = some (.cells #[v0, v1, v2, v3, v4, v5, v6, v7] t (0, 0))) :
    w.cell? ⟨b, 0, none⟩ = some v0 ∧ w.cell? ⟨b, 1, none⟩ = some v1 ∧ w.cell? ⟨b, 2, none⟩ = some v2 ∧ w.cell? ⟨b, 3, none⟩ = some v3 ∧ w.cell? ⟨b, 4, none⟩ = some v4 ∧ w.cell? ⟨b, 5, none⟩ = some v5 ∧ w.cell? ⟨b, 6, none⟩ = some v6 ∧ w.cell? ⟨b, 7, none⟩ = some v7 ∧ b < w.heap.size ∧ ∀ o, w.frozen? ⟨b, o, none⟩ = false := by
  refine ⟨?_, ?_, ?_, ?_, ?_, ?_, ?_, ?_, (Array.getElem?_eq_some_iff.1 h).1, fun o => by simp [World.frozen?, h]⟩ <;> (rw [cell_of_row w b _ _ t (0, 0) h]; rfl)
end Go.Proofs.YtonjohlecomeoaaGreat.sgn
