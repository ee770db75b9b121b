/- Several small texts, one behind the other. -/
import Derived.Test.YtdikjmhnjlalbaaGreatSdpq
import Derived.Test.YtdikjmhnjlalbaaGreatQi
import Derived.Test.YtdikjmhnjlalbaaGreatQn
import Derived.Test.YtdikjmhnjlalbaaGreatQd
import Derived.Test.YtdikjmhnjlalbaaGreatQe
import Derived.StillTailTactics
import Derived.Lib.QuietBelow
import Derived.Deep.RegionWith

/- Contracts of the model's l02Deep at every depth, TermRight, DeepOf. -/
namespace Go.Proofs.YtdikjmhnjlalbaaGreat.srt
open Go.RowKit Go.Proofs.YtdikjmhnjlalbaaGreat.tm Go.Proofs.YtdikjmhnjlalbaaGreat.lib Go.Proofs.YtdikjmhnjlalbaaGreat.rdr Go.Proofs.YtdikjmhnjlalbaaGreat.bld Go.Proofs.YtdikjmhnjlalbaaGreat.app Go.Proofs.YtdikjmhnjlalbaaGreat.spm Go.Proofs.YtdikjmhnjlalbaaGreat.sar Go.Proofs.YtdikjmhnjlalbaaGreat.sdp
set_option linter.unusedVariables false

theorem sd_all : ∀ n, 1 ≤ n → n ≤ 24 → SD n
  | 0, h, _ => by omega
  | 1, h, _ => fun t ht w => sd_plain 1 h (by omega) t ht (.inr (.inr rfl)) w
  | n + 2, h, h2 => by
    intro t ht w
    have ih := sd_all (n + 1) (by omega) (by omega)
    by_cases ha : atomR t.data.toList = true
    · exact sd_plain (n + 2) h h2 t ht (.inl ha) w
    have ha' : atomR t.data.toList = false := by simpa using ha
    cases hg : args t.data.toList with
    | none => exact sd_plain (n + 2) h h2 t ht (.inr (.inl hg)) w
    | some a =>
      obtain ⟨op, ks, rfl, _⟩ := args_say hg
      by_cases hm : many op = 0 ∨ ks.length ≠ many op
      · exact sd_shape (n + 1) (by omega) (by omega) t ht ha' op ks hg hm w
      · have hm1 : many op ≠ 0 := fun e => hm (.inl e)
        have hm2 : ks.length = many op := Decidable.not_not.1 fun e => hm (.inr e)
        rcases many_cases op with h0 | ⟨h1, hop⟩ | ⟨h1, hop⟩
        · exact absurd h0 hm1
        · rw [h1] at hm2
          match ks, hm2 with
          | [x], _ =>
            rcases hop with rfl | rfl
            · refine sd_one (n + 1) (by omega) (by omega) ih t ht ha' oHash x hg rfl false rfl _ ?_ rfl w
              by_cases hx : dz (n + 1) x = 0
              · exact .inl ⟨hx, dz_mk_none ha' hg (mk_zero (x := x) (by simp) hx)⟩
              · exact .inr (.inr ⟨hx, (by intro e; cases e), dz_mk_some ha' hg (mk_hash hx)⟩)
            · refine sd_one (n + 1) (by omega) (by omega) ih t ht ha' oPub x hg rfl true rfl _ ?_ rfl w
              by_cases hx : dz (n + 1) x = 0
              · exact .inl ⟨hx, dz_mk_none ha' hg (mk_zero (x := x) (by simp) hx)⟩
              · by_cases hx2 : 2 ≤ dz (n + 1) x
                · exact .inr (.inl ⟨hx, rfl, hx2, dz_mk_none ha' hg (mk_pub_no hx2)⟩)
                · have hx1 : dz (n + 1) x = 1 := by omega
                  exact .inr (.inr ⟨hx, fun _ => hx1, by rw [dz_mk_some ha' hg (mk_pub_yes hx1), hx1]⟩)
        · rw [h1] at hm2
          match ks, hm2 with
          | [x, y], _ =>
            by_cases hdh : op = oDh
            · subst hdh
              refine sd_dh (n + 1) (by omega) (by omega) ih t ht ha' x y hg _ ?_ w
              by_cases hx : dz (n + 1) x = 0
              · exact .inl ⟨.inl hx, dz_mk_none ha' hg (mk_zero (x := x) (by simp) hx)⟩
              by_cases hx2 : 2 ≤ dz (n + 1) x
              · exact .inl ⟨.inr hx2, dz_mk_none ha' hg (mk_dh_no (.inl hx2))⟩
              have hx1 : dz (n + 1) x = 1 := by omega
              by_cases hy : dz (n + 1) y = 0
              · exact .inr (.inl ⟨hx1, .inl hy, dz_mk_none ha' hg (mk_zero (x := y) (by simp) hy)⟩)
              by_cases hy2 : 2 ≤ dz (n + 1) y
              · exact .inr (.inl ⟨hx1, .inr hy2, dz_mk_none ha' hg (mk_dh_no (.inr hy2))⟩)
              have hy1 : dz (n + 1) y = 1 := by omega
              cases hgt : gt x y
              · exact .inr (.inr (.inr ⟨hx1, hy1, rfl, dz_mk_some ha' hg ((mk_dh hx1 hy1).1 hgt)⟩))
              · exact .inr (.inr (.inl ⟨hx1, hy1, rfl, dz_mk_none ha' hg ((mk_dh hx1 hy1).2 hgt)⟩))
            · have hop3 : op = oPair ∨ op = oMac ∨ op = oShut := by
                rcases hop with h | h | h | h
                · exact .inl h
                · exact .inr (.inl h)
                · exact .inr (.inr h)
                · exact absurd h hdh
              have hs : secret op = false := by rcases hop3 with rfl | rfl | rfl <;> rfl
              refine sd_two (n + 1) (by omega) (by omega) ih t ht ha' op x y hg h1 hs (by rw [beq_eq_false_iff_ne]; exact hdh) _ ?_ w
              by_cases hx : dz (n + 1) x = 0
              · exact .inl ⟨hx, dz_mk_none ha' hg (mk_zero (x := x) (by simp) hx)⟩
              by_cases hy : dz (n + 1) y = 0
              · exact .inr (.inl ⟨hx, hy, dz_mk_none ha' hg (mk_zero (x := y) (by simp) hy)⟩)
              · exact .inr (.inr ⟨hx, hy, dz_mk_some ha' hg (mk_pms hop3 hx hy)⟩)

/-- How deep: of what is not right 0. -/
def deepT (l : Bs) : Nat := match term l with | some T => T.deep | none => 0

theorem deepT_small {l : Bs} (h : l.length ≤ 3000) : deepT l = dz 24 l := by
  have e : term l = pz 24 l := by unfold term; rw [if_pos h]
  unfold deepT dz
  rw [e]
  cases pz 24 l <;> rfl
theorem deepT_big {l : Bs} (h : ¬ l.length ≤ 3000) : deepT l = 0 ∧ term l = none := by
  have : term l = none := by unfold term; rw [if_neg h]
  exact ⟨by unfold deepT; rw [this], this⟩
theorem term_isSome (l : Bs) : (term l).isSome = decide (0 < deepT l) := by
  unfold deepT
  cases h : term l with
  | none => rfl
  | some T => have := deep_pos T; simp; omega

set_option maxRecDepth 100000 in
theorem specTermRight_calls (s : ByteArray) (hs : s.size ≤ maxLen) (w : World) :
    Calls Tryz.prog 30 #[.string s] w fun e w' => e = .returned (.bool (term s.data.toList).isSome) ∧ Below w.heap.size w w' := by
  unfold maxLen at hs
  by_cases hbig : 3000 < s.size
  · have d0 : decide ((s.size : Int) ≤ 3000) = false := by simp; omega
    rw [(deepT_big (l := s.data.toList) (by show ¬ s.size ≤ 3000; omega)).2]
    go_enter Tryz.func30, Tryz.ntmps30
    go_wp2_with fail
    go_ret
    exact ⟨rfl, Below.refl _ _⟩
  · have d0 : decide ((s.size : Int) ≤ 3000) = true := by simp; omega
    have e0 := term_isSome s.data.toList
    rw [deepT_small (show s.data.toList.length ≤ 3000 by show s.size ≤ 3000; omega)] at e0
    rw [e0]
    have c1 := sd_all 24 (by omega) (by omega) s (by omega)
    obtain ⟨d, hd⟩ : ∃ d, dz 24 s.data.toList = d := ⟨_, rfl⟩
    rw [hd] at c1 ⊢
    clear hd e0
    go_enter Tryz.func30, Tryz.ntmps30
    go_wp2_with (go_at_call 43; refine (c1 _).mono ?_; rintro e w1 ⟨rfl, hb⟩)
    go_ret
    exact ⟨ret_bool (by simp), hb⟩

end Go.Proofs.YtdikjmhnjlalbaaGreat.srt

/- TermRight at any text, of the model and of the program. -/
namespace Go.Proofs.YtdikjmhnjlalbaaGreat.gky
open Go.RowKit Go.Proofs.YtdikjmhnjlalbaaGreat.tm Go.Proofs.YtdikjmhnjlalbaaGreat.lib Go.Proofs.YtdikjmhnjlalbaaGreat.rdr Go.Proofs.YtdikjmhnjlalbaaGreat.bld Go.Proofs.YtdikjmhnjlalbaaGreat.app Go.Proofs.YtdikjmhnjlalbaaGreat.sop Go.Proofs.YtdikjmhnjlalbaaGreat.mkp Go.Proofs.YtdikjmhnjlalbaaGreat.mrk Go.Proofs.YtdikjmhnjlalbaaGreat.ltp Go.Proofs.YtdikjmhnjlalbaaGreat.ltq Go.Proofs.YtdikjmhnjlalbaaGreat.ltv
set_option linter.unusedVariables false

theorem right_any (l : Bs) (b : Bool) (h : okT l = b) (hl : l.length ≤ 4000000) (w : World) :
    Calls Tryz.prog 30 #[str l] w fun e w' => e = .returned (.bool b) ∧ Below w.heap.size w w' := by
  have := srt.specTermRight_calls ⟨l.toArray⟩ (by unfold maxLen; show l.toArray.size ≤ _; simp; omega) w
  rw [show (term (⟨l.toArray⟩ : ByteArray).data.toList).isSome = b from h] at this
  exact this
/-- .. of the program. -/
theorem iright_any (l : Bs) (b : Bool) (h : okT l = b) (hl : l.length ≤ 4000000) (w : World) :
    Calls Tryz.prog 48 #[str l] w fun e w' => e = .returned (.bool b) ∧ Below w.heap.size w w' := by
  have := grd.implTermRight_calls ⟨l.toArray⟩ (by unfold maxLen; show l.toArray.size ≤ _; simp; omega) w
  rw [show (term (⟨l.toArray⟩ : ByteArray).data.toList).isSome = b from h] at this
  exact this

end Go.Proofs.YtdikjmhnjlalbaaGreat.gky

/- l02Is, l04No, l04Macs of the model. -/
namespace Go.Proofs.YtdikjmhnjlalbaaGreat.lsm
open Go.RowKit Go.Sort Go.Proofs.YtdikjmhnjlalbaaGreat.tm Go.Proofs.YtdikjmhnjlalbaaGreat.lib Go.Proofs.YtdikjmhnjlalbaaGreat.rdr Go.Proofs.YtdikjmhnjlalbaaGreat.bld Go.Proofs.YtdikjmhnjlalbaaGreat.app Go.Proofs.YtdikjmhnjlalbaaGreat.mrk Go.Proofs.YtdikjmhnjlalbaaGreat.ltq Go.Proofs.YtdikjmhnjlalbaaGreat.ltv Go.Proofs.YtdikjmhnjlalbaaGreat.ltp Go.Proofs.YtdikjmhnjlalbaaGreat.gky
set_option linter.unusedVariables false

theorem seven {w : World} {b : Nat} {v0 v1 v2 v3 v4 v5 v6 : Value} {t : TypeId} (h : w.heap[b]? = some (.cells #[v0, v1, v2, v3, v4, v5, v6] t (0, 0))) :
    w.cell? ⟨b, 0, none⟩ = some v0 ∧ w.cell? ⟨b, 1, none⟩ = some v1 ∧ w.cell? ⟨b, 2, none⟩ = some v2 ∧ w.cell? ⟨b, 3, none⟩ = some v3 ∧ w.cell? ⟨b, 4, none⟩ = some v4 ∧ w.cell? ⟨b, 5, none⟩ = some v5 ∧ w.cell? ⟨b, 6, none⟩ = some v6 ∧ b < w.heap.size := by
  refine ⟨?_, ?_, ?_, ?_, ?_, ?_, ?_, (Array.getElem?_eq_some_iff.1 h).1⟩ <;> (rw [cell_of_row w b _ _ t (0, 0) h]; rfl)
theorem keptB {W W' : World} {b : Nat} {o : Obj} (h : W.heap[b]? = some o) (k : Below W.heap.size W W') : W'.heap[b]? = some o :=
  (k.block b (Array.getElem?_eq_some_iff.1 h).1).trans h
theorem new1 (w : World) (o : Obj) : Below w.heap.size w (w.alloc o) := (Below.refl _ _).alloc (Nat.le_refl _) _

theorem l04No_calls (n : Int) (w : World) : Calls Tryz.prog 28 #[.int .i64 n] w fun e w' => e = .returned (.bool (endR n)) ∧ Below w.heap.size w w' := by
  unfold endR
  go_enter Tryz.func28, Tryz.ntmps28
  go_wp2_with (go_at_call 31; refine (l02Is_calls _ _ _ _).mono ?_; rintro e w' ⟨rfl, rfl⟩)
  go_ret
  exact ⟨rfl, Below.refl _ _⟩

set_option maxHeartbeats 1000000 in
set_option maxRecDepth 100000 in
theorem macsD (k f t c : Int) (v : Value) (a b : Bs) (w : World) (hk : k = 3 ∨ k = 4) :
    Calls Tryz.prog 29 #[.agg #[.int .i64 k, .int .i64 f, .int .i64 t, .int .i64 c, v, str a, str b]] w fun e w' => e = .returned (.bool (decide (a = []) && decide (b = []))) ∧ Below w.heap.size w w' := by
  by_cases h1 : a = []
  · subst h1
    by_cases h2 : b = []
    · subst h2
      rcases hk with rfl | rfl
      all_goals
        go_enter Tryz.func29, Tryz.ntmps29
        go_wp2_with fail
        go_ret
        exact ⟨rfl, new1 _ _⟩
    · obtain ⟨d1, d2, d3⟩ := e_no h2
      simp only [decide_eq_false h2, Bool.and_false]
      clear h2
      rcases hk with rfl | rfl
      all_goals
        go_enter Tryz.func29, Tryz.ntmps29
        go_wp2_with fail
        go_ret
        exact ⟨rfl, new1 _ _⟩
  · obtain ⟨d1, d2, d3⟩ := e_no h1
    simp only [decide_eq_false h1, Bool.false_and]
    clear h1
    rcases hk with rfl | rfl
    all_goals
      go_enter Tryz.func29, Tryz.ntmps29
      go_wp2_with fail
      go_ret
      exact ⟨rfl, new1 _ _⟩

set_option maxHeartbeats 2000000 in
set_option maxRecDepth 100000 in
theorem macsS (k f t c : Int) (v : Value) (a b : Bs) (w : World) (hk : k = 1 ∨ k = 2) (ha : a.length ≤ 4000000) (hb : b.length ≤ 4000000) :
    Calls Tryz.prog 29 #[.agg #[.int .i64 k, .int .i64 f, .int .i64 t, .int .i64 c, v, str a, str b]] w fun e w' => e = .returned (.bool (macsR a b)) ∧ Below w.heap.size w w' := by
  unfold macsR
  by_cases h1 : a = []
  · subst h1
    simp only [if_true]
    by_cases h2 : b = []
    · subst h2
      rcases hk with rfl | rfl
      all_goals
        go_enter Tryz.func29, Tryz.ntmps29
        go_wp2_with fail
        go_ret
        exact ⟨rfl, new1 _ _⟩
    · obtain ⟨d1, d2, d3⟩ := e_no h2
      simp only [decide_eq_false h2]
      clear h2
      rcases hk with rfl | rfl
      all_goals
        go_enter Tryz.func29, Tryz.ntmps29
        go_wp2_with fail
        go_ret
        exact ⟨rfl, new1 _ _⟩
  · obtain ⟨d1, d2, d3⟩ := e_no h1
    simp only [if_neg h1]
    clear h1
    cases hA : okT a with
    | false =>
      have c1 := fun w => right_any a false hA ha w
      have C1 := Lib.hid c1
      simp only [Bool.false_and]
      clear c1 hA
      rcases hk with rfl | rfl
      all_goals
        go_enter Tryz.func29, Tryz.ntmps29
        go_wp2_with fail
        refine (C1.out _).mono ?_
        rintro e w1 ⟨rfl, hb1⟩
        have HB1 := Lib.hid ((new1 _ _).trans (hb1.mono (by simp)))
        clear hb1
        go_wp2_with fail
        go_ret
        exact ⟨rfl, HB1.out⟩
    | true =>
      have c1 := fun w => right_any a true hA ha w
      have C1 := Lib.hid c1
      simp only [Bool.true_and]
      clear c1 hA
      by_cases h2 : b = []
      · subst h2
        simp only [decide_true, Bool.true_or]
        rcases hk with rfl | rfl
        all_goals
          go_enter Tryz.func29, Tryz.ntmps29
          go_wp2_with fail
          refine (C1.out _).mono ?_
          rintro e w1 ⟨rfl, hb1⟩
          have X1 := Lib.hid (keptB (heap_alloc_new w _) hb1)
          obtain ⟨p0, p1, p2, p3, p4, p5, p6, pz⟩ := seven X1.out
          have HB1 := Lib.hid ((new1 _ _).trans (hb1.mono (by simp)))
          clear hb1
          go_wp2_with fail
          go_ret
          exact ⟨rfl, HB1.out⟩
      · obtain ⟨d4, d5, d6⟩ := e_no h2
        have c2 := fun w => right_any b (okT b) rfl hb w
        simp only [decide_eq_false h2, Bool.false_or]
        obtain ⟨ob, hob⟩ : ∃ x, x = okT b := ⟨_, rfl⟩
        simp only [← hob] at c2 ⊢
        have C2 := Lib.hid c2
        clear hob c2 h2
        rcases hk with rfl | rfl
        all_goals
          go_enter Tryz.func29, Tryz.ntmps29
          go_wp2_with fail
          refine (C1.out _).mono ?_
          rintro e w1 ⟨rfl, hb1⟩
          have X1 := Lib.hid (keptB (heap_alloc_new w _) hb1)
          obtain ⟨p0, p1, p2, p3, p4, p5, p6, pz⟩ := seven X1.out
          have HB1 := Lib.hid ((new1 _ _).trans (hb1.mono (by simp)))
          clear hb1
          go_wp2_with fail
          refine (C2.out _).mono ?_
          rintro e w2 ⟨rfl, hb2⟩
          have HB2 := Lib.hid (HB1.out.trans (hb2.mono HB1.out.size))
          clear hb2
          go_wp2_with fail
          go_ret
          exact ⟨rfl, HB2.out⟩

/-- The count of a kind. -/
def cq (k c : Int) : Bool := if k = 4 then timeR c else decide (c = 0)
theorem eq0 (n : Int) : (n == 0) = decide (n = 0) := by rw [Bool.eq_iff_iff]; simp

/-- Behind j parts. -/
structure Lp (w : World) (ps : List Bs) (wr : World) (j : Nat) (o : Obj) : Prop where
  le : j ≤ ps.length
  all : ∀ i x, i < j → ps[i]? = some x → okT x = true
  bel : Below w.heap.size w wr
  x : wr.heap[w.heap.size]? = some o
theorem Lp.step {w : World} {ps : List Bs} {wr w3 : World} {j : Nat} {o : Obj} {x : Bs} (h : Lp w ps wr j o) (hx : ps[j]? = some x) (ho : okT x = true) (k : Below wr.heap.size wr w3) : Lp w ps w3 (j + 1) o :=
  ⟨(List.getElem?_eq_some_iff.1 hx).1, fun i y hi hy => by
    by_cases e : i = j
    · subst e; rw [hx] at hy; cases hy; exact ho
    · exact h.all i y (by omega) hy, h.bel.trans (k.mono h.bel.size), keptB h.x k⟩
theorem Lp.done {w : World} {ps : List Bs} {wr : World} {j : Nat} {o : Obj} (h : Lp w ps wr j o) (e : j = ps.length) : ps.all okT = true := by
  rw [List.all_eq_true]
  intro x hx
  obtain ⟨i, hi, e2⟩ := List.getElem_of_mem hx
  exact h.all i x (by omega) (by rw [← e2]; exact List.getElem?_eq_getElem hi)
end Go.Proofs.YtdikjmhnjlalbaaGreat.lsm

/- signable, clonedTexts, withMacs of the program; what a LetterOut is. -/
namespace Go.Proofs.YtdikjmhnjlalbaaGreat.sgi
open Go.RowKit Go.Proofs.YtdikjmhnjlalbaaGreat.tm Go.Proofs.YtdikjmhnjlalbaaGreat.lib Go.Proofs.YtdikjmhnjlalbaaGreat.rdr Go.Proofs.YtdikjmhnjlalbaaGreat.bld Go.Proofs.YtdikjmhnjlalbaaGreat.app Go.Proofs.YtdikjmhnjlalbaaGreat.mrk Go.Proofs.YtdikjmhnjlalbaaGreat.mrs Go.Proofs.YtdikjmhnjlalbaaGreat.plf Go.Proofs.YtdikjmhnjlalbaaGreat.ltq Go.Proofs.YtdikjmhnjlalbaaGreat.ltv Go.Proofs.YtdikjmhnjlalbaaGreat.ltp Go.Proofs.YtdikjmhnjlalbaaGreat.prr Go.Proofs.YtdikjmhnjlalbaaGreat.kin Go.Proofs.YtdikjmhnjlalbaaGreat.lri
set_option linter.unusedVariables false

theorem Wrs.set {w : World} {B : Nat} {v : Value} {ls : List Bs} (h : Wrs w B v ls) {p : Addr} (hp : p.block < B) (x : Value) : Wrs (w.setCell p x) B v ls := by
  rcases h with h | ⟨g, off, cap, e, hB, hg, hc, hf⟩
  · exact .inl h
  · refine .inr ⟨g, off, cap, e, hB, by simpa [World.setCell] using hg, fun j l hj => ?_, fun j hj => ?_⟩
    · rw [World.cell?_setCell_other _ _ _ _ (fun e' => by have := congrArg Addr.block e'; simp at this; omega)]; exact hc j l hj
    · rw [World.frozen?_setCell]; exact hf j hj
theorem Wrs.base {w : World} {B B' : Nat} {v : Value} {ls : List Bs} (h : Wrs w B v ls) (hB : B' ≤ B) : Wrs w B' v ls := by
  rcases h with h | ⟨g, off, cap, e, hb, r⟩
  · exact .inl h
  · exact .inr ⟨g, off, cap, e, by omega, r⟩

def outA (m : Lt) (v : Value) (c : Int) : Array Value := #[.int .i64 m.k, .int .i64 m.f, .int .i64 m.t, .int .i64 m.c, v, str m.a, str m.b, .int .i64 c]

set_option maxHeartbeats 1000000 in
set_option maxRecDepth 100000 in
theorem signable_calls (m : Lt) (v : Value) (w : World) (h : Rds w v m.ps) (hl : m.ps.length ≤ 2000000) (hx : ∀ x ∈ m.ps, x.length ≤ 4000000) (ha : m.a.length ≤ 4000000) (hb : m.b.length ≤ 4000000) :
    Calls Tryz.prog 50 #[.agg (letA m v)] w fun e w' => e = .returned (.bool (signs m)) ∧ Below w.heap.size w w' := by
  have hr := fun w' (k : Below w.heap.size w w') => implRight_calls m v w' (Rds.below h k) hl hx ha hb
  unfold signs
  obtain ⟨r, hrr⟩ : ∃ r, r = right m := ⟨_, rfl⟩
  simp only [← hrr] at hr ⊢
  obtain ⟨k, f, t, c, ps, a, b⟩ := m
  have HR := Lib.hid hr
  unfold letA
  unfold letV wireV at HR
  simp only at HR ⊢
  clear h hr hx ha hb hrr hl
  cases hk : isK k with
  | false =>
    have hs : signed k = false := by
      unfold isK at hk
      unfold signed
      by_cases h1 : k = 1
      · subst h1; revert hk; decide
      · by_cases h2 : k = 2
        · subst h2; revert hk; decide
        · simp [h1, h2]
    rw [hs, Bool.and_false]
    have c1 := fun w => kindOf_no k hk w
    unfold kV kindV at c1
    simp only [show ¬ (0 : Int) = 1 by decide, show ¬ (0 : Int) = 2 by decide, show ¬ (0 : Int) = 3 by decide, show ¬ (0 : Int) = 4 by decide, if_false] at c1
    have C1 := Lib.hid c1
    clear c1 hk hs
    go_enter Tryz.func50, Tryz.ntmps50
    go_wp2_with fail
    refine (C1.out _).mono ?_
    rintro e w1 ⟨rfl, hb1⟩
    have HB1 := Lib.hid ((new1 _ _).trans (hb1.mono (by simp)))
    clear hb1
    go_wp2_with fail
    go_ret
    exact ⟨rfl, HB1.out.alloc HB1.out.size _⟩
  | true =>
    have c1 := fun w => kindOf_yes k hk w
    obtain ⟨kw, n1, n2, n3, hkv⟩ := kV_form k hk
    rw [hkv] at c1
    obtain ⟨kn, hkn⟩ : ∃ n, n = parts k := ⟨_, rfl⟩
    obtain ⟨ks, hks⟩ : ∃ n, n = signed k := ⟨_, rfl⟩
    rw [← hkn, ← hks] at c1
    rw [← hks]
    unfold kindV at c1
    have C1 := Lib.hid c1
    clear c1 hk hkv hkn hks
    cases ks with
    | false =>
      rw [Bool.and_false]
      go_enter Tryz.func50, Tryz.ntmps50
      go_wp2_with fail
      refine (C1.out _).mono ?_
      rintro e w1 ⟨rfl, hb1⟩
      have HB1 := Lib.hid ((new1 _ _).trans (hb1.mono (by simp)))
      clear hb1
      go_wp2_with fail
      go_ret
      exact ⟨rfl, HB1.out.alloc HB1.out.size _⟩
    | true =>
      rw [Bool.and_true]
      go_enter Tryz.func50, Tryz.ntmps50
      go_wp2_with fail
      refine (C1.out _).mono ?_
      rintro e w1 ⟨rfl, hb1⟩
      have X1 := Lib.hid (keptB (heap_alloc_new w _) hb1)
      obtain ⟨p0, p1, p2, p3, p4, p5, p6, pz⟩ := seven X1.out
      have HB1 := Lib.hid ((new1 _ _).trans (hb1.mono (by simp)))
      clear hb1
      go_wp2_with fail
      refine (HR.out _ (HB1.out.alloc HB1.out.size _)).mono ?_
      rintro e w2 ⟨rfl, hb2⟩
      have HB2 := Lib.hid ((HB1.out.alloc HB1.out.size (.cells #[str kw, .int .i64 kn, .bool true, .func (.func n1) #[] #[], .func (.func n2) #[] #[], .func (.func n3) #[] #[]] 56)).trans (hb2.mono (by have := HB1.out.size; simp; omega)))
      clear hb2
      go_wp2_with fail
      go_ret
      exact ⟨rfl, HB2.out⟩

/-- Behind j clones. -/
structure Cn (w : World) (ps : List Bs) (wr : World) (j : Nat) (v : Value) : Prop where
  le : j ≤ ps.length
  own : Strs wr w.heap.size v (ps.take j)
  bel : Below w.heap.size w wr

set_option maxHeartbeats 1000000 in
set_option maxRecDepth 100000 in
theorem cloned_calls (v : Value) (ps : List Bs) (w : World) (h : Rds w v ps) (hl : ps.length ≤ 900000) (hx : ∀ x ∈ ps, x.length ≤ 3000) :
    Calls Tryz.prog 70 #[v] w fun e w' => ∃ u, e = .returned u ∧ Below w.heap.size w w' ∧ Strs w' w.heap.size u ps := by
  obtain ⟨ad, cap, rfl⟩ := Go.Proofs.YtdikjmhnjlalbaaGreat.lri.rds_form h
  obtain ⟨n, hn⟩ : ∃ n, n = ps.length := ⟨_, rfl⟩
  rw [← hn] at h hl ⊢
  have H := Lib.hid h
  have HN := Lib.hid hn
  have HX := Lib.hid hx
  clear h hn hx
  go_enter Tryz.func70, Tryz.ntmps70
  go_wp2_with fail
  go_loopw [3, 5, 8, 9, 10, 11, 12, 13, 14, 15, 16, 17] (fun v3 _ v8 _ _ _ _ _ _ _ _ _ wr => ∃ j : Nat, v8 = .int .i64 j ∧ Cn w ps wr j v3) (fun _ _ v8 _ _ _ _ _ _ _ _ _ _ => n - (intOf v8).toNat)
  case atStart => exact ⟨0, rfl, Nat.zero_le _, by rw [List.take_zero]; exact Strs.nil _ _, Below.refl _ _⟩
  case round =>
    obtain ⟨j, rfl, C⟩ := hrel
    have HC := Lib.hid C
    have hj : j ≤ n := by have := C.le; have := HN.out; omega
    clear C
    by_cases hlt : j < n
    · obtain ⟨x, hx⟩ : ∃ x, ps[j]? = some x := ⟨_, List.getElem?_eq_getElem (by have := HN.out; omega)⟩
      rcases H.out with ⟨h0, _⟩ | ⟨g, off, cap', e, hg, hc⟩
      · rw [h0] at hx; simp at hx
      cases e
      have c1 : wr.cell? ⟨g, off + j, none⟩ = some (str x) := by rw [← hc j x hx]; exact HC.out.bel.cell (p := ⟨g, off + j, none⟩) hg
      have hxl := HX.out x (List.mem_of_getElem? hx)
      have cl := fun w => clo.clone_calls ⟨x.toArray⟩ (by show x.toArray.size ≤ _; simp; omega) w
      have CL := Lib.hid cl
      have HX1 := Lib.hid hx
      clear hx hc hg hxl cl
      go_wp2_with fail
      refine (CL.out _).mono ?_
      rintro e w2 ⟨rfl, hb2⟩
      have HB2 := Lib.hid (HC.out.bel.trans (hb2.mono HC.out.bel.size))
      have S2 := Lib.hid (Strs.below HC.out.own hb2)
      have hz := HB2.out.size
      clear hb2
      go_wp2_with (at_builtin; refine wp_putS (.tmp 12) (.tmp 15) x w.heap.size _ (ps.take j) rfl rfl rfl S2.out rfl (by have := HN.out; simp; omega) hz ?_; intro v3 w3 t3 b3)
      have HC3 := Lib.hid (show Cn w ps w3 (j + 1) v3 from ⟨by have := HN.out; omega, by
        rw [List.take_add_one, HX1.out]; exact t3, HB2.out.trans b3⟩)
      clear t3 b3
      go_roundw
      case rel => exact ⟨j + 1, by first | rfl | trivial | go_num, HC3.out⟩
      case measure => simp [intOf]; omega
    · obtain rfl : j = n := by omega
      go_wp2_with fail
      go_ret
      refine ⟨_, rfl, HC.out.bel, ?_⟩
      have := HC.out.own
      rw [HN.out, List.take_length] at this
      exact this

set_option maxHeartbeats 1000000 in
set_option maxRecDepth 100000 in
theorem withMacs_calls (m : Lt) (v : Value) (x y : Bs) (w : World) (h : Rds w v m.ps) (hl : m.ps.length ≤ 900000) (hx : ∀ x ∈ m.ps, x.length ≤ 3000) :
    Calls Tryz.prog 52 #[.agg (letA m v), str x, str y] w fun e w' => ∃ u, e = .returned (.agg (letA { m with a := x, b := y } u)) ∧ Below w.heap.size w w' ∧ Wrs w' w.heap.size u m.ps := by
  obtain ⟨ad, cap, hv⟩ := Go.Proofs.YtdikjmhnjlalbaaGreat.lri.rds_form h
  have ct := fun w' (k : Below w.heap.size w w') => cloned_calls v m.ps w' (Rds.below h k) hl hx
  have CT := Lib.hid ct
  clear ct hl hx h
  subst hv
  obtain ⟨k, f, t, c, ps, a, b⟩ := m
  unfold letA
  simp only at CT ⊢
  obtain ⟨n, hn⟩ : ∃ n, n = ps.length := ⟨_, rfl⟩
  rw [← hn] at CT ⊢
  have HN := Lib.hid hn
  clear hn
  go_enter Tryz.func52, Tryz.ntmps52
  go_wp2_with fail
  refine (CT.out _ ((new1 _ _).alloc (by simp) _)).mono ?_
  rintro e w1 ⟨u, rfl, hb, hs⟩
  have hw := Strs.wrs hs
  obtain ⟨ua, uc, hu⟩ := Go.Proofs.YtdikjmhnjlalbaaGreat.lri.rds_form hw.rds
  rw [← HN.out] at hu
  subst hu
  have X := alloc2 w (.cells #[.int .i64 k, .int .i64 f, .int .i64 t, .int .i64 c, .slice ad n cap, str a, str b] 59) (.cells #[.int .i64 0, .int .i64 0, .int .i64 0, .int .i64 0, .slice none 0 0, .string ⟨#[]⟩, .string ⟨#[]⟩] 35)
  have X0 := (hb.block w.heap.size (by simp; omega)).trans X.1
  have X1 := (hb.block (w.heap.size + 1) (by simp)).trans X.2
  obtain ⟨p0, p1, p2, p3, p4, p5, p6, pz⟩ := seven X0
  obtain ⟨q0, q1, q2, q3, q4, q5, q6, qz⟩ := seven X1
  have pf : ∀ o, w1.frozen? ⟨w.heap.size, o, none⟩ = false := fun o => by simp [World.frozen?, X0]
  have qf : ∀ o, w1.frozen? ⟨w.heap.size + 1, o, none⟩ = false := fun o => by simp [World.frozen?, X1]
  have HB := Lib.hid (((new1 w (.cells #[.int .i64 k, .int .i64 f, .int .i64 t, .int .i64 c, .slice ad n cap, str a, str b] 59)).alloc (by simp) (.cells #[.int .i64 0, .int .i64 0, .int .i64 0, .int .i64 0, .slice none 0 0, .string ⟨#[]⟩, .string ⟨#[]⟩] 35)).trans (hb.mono (by simp; omega)))
  have HW := Lib.hid hw
  clear hb hw hs X0 X1 X
  go_wp2_with fail
  refine bodyPost_ret (v := .agg #[.int .i64 k, .int .i64 f, .int .i64 t, .int .i64 c, .slice ua n uc, str x, str y]) (by simp [results, Tryz.results52, go_sem, q0, q1, q2, q3, q4, q5, q6]) rfl ⟨_, rfl, ?_, ?_⟩
  · exact (((((((((HB.out.setCell (by simp) _).setCell (by simp) _).setCell (by simp) _).setCell (by simp) _).setCell (by simp) _).setCell (by simp) _).setCell (by simp) _).setCell (by simp) _).setCell (by simp) _).setCell (by simp) _
  · refine Wrs.base ?_ (B := w.heap.size + 1 + 1) (by omega)
    have h := HW.out
    simp only [World.size_alloc] at h
    exact Wrs.set (Wrs.set (Wrs.set (Wrs.set (Wrs.set (Wrs.set (Wrs.set (Wrs.set (Wrs.set (Wrs.set h (by simp; omega) _) (by simp; omega) _) (by simp; omega) _) (by simp) _) (by simp) _) (by simp) _) (by simp) _) (by simp) _) (by simp) _) (by simp) _
end Go.Proofs.YtdikjmhnjlalbaaGreat.sgi

/- Small laws on blocks of eight cells. -/
namespace Go.Proofs.YtdikjmhnjlalbaaGreat.sgn
open Go.RowKit Go.Proofs.YtdikjmhnjlalbaaGreat.tm Go.Proofs.YtdikjmhnjlalbaaGreat.lib Go.Proofs.YtdikjmhnjlalbaaGreat.rdr Go.Proofs.YtdikjmhnjlalbaaGreat.bld Go.Proofs.YtdikjmhnjlalbaaGreat.app Go.Proofs.YtdikjmhnjlalbaaGreat.mrk Go.Proofs.YtdikjmhnjlalbaaGreat.mrs Go.Proofs.YtdikjmhnjlalbaaGreat.mkp Go.Proofs.YtdikjmhnjlalbaaGreat.ltq Go.Proofs.YtdikjmhnjlalbaaGreat.ltv Go.Proofs.YtdikjmhnjlalbaaGreat.ltp Go.Proofs.YtdikjmhnjlalbaaGreat.lri Go.Proofs.YtdikjmhnjlalbaaGreat.sgi
set_option linter.unusedVariables false

theorem set8 {B : Nat} {w w' : World} (h : Below B w w') {b : Nat} (hb : B ≤ b) (v0 v1 v2 v3 v4 v5 v6 v7 : Value) : Below B w ((((((((w'.setCell ⟨b, 0, none⟩ v0).setCell ⟨b, 1, none⟩ v1).setCell ⟨b, 2, none⟩ v2).setCell ⟨b, 3, none⟩ v3).setCell ⟨b, 4, none⟩ v4).setCell ⟨b, 5, none⟩ v5).setCell ⟨b, 6, none⟩ v6).setCell ⟨b, 7, none⟩ v7) :=
  (((((((h.setCell hb _).setCell hb _).setCell hb _).setCell hb _).setCell hb _).setCell hb _).setCell hb _).setCell hb _

theorem wset8 {B B' : Nat} {w : World} {u : Value} {ls : List Bs} (h : Wrs w B u ls) {b : Nat} (hb : b < B) (hB : B' ≤ B) (v0 v1 v2 v3 v4 v5 v6 v7 : Value) : Wrs ((((((((w.setCell ⟨b, 0, none⟩ v0).setCell ⟨b, 1, none⟩ v1).setCell ⟨b, 2, none⟩ v2).setCell ⟨b, 3, none⟩ v3).setCell ⟨b, 4, none⟩ v4).setCell ⟨b, 5, none⟩ v5).setCell ⟨b, 6, none⟩ v6).setCell ⟨b, 7, none⟩ v7) B' u ls :=
  Wrs.base (Wrs.set (Wrs.set (Wrs.set (Wrs.set (Wrs.set (Wrs.set (Wrs.set (Wrs.set h hb _) hb _) hb _) hb _) hb _) hb _) hb _) hb _) hB

theorem eight {w : World} {b : Nat} {v0 v1 v2 v3 v4 v5 v6 v7 : Value} {t : TypeId} (h : w.heap[b]? = some (.cells #[v0, v1, v2, v3, v4, v5, v6, v7] t (0, 0))) :
    w.cell? ⟨b, 0, none⟩ = some v0 ∧ w.cell? ⟨b, 1, none⟩ = some v1 ∧ w.cell? ⟨b, 2, none⟩ = some v2 ∧ w.cell? ⟨b, 3, none⟩ = some v3 ∧ w.cell? ⟨b, 4, none⟩ = some v4 ∧ w.cell? ⟨b, 5, none⟩ = some v5 ∧ w.cell? ⟨b, 6, none⟩ = some v6 ∧ w.cell? ⟨b, 7, none⟩ = some v7 ∧ b < w.heap.size ∧ ∀ o, w.frozen? ⟨b, o, none⟩ = false := by
  refine ⟨?_, ?_, ?_, ?_, ?_, ?_, ?_, ?_, (Array.getElem?_eq_some_iff.1 h).1, fun o => by simp [World.frozen?, h]⟩ <;> (rw [cell_of_row w b _ _ t (0, 0) h]; rfl)
end Go.Proofs.YtdikjmhnjlalbaaGreat.sgn
