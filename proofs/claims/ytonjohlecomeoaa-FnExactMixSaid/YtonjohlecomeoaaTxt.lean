/- Contracts of textOf and argTexts of the program. -/
import Derived.Test.YtonjohlecomeoaaArg
import Derived.Test.YtonjohlecomeoaaShj
import Derived.Test.YtonjohlecomeoaaSpm
namespace Go.Proofs.Ytonjohlecomeoaa.txt
open Go.RowKit Go.Proofs.Ytonjohlecomeoaa.tm Go.Proofs.Ytonjohlecomeoaa.lib Go.Proofs.Ytonjohlecomeoaa.rdr Go.Proofs.Ytonjohlecomeoaa.bld Go.Proofs.Ytonjohlecomeoaa.app Go.Proofs.Ytonjohlecomeoaa.arg
set_option linter.unusedVariables false

def TX (T : Tm) : Prop := ∀ w, Calls Try.prog 60 #[val T] w fun e w' => e = .returned (str T.tx) ∧ Below w.heap.size w w'
def AT (T : Tm) : Prop := ∀ w, Calls Try.prog 72 #[val T] w fun e w' => ∃ v, e = .returned v ∧ Below w.heap.size w w' ∧ Strs w' w.heap.size v (T.kids.map Tm.tx)

theorem kids_node (T : Tm) (h : T.isAtom = false) : (∃ x, T.kids = [x]) ∨ (∃ x y, T.kids = [x, y]) := by
  cases T with
  | atom a => cases h
  | pair x y => exact .inr ⟨x, y, rfl⟩
  | hash x => exact .inl ⟨x, rfl⟩
  | mac x y => exact .inr ⟨x, y, rfl⟩
  | shut x y => exact .inr ⟨x, y, rfl⟩
  | pub a => exact .inl ⟨.atom a, rfl⟩
  | dh a b => exact .inr ⟨.atom a, .atom b, rfl⟩

set_option maxHeartbeats 1000000 in
set_option maxRecDepth 100000 in
theorem at_node (T : Tm) (hn : T.isAtom = false) (ih : ∀ k ∈ T.kids, TX k) : AT T := by
  intro w
  have h1 := met_args T
  have h2 := inv_args T
  have h3 := args_calls T w
  rw [val_eq]
  rcases kids_node T hn with ⟨x, e1⟩ | ⟨x, y, e1⟩
  · rw [e1] at h3 ⊢
    have ix := ih x (by rw [e1]; simp)
    unfold TX at ix
    simp only [List.map_cons, List.map_nil]
    obtain ⟨X, hX⟩ : ∃ X, X = x.tx := ⟨_, rfl⟩
    rw [← hX] at ix ⊢
    clear e1 ih hn hX
    go_enter Try.func72, Try.ntmps72
    go_wp2_with fail
    refine h3.mono ?_
    rintro e w1 ⟨v, rfl, hb, hk⟩
    obtain ⟨g, cap, rfl, c0, hg⟩ := Tms.one' hk
    have HB := Lib.hid hb
    clear hb hk
    go_wp2_with fail
    refine wp_loop_rounds 2 ?_
    rw [rounds_succ]
    go_wp2_with fail
    refine (ix _).mono ?_
    rintro e w2 ⟨rfl, hb2⟩
    have HB2 := Lib.hid (HB.out.trans (hb2.mono HB.out.size))
    have hz := HB2.out.size
    clear hb2 c0
    go_wp2_with (at_builtin; refine wp_putS (.tmp 13) (.tmp 16) X w.heap.size _ [] rfl rfl rfl (Strs.nil _ _) rfl (by simp) hz ?_; intro v3 w3 t3 b3)
    have HB3 := Lib.hid (HB2.out.trans b3)
    have T3 := Lib.hid t3
    clear b3 t3
    rw [rounds_succ]
    go_wp2_with fail
    go_ret
    exact ⟨_, rfl, HB3.out, T3.out⟩
  · rw [e1] at h3 ⊢
    have ix := ih x (by rw [e1]; simp)
    have iy := ih y (by rw [e1]; simp)
    unfold TX at ix iy
    simp only [List.map_cons, List.map_nil]
    obtain ⟨X, hX⟩ : ∃ X, X = x.tx := ⟨_, rfl⟩
    obtain ⟨Y, hY⟩ : ∃ Y, Y = y.tx := ⟨_, rfl⟩
    rw [← hX] at ix ⊢
    rw [← hY] at iy ⊢
    clear e1 ih hn hX hY
    go_enter Try.func72, Try.ntmps72
    go_wp2_with fail
    refine h3.mono ?_
    rintro e w1 ⟨v, rfl, hb, hk⟩
    obtain ⟨g, cap, rfl, c0, c1, hg⟩ := Tms.two' hk
    have HB := Lib.hid hb
    clear hb hk
    go_wp2_with fail
    refine wp_loop_rounds 3 ?_
    rw [rounds_succ]
    go_wp2_with fail
    refine (ix _).mono ?_
    rintro e w2 ⟨rfl, hb2⟩
    have HB2 := Lib.hid (HB.out.trans (hb2.mono HB.out.size))
    have k1 := hb2.cell (p := ⟨g, 1, none⟩) hg
    rw [c1] at k1
    have hz := HB2.out.size
    have hg2 : g < w2.heap.size := Nat.lt_of_lt_of_le hg hb2.size
    clear hb2 c0 c1 hg
    go_wp2_with (at_builtin; refine wp_putS (.tmp 13) (.tmp 16) X w2.heap.size _ [] rfl rfl rfl (Strs.nil _ _) rfl (by simp) (Nat.le_refl _) ?_; intro v3 w3 t3 b3)
    have HB3 := Lib.hid (HB2.out.trans (b3.mono hz))
    have T3 := Lib.hid t3
    have m1 := b3.cell (p := ⟨g, 1, none⟩) hg2
    rw [k1] at m1
    have hz3 := HB3.out.size
    have hz32 := b3.size
    clear b3 t3 k1
    rw [rounds_succ]
    go_wp2_with fail
    refine (iy _).mono ?_
    rintro e w4 ⟨rfl, hb4⟩
    have HB4 := Lib.hid (HB3.out.trans (hb4.mono HB3.out.size))
    have T4 := Lib.hid (Strs.below T3.out hb4)
    have hz4 : w2.heap.size ≤ w4.heap.size := Nat.le_trans hz32 hb4.size
    clear hb4 m1
    go_wp2_with (at_builtin; refine wp_putS (.tmp 13) (.tmp 16) Y w2.heap.size _ [X] rfl rfl rfl T4.out rfl (by simp) hz4 ?_; intro v5 w5 t5 b5)
    have HB5 := Lib.hid (HB4.out.trans (b5.mono hz))
    have T5 := Lib.hid t5
    clear b5 t5
    rw [rounds_succ]
    go_wp2_with fail
    go_ret
    exact ⟨_, rfl, HB5.out, own_base T5.out hz⟩
end Go.Proofs.Ytonjohlecomeoaa.txt
