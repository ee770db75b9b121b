/- Contract of deepOf of the program. -/
import Derived.Test.YtonjohlecomeoaaArg
import Derived.Test.YtonjohlecomeoaaGrp
namespace Go.Proofs.Ytonjohlecomeoaa.dpt
open Go.RowKit Go.Proofs.Ytonjohlecomeoaa.tm Go.Proofs.Ytonjohlecomeoaa.lib Go.Proofs.Ytonjohlecomeoaa.rdr Go.Proofs.Ytonjohlecomeoaa.bld Go.Proofs.Ytonjohlecomeoaa.app Go.Proofs.Ytonjohlecomeoaa.arg
set_option linter.unusedVariables false

theorem kids_cases (T : Tm) : (T.kids = [] ∧ T.deep = 1) ∨ (∃ x, T.kids = [x] ∧ T.deep = x.deep + 1) ∨ (∃ x y, T.kids = [x, y] ∧ T.deep = max x.deep y.deep + 1) := by
  cases T with
  | atom a => exact .inl ⟨rfl, rfl⟩
  | pair x y => exact .inr (.inr ⟨x, y, rfl, rfl⟩)
  | hash x => exact .inr (.inl ⟨x, rfl, rfl⟩)
  | mac x y => exact .inr (.inr ⟨x, y, rfl, rfl⟩)
  | shut x y => exact .inr (.inr ⟨x, y, rfl, rfl⟩)
  | pub a => exact .inr (.inl ⟨.atom a, rfl, rfl⟩)
  | dh a b => exact .inr (.inr ⟨.atom a, .atom b, rfl, rfl⟩)

def DP (T : Tm) : Prop := ∀ w, Calls Try.prog 73 #[val T] w fun e w' => e = .returned (.int .i64 (T.deep : Nat)) ∧ Below w.heap.size w w'

set_option maxHeartbeats 1000000 in
set_option maxRecDepth 100000 in
theorem dp_all : ∀ n (T : Tm), T.deep ≤ n → T.deep ≤ 100 → DP T
  | 0, T, h, _ => by have := deep_pos T; omega
  | n + 1, T, h, h100 => by
    intro w
    have ih : ∀ k ∈ T.kids, DP k := fun k hk => dp_all n k (by have := kid_deep hk; omega) (by have := kid_deep hk; omega)
    have h1 := met_args T
    have h2 := inv_args T
    have h3 := args_calls T w
    rw [val_eq]
    rcases kids_cases T with ⟨e1, e2⟩ | ⟨x, e1, e2⟩ | ⟨x, y, e1, e2⟩
    · rw [e1] at h3
      rw [e2]
      clear e1 e2 ih h h100
      go_enter Try.func73, Try.ntmps73
      go_wp2_with fail
      refine h3.mono ?_
      rintro e w1 ⟨v, rfl, hb, hk⟩
      rcases hk.len with ⟨rfl, _⟩ | ⟨g, cap, rfl⟩
      all_goals
        have HB := Lib.hid hb
        clear hb hk
        go_wp2_with fail
        refine wp_loop_rounds 1 ?_
        rw [rounds_succ]
        go_wp2_with fail
        go_ret
        exact ⟨rfl, HB.out⟩
    · rw [e1] at h3
      have ix := ih x (by rw [e1]; simp)
      unfold DP at ix
      have hd : x.deep ≤ 100 := by omega
      have hp := deep_pos x
      rw [e2]
      obtain ⟨dx, hdx⟩ : ∃ d, d = x.deep := ⟨_, rfl⟩
      rw [← hdx] at ix hd hp ⊢
      clear e1 e2 ih h h100 hdx
      have hp : 0 < dx := hp
      go_enter Try.func73, Try.ntmps73
      go_wp2_with fail
      refine h3.mono ?_
      rintro e w1 ⟨v, rfl, hb, hk⟩
      obtain ⟨g, cap, rfl, c0, hg⟩ := Tms.one' hk
      have HB := Lib.hid hb
      clear hb hk
      go_wp2_with fail
      refine wp_loop_rounds 2 ?_
      rw [rounds_succ]
      go_wp2_with fail
      refine (ix _).mono ?_
      rintro e w2 ⟨rfl, hb2⟩
      have HB2 := Lib.hid (HB.out.trans (hb2.mono HB.out.size))
      clear hb2 c0
      go_wp2_with fail
      rw [rounds_succ]
      go_wp2_with fail
      go_ret
      exact ⟨ret_int (by omega), HB2.out⟩
    · rw [e1] at h3
      have ix := ih x (by rw [e1]; simp)
      have iy := ih y (by rw [e1]; simp)
      unfold DP at ix iy
      have hd : x.deep ≤ 100 := by omega
      have hd2 : y.deep ≤ 100 := by omega
      have hp := deep_pos x
      have hp2 := deep_pos y
      rw [e2]
      obtain ⟨dx, hdx⟩ : ∃ d, d = x.deep := ⟨_, rfl⟩
      obtain ⟨dy, hdy⟩ : ∃ d, d = y.deep := ⟨_, rfl⟩
      rw [← hdx] at ix hd hp ⊢
      rw [← hdy] at iy hd2 hp2 ⊢
      clear e1 e2 ih h h100 hdx hdy
      have hp : 0 < dx := hp
      rcases Nat.lt_or_ge dx dy with hlt | hge
      all_goals
        go_enter Try.func73, Try.ntmps73
        go_wp2_with fail
        refine h3.mono ?_
        rintro e w1 ⟨v, rfl, hb, hk⟩
        obtain ⟨g, cap, rfl, c0, c1, hg⟩ := Tms.two' hk
        have HB := Lib.hid hb
        clear hb hk
        go_wp2_with fail
        refine wp_loop_rounds 3 ?_
        rw [rounds_succ]
        go_wp2_with fail
        refine (ix _).mono ?_
        rintro e w2 ⟨rfl, hb2⟩
        have k1 := hb2.cell (p := ⟨g, 1, none⟩) hg
        rw [c1] at k1
        have HB2 := Lib.hid (HB.out.trans (hb2.mono HB.out.size))
        clear hb2 c0 c1
        go_wp2_with fail
        rw [rounds_succ]
        go_wp2_with fail
        refine (iy _).mono ?_
        rintro e w3 ⟨rfl, hb3⟩
        have HB3 := Lib.hid (HB2.out.trans (hb3.mono HB2.out.size))
        clear hb3 k1
        go_wp2_with fail
        rw [rounds_succ]
        go_wp2_with fail
        go_ret
        exact ⟨ret_int (by omega), HB3.out⟩

theorem deepOf_calls (T : Tm) (h : T.deep ≤ 100) (w : World) : Calls Try.prog 73 #[val T] w fun e w' => e = .returned (.int .i64 (T.deep : Nat)) ∧ Below w.heap.size w w' :=
  dp_all T.deep T (Nat.le_refl _) h w

end Go.Proofs.Ytonjohlecomeoaa.dpt
