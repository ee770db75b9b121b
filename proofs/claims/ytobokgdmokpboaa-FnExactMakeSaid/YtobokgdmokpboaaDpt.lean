/- Contracts of deepOf and DeepOf of the program. -/
import Derived.Test.YtobokgdmokpboaaArg
import Derived.Test.YtobokgdmokpboaaGrd
namespace Go.Proofs.Ytobokgdmokpboaa.dpt
open Go.RowKit Go.Proofs.Ytobokgdmokpboaa.tm Go.Proofs.Ytobokgdmokpboaa.lib Go.Proofs.Ytobokgdmokpboaa.rdr Go.Proofs.Ytobokgdmokpboaa.bld Go.Proofs.Ytobokgdmokpboaa.app Go.Proofs.Ytobokgdmokpboaa.arg
set_option linter.unusedVariables false

theorem kids_cases (T : Tm) : (T.kids = [] ∧ T.deep = 1) ∨ (∃ x, T.kids = [x] ∧ T.deep = x.deep + 1) ∨ (∃ x y, T.kids = [x, y] ∧ T.deep = max x.deep y.deep + 1) := by
  cases T with
  | atom a => exact .inl ⟨rfl, rfl⟩
  | pair x y => exact .inr (.inr ⟨x, y, rfl, rfl⟩)
  | hash x => exact .inr (.inl ⟨x, rfl, rfl⟩)
  | mac x y => exact .inr (.inr ⟨x, y, rfl, rfl⟩)
  | shut x y => exact .inr (.inr ⟨x, y, rfl, rfl⟩)
  | pub a => exact .inr (.inl ⟨.atom a, rfl, rfl⟩)
  | dh a b => exact .inr (.inr ⟨.atom a, .atom b, rfl, rfl⟩)

def DP (T : Tm) : Prop := ∀ w, Calls Try.prog 57 #[val T] w fun e w' => e = .returned (.int .i64 (T.deep : Nat)) ∧ Below w.heap.size w w'

theorem Tms.one' {w : World} {B : Nat} {v : Value} {x : Tm} (h : Tms w B v [x]) : ∃ g cap, v = .slice (some ⟨g, 0, none⟩) 1 cap ∧ w.cell? ⟨g, 0, none⟩ = some (val x) ∧ g < w.heap.size := by
  obtain ⟨g, cap, e, c⟩ := Tms.one h
  exact ⟨g, cap, e, c, (World.ownsRow.lt h g (by rw [e]; rfl)).2⟩
theorem Tms.two' {w : World} {B : Nat} {v : Value} {x y : Tm} (h : Tms w B v [x, y]) : ∃ g cap, v = .slice (some ⟨g, 0, none⟩) 2 cap ∧ w.cell? ⟨g, 0, none⟩ = some (val x) ∧ w.cell? ⟨g, 1, none⟩ = some (val y) ∧ g < w.heap.size := by
  obtain ⟨g, cap, e, c, c'⟩ := Tms.two h
  exact ⟨g, cap, e, c, c', (World.ownsRow.lt h g (by rw [e]; rfl)).2⟩

set_option maxHeartbeats 1000000 in
set_option maxRecDepth 100000 in
theorem dp_all : ∀ n (T : Tm), T.deep ≤ n → T.deep ≤ 100 → DP T
  | 0, T, h, _ => by have := deep_pos T; omega
  | n + 1, T, h, h100 => by
    intro w
    have ih : ∀ k ∈ T.kids, DP k := fun k hk => dp_all n k (by have := kid_deep hk; omega) (by have := kid_deep hk; omega)
    have h1 := met_args T
    have h2 := inv_args T
    have h3 := args_calls T w
    rw [val_eq]
    rcases kids_cases T with ⟨e1, e2⟩ | ⟨x, e1, e2⟩ | ⟨x, y, e1, e2⟩
    · rw [e1] at h3
      rw [e2]
      clear e1 e2 ih h h100
      go_enter Try.func57, Try.ntmps57
      go_wp2_with fail
      refine h3.mono ?_
      rintro e w1 ⟨v, rfl, hb, hk⟩
      rcases hk.len with ⟨rfl, _⟩ | ⟨g, cap, rfl⟩
      all_goals
        have HB := Lib.hid hb
        clear hb hk
        go_wp2_with fail
        refine wp_loop_rounds 1 ?_
        rw [rounds_succ]
        go_wp2_with fail
        go_ret
        exact ⟨rfl, HB.out⟩
    · rw [e1] at h3
      have ix := ih x (by rw [e1]; simp)
      unfold DP at ix
      have hd : x.deep ≤ 100 := by omega
      have hp := deep_pos x
      rw [e2]
      obtain ⟨dx, hdx⟩ : ∃ d, d = x.deep := ⟨_, rfl⟩
      rw [← hdx] at ix hd hp ⊢
      clear e1 e2 ih h h100 hdx
      have hp : 0 < dx := hp
      go_enter Try.func57, Try.ntmps57
      go_wp2_with fail
      refine h3.mono ?_
      rintro e w1 ⟨v, rfl, hb, hk⟩
      obtain ⟨g, cap, rfl, c0, hg⟩ := Tms.one' hk
      have HB := Lib.hid hb
      clear hb hk
      go_wp2_with fail
      refine wp_loop_rounds 2 ?_
      rw [rounds_succ]
      go_wp2_with fail
      refine (ix _).mono ?_
      rintro e w2 ⟨rfl, hb2⟩
      have HB2 := Lib.hid (HB.out.trans (hb2.mono HB.out.size))
      clear hb2 c0
      go_wp2_with fail
      rw [rounds_succ]
      go_wp2_with fail
      go_ret
      exact ⟨ret_int (by omega), HB2.out⟩
    · rw [e1] at h3
      have ix := ih x (by rw [e1]; simp)
      have iy := ih y (by rw [e1]; simp)
      unfold DP at ix iy
      have hd : x.deep ≤ 100 := by omega
      have hd2 : y.deep ≤ 100 := by omega
      have hp := deep_pos x
      have hp2 := deep_pos y
      rw [e2]
      obtain ⟨dx, hdx⟩ : ∃ d, d = x.deep := ⟨_, rfl⟩
      obtain ⟨dy, hdy⟩ : ∃ d, d = y.deep := ⟨_, rfl⟩
      rw [← hdx] at ix hd hp ⊢
      rw [← hdy] at iy hd2 hp2 ⊢
      clear e1 e2 ih h h100 hdx hdy
      have hp : 0 < dx := hp
      rcases Nat.lt_or_ge dx dy with hlt | hge
      all_goals
        go_enter Try.func57, Try.ntmps57
        go_wp2_with fail
        refine h3.mono ?_
        rintro e w1 ⟨v, rfl, hb, hk⟩
        obtain ⟨g, cap, rfl, c0, c1, hg⟩ := Tms.two' hk
        have HB := Lib.hid hb
        clear hb hk
        go_wp2_with fail
        refine wp_loop_rounds 3 ?_
        rw [rounds_succ]
        go_wp2_with fail
        refine (ix _).mono ?_
        rintro e w2 ⟨rfl, hb2⟩
        have k1 := hb2.cell (p := ⟨g, 1, none⟩) hg
        rw [c1] at k1
        have HB2 := Lib.hid (HB.out.trans (hb2.mono HB.out.size))
        clear hb2 c0 c1
        go_wp2_with fail
        rw [rounds_succ]
        go_wp2_with fail
        refine (iy _).mono ?_
        rintro e w3 ⟨rfl, hb3⟩
        have HB3 := Lib.hid (HB2.out.trans (hb3.mono HB2.out.size))
        clear hb3 k1
        go_wp2_with fail
        rw [rounds_succ]
        go_wp2_with fail
        go_ret
        exact ⟨ret_int (by omega), HB3.out⟩

theorem deepOf_calls (T : Tm) (h : T.deep ≤ 100) (w : World) : Calls Try.prog 57 #[val T] w fun e w' => e = .returned (.int .i64 (T.deep : Nat)) ∧ Below w.heap.size w w' :=
  dp_all T.deep T (Nat.le_refl _) h w

set_option maxRecDepth 100000 in
theorem implDeepOf_calls (s : ByteArray) (hs : s.size ≤ maxLen) (w : World) :
    Calls Try.prog 31 #[.string s] w fun e w' => e = .returned (.int .i64 ((match term s.data.toList with | some T => T.deep | none => 0 : Nat))) ∧ Below w.heap.size w w' := by
  rcases h : term s.data.toList with _ | T
  · have HN := Lib.hid h
    clear h
    go_enter Try.func31, Try.ntmps31
    go_wp2_with fail
    refine (grd.termOf_no s hs HN.out _).mono ?_
    rintro e w1 ⟨rfl, hb⟩
    go_wp2_with fail
    go_ret
    exact ⟨rfl, hb⟩
  · have HN := Lib.hid h
    have hd : T.deep ≤ 100 := by have := (term_some.1 h).2.2.1; omega
    clear h
    show Calls _ _ _ _ fun e w' => e = .returned (.int .i64 (T.deep : Nat)) ∧ Below w.heap.size w w'
    have c1 := deepOf_calls T hd
    obtain ⟨dT, hdT⟩ : ∃ d, d = T.deep := ⟨_, rfl⟩
    rw [← hdT] at c1 ⊢
    clear hd hdT
    go_enter Try.func31, Try.ntmps31
    go_wp2_with fail
    refine (grd.termOf_yes s hs T HN.out _).mono ?_
    rintro e w1 ⟨rfl, hb⟩
    obtain ⟨tt, vv, ev⟩ := val_iface T
    rw [ev] at c1 ⊢
    have HB := Lib.hid hb
    clear ev hb
    go_wp2_with fail
    refine (c1 _).mono ?_
    rintro e w2 ⟨rfl, hb2⟩
    go_wp2_with fail
    go_ret
    exact ⟨rfl, HB.out.trans (hb2.mono HB.out.size)⟩
end Go.Proofs.Ytobokgdmokpboaa.dpt
