/- Contract of the model's Open. -/
import Derived.Test.YtdikjmhnjlalbabSop
namespace Go.Proofs.Ytdikjmhnjlalbab.sop
open Go.RowKit Go.Proofs.Ytdikjmhnjlalbab.tm Go.Proofs.Ytdikjmhnjlalbab.lib Go.Proofs.Ytdikjmhnjlalbab.rdr Go.Proofs.Ytdikjmhnjlalbab.bld Go.Proofs.Ytdikjmhnjlalbab.app Go.Proofs.Ytdikjmhnjlalbab.snd
set_option linter.unusedVariables false

set_option maxHeartbeats 2000000 in
set_option maxRecDepth 100000 in
theorem open_calls (key t r : Bs) (c : Int) (h : OpenR key t r c) (hk : key.length ≤ 4000000) (ht : t.length ≤ 4000000) (w : World) :
    Calls Try.prog 34 #[str key, str t] w fun e w' => e = .returned (outVal r c) ∧ Below w.heap.size w w' := by
  unfold outVal
  cases h with
  | size h =>
    by_cases h1 : 8000 < key.length
    · have d1 : decide (8000 < (key.length : Int)) = true := by simp; omega
      go_enter Try.func34, Try.ntmps34
      go_wp2_with fail
      exact bodyPost_ret (v := .agg #[.string ⟨#[]⟩, .int .i64 2]) (by simp [results, Try.results34, go_sem]) rfl ⟨rfl, (Below.refl _ _).alloc (Nat.le_refl _) _⟩
    · have d1 : decide (8000 < (key.length : Int)) = false := by simp; omega
      have d2 : decide (8000 < (t.length : Int)) = true := by simp; omega
      go_enter Try.func34, Try.ntmps34
      go_wp2_with fail
      exact bodyPost_ret (v := .agg #[.string ⟨#[]⟩, .int .i64 2]) (by simp [results, Try.results34, go_sem]) rfl ⟨rfl, (Below.refl _ _).alloc (Nat.le_refl _) _⟩
  | form h1 h2 h =>
    have d1 : decide (8000 < (key.length : Int)) = false := by simp; omega
    have d2 : decide (8000 < (t.length : Int)) = false := by simp; omega
    by_cases hK : term key = none
    · have a1 := right_at key false (by rw [hK]; rfl) h1
      clear h hK
      go_enter Try.func34, Try.ntmps34
      go_wp2_with fail
      refine (a1 _).mono ?_
      rintro e w1 ⟨rfl, hb⟩
      have HB := Lib.hid hb
      obtain ⟨c0, c1, f0, f1, hz⟩ := two (clo.new_kept hb)
      clear hb
      go_wp2_with fail
      exact bodyPost_ret (v := .agg #[.string ⟨#[]⟩, .int .i64 1]) (by simp [results, Try.results34, go_sem, c0, c1]) rfl ⟨rfl, fin3 HB.out _ _⟩
    · have hK' : (term key).isSome = true := by cases hq : term key with | none => exact absurd hq hK | some _ => rfl
      have hT : term t = none := by rcases h with h | h; exact absurd h hK; exact h
      have a1 := right_at key true hK' h1
      have a2 := right_at t false (by rw [hT]; rfl) h2
      clear h hK hK' hT
      go_enter Try.func34, Try.ntmps34
      go_wp2_with fail
      refine (a1 _).mono ?_
      rintro e w1 ⟨rfl, hb⟩
      go_wp2_with fail
      refine (a2 _).mono ?_
      rintro e w2 ⟨rfl, hb2⟩
      have HB := Lib.hid (hb.trans (hb2.mono hb.size))
      obtain ⟨c0, c1, f0, f1, hz⟩ := two (clo.new_kept HB.out)
      clear hb hb2
      go_wp2_with fail
      exact bodyPost_ret (v := .agg #[.string ⟨#[]⟩, .int .i64 1]) (by simp [results, Try.results34, go_sem, c0, c1]) rfl ⟨rfl, fin3 HB.out _ _⟩
  | other h1 h2 K T hK hT h =>
    have d1 : decide (8000 < (key.length : Int)) = false := by simp; omega
    have d2 : decide (8000 < (t.length : Int)) = false := by simp; omega
    have a1 := right_at key true (by rw [hK]; rfl) h1
    have a2 := right_at t true (by rw [hT]; rfl) h2
    have a3 := node_at t T hT
    have d3 : (T.op == [115, 104, 117, 116]) = false := by rw [beq_eq_false_iff_ne]; exact h
    obtain ⟨O, hO⟩ : ∃ O, O = T.op := ⟨_, rfl⟩
    rw [← hO] at d3
    simp only [← hO] at a3
    clear h hK hT hO
    go_enter Try.func34, Try.ntmps34
    go_wp2_with fail
    refine (a1 _).mono ?_
    rintro e w1 ⟨rfl, hb⟩
    go_wp2_with fail
    refine (a2 _).mono ?_
    rintro e w2 ⟨rfl, hb2⟩
    have HB := Lib.hid (hb.trans (hb2.mono hb.size))
    clear hb hb2
    go_wp2_with fail
    refine (a3 _).mono ?_
    rintro e w3 ⟨v, rfl, hb3, hx⟩
    have HB3 := Lib.hid (HB.out.trans (hb3.mono HB.out.size))
    obtain ⟨c0, c1, f0, f1, hz⟩ := two (clo.new_kept HB3.out)
    obtain ⟨g, off, cap, rfl, _⟩ := hx
    clear hb3
    go_wp2_with fail
    exact bodyPost_ret (v := .agg #[.string ⟨#[]⟩, .int .i64 6]) (by simp [results, Try.results34, go_sem, c0, c1, hz]) rfl ⟨rfl, fin2 HB3.out _ _ _⟩
  | none h1 h2 K k x hK hT h =>
    have d1 : decide (8000 < (key.length : Int)) = false := by simp; omega
    have d2 : decide (8000 < (t.length : Int)) = false := by simp; omega
    have a1 := right_at key true (by rw [hK]; rfl) h1
    have a2 := right_at t true (by rw [hT]; rfl) h2
    have a3 := node_at t (.shut k x) hT
    simp only [nodeArgs, Tm.isAtom, Tm.kids, Tm.op, List.map_cons, List.map_nil] at a3
    obtain ⟨kt, hkt⟩ : ∃ l, l = k.tx := ⟨_, rfl⟩
    obtain ⟨xt, hxt⟩ : ∃ l, l = x.tx := ⟨_, rfl⟩
    simp only [← hkt, ← hxt] at a3 h ⊢
    have d3 : (kt == key) = false := by rw [beq_eq_false_iff_ne]; exact h
    have d4 : ¬ kt = key := h
    unfold oShut at a3
    clear h hK hT hkt hxt
    go_enter Try.func34, Try.ntmps34
    go_wp2_with fail
    refine (a1 _).mono ?_
    rintro e w1 ⟨rfl, hb⟩
    go_wp2_with fail
    refine (a2 _).mono ?_
    rintro e w2 ⟨rfl, hb2⟩
    have HB := Lib.hid (hb.trans (hb2.mono hb.size))
    clear hb hb2
    go_wp2_with fail
    refine (a3 _).mono ?_
    rintro e w3 ⟨v, rfl, hb3, hx⟩
    have HB3 := Lib.hid (HB.out.trans (hb3.mono HB.out.size))
    obtain ⟨c0, c1, f0, f1, hz⟩ := two (clo.new_kept HB3.out)
    obtain ⟨g, off, cap, rfl, hg, hg2, m0, m1⟩ := Txs.two hx
    have hgn : ¬ g = w.heap.size := by have := HB.out.size; simp at this; omega
    have hgn2 : ¬ g = w3.heap.size := by omega
    clear hb3 hx
    go_wp2_with fail
    exact bodyPost_ret (v := .agg #[.string ⟨#[]⟩, .int .i64 6]) (by simp [results, Try.results34, go_sem, c0, c1, hz]) rfl ⟨rfl, fin2 HB3.out _ _ _⟩
  | some h1 h2 K k x hK hT h =>
    have d1 : decide (8000 < (key.length : Int)) = false := by simp; omega
    have d2 : decide (8000 < (t.length : Int)) = false := by simp; omega
    have a1 := right_at key true (by rw [hK]; rfl) h1
    have a2 := right_at t true (by rw [hT]; rfl) h2
    have a3 := node_at t (.shut k x) hT
    simp only [nodeArgs, Tm.isAtom, Tm.kids, Tm.op, List.map_cons, List.map_nil] at a3
    obtain ⟨kt, hkt⟩ : ∃ l, l = k.tx := ⟨_, rfl⟩
    obtain ⟨xt, hxt⟩ : ∃ l, l = x.tx := ⟨_, rfl⟩
    simp only [← hkt, ← hxt] at a3 h ⊢
    subst h
    unfold oShut at a3
    clear hK hT hkt hxt
    go_enter Try.func34, Try.ntmps34
    go_wp2_with fail
    refine (a1 _).mono ?_
    rintro e w1 ⟨rfl, hb⟩
    go_wp2_with fail
    refine (a2 _).mono ?_
    rintro e w2 ⟨rfl, hb2⟩
    have HB := Lib.hid (hb.trans (hb2.mono hb.size))
    clear hb hb2
    go_wp2_with fail
    refine (a3 _).mono ?_
    rintro e w3 ⟨v, rfl, hb3, hx⟩
    have HB3 := Lib.hid (HB.out.trans (hb3.mono HB.out.size))
    obtain ⟨c0, c1, f0, f1, hz⟩ := two (clo.new_kept HB3.out)
    obtain ⟨g, off, cap, rfl, hg, hg2, m0, m1⟩ := Txs.two hx
    have hgn : ¬ g = w.heap.size := by have := HB.out.size; simp at this; omega
    have hgn2 : ¬ g = w3.heap.size := by omega
    clear hb3 hx
    go_wp2_with fail
    exact bodyPost_ret (v := outVal xt 0) (by simp [outVal, results, Try.results34, go_sem, c0, c1, hz]) rfl ⟨rfl, fin2 HB3.out _ _ _⟩
end Go.Proofs.Ytdikjmhnjlalbab.sop
