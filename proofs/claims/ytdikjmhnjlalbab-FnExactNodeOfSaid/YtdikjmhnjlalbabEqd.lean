/- Contracts of the laws' helpers on Node: eqNode, markNode, heldNode. -/
import Derived.Test.YtdikjmhnjlalbabEqs
import Derived.Test.YtdikjmhnjlalbabMrs
namespace Go.Proofs.Ytdikjmhnjlalbab.eqd
open Go.RowKit Go.Sort Go.Proofs.Ytdikjmhnjlalbab.tm Go.Proofs.Ytdikjmhnjlalbab.lib Go.Proofs.Ytdikjmhnjlalbab.rdr Go.Proofs.Ytdikjmhnjlalbab.bld Go.Proofs.Ytdikjmhnjlalbab.app Go.Proofs.Ytdikjmhnjlalbab.mrk Go.Proofs.Ytdikjmhnjlalbab.mrs
set_option linter.unusedVariables false

theorem Rds.form {w : World} {v : Value} {ls : List Bs} (h : Rds w v ls) : ∃ ad n cap, v = .slice ad n cap := by
  rcases h with ⟨_, ad, cap, rfl⟩ | ⟨g, off, cap, rfl, _⟩
  · exact ⟨_, _, _, rfl⟩
  · exact ⟨_, _, _, rfl⟩

set_option maxRecDepth 100000 in
theorem eqNode_calls (O : Bs) (va vb : Value) (ls : List Bs) (w : World) (ha : Rds w va ls) (hb : Rds w vb ls) (hl : ls.length ≤ 100000000) :
    Calls Try.prog 26 #[.agg #[str O, va], .agg #[str O, vb]] w fun e w' => e = .returned (.bool true) ∧ Below w.heap.size w w' := by
  obtain ⟨aa, na, ca, ea⟩ := Rds.form ha
  obtain ⟨ab, nb, cb, eb⟩ := Rds.form hb
  have hc := eqStringS_calls va vb ls
  rw [ea, eb] at hc ⊢
  rw [ea] at ha
  rw [eb] at hb
  have HA := Lib.hid ha
  have HB := Lib.hid hb
  clear ha hb ea eb
  go_enter Try.func26, Try.ntmps26
  go_wp2_with fail
  have k1 := Rds.below (Rds.below HA.out ((Below.refl _ _).alloc (Nat.le_refl _) (.cells #[str O, .slice aa na ca] 30))) ((Below.refl _ _).alloc (Nat.le_refl _) (.cells #[str O, .slice ab nb cb] 30))
  have k2 := Rds.below (Rds.below HB.out ((Below.refl _ _).alloc (Nat.le_refl _) (.cells #[str O, .slice aa na ca] 30))) ((Below.refl _ _).alloc (Nat.le_refl _) (.cells #[str O, .slice ab nb cb] 30))
  refine (hc _ k1 k2 hl).mono ?_
  rintro e w1 ⟨rfl, hs⟩
  have HS := Lib.hid (((((Below.refl _ _).alloc (Nat.le_refl _) _).alloc (by simp) _).trans (hs.below _) : Below w.heap.size w w1))
  clear hs k1 k2 hc
  go_wp2_with fail
  go_ret
  exact ⟨rfl, HS.out⟩

set_option maxRecDepth 100000 in
theorem markNode_calls (O : Bs) (v : Value) (ls : List Bs) (B : Nat) (w : World) (h : Wrs w B v ls) (hl : ls.length ≤ 10000000) :
    Calls Try.prog 27 #[.agg #[str O, v], .int .i64 1] w fun e w' => e = .returned (.int .i64 (1 + ls.length : Nat)) ∧ Marked v ls w w' ∧ Rds w' v (marks 1 ls.length) := by
  obtain ⟨ad, n, cap, e⟩ := Rds.form h.rds
  have hc := fun w h => markStringS_calls v ls B w h hl 1 (by omega) (by omega)
  have hk : Wrs (w.alloc (.cells #[str O, v] 30)) B v ls := by
    rcases h with h | ⟨g, off, cap, e, hBg, hg, hc, hf⟩
    · exact .inl h
    · refine .inr ⟨g, off, cap, e, hBg, by simp; omega, fun j l hj => ?_, fun j hj => ?_⟩
      · rw [World.cell?_alloc_lt _ _ ⟨g, off + j, none⟩ hg]; exact hc j l hj
      · rw [World.frozen?_alloc_old _ _ ⟨g, off + j, none⟩ (Nat.ne_of_lt hg)]; exact hf j hj
  have c1 := hc _ hk
  rw [e] at c1 ⊢
  have HC := Lib.hid c1
  clear h hc hk c1 e
  go_enter Try.func27, Try.ntmps27
  go_wp2_with fail
  refine HC.out.mono ?_
  rintro e w1 ⟨rfl, hb, hr⟩
  have HB := Lib.hid (Marked.after ((Below.refl _ _).alloc (Nat.le_refl _) _) hb : Marked (.slice ad n cap) ls w w1)
  have HR := Lib.hid hr
  clear hb hr
  go_wp2_with fail
  go_ret
  exact ⟨rfl, HB.out, HR.out⟩

set_option maxRecDepth 100000 in
theorem heldNode_calls (O : Bs) (v : Value) (n : Nat) (w : World) (h : Rds w v (marks 1 n)) (hl : n ≤ 10000000) :
    Calls Try.prog 28 #[.agg #[str O, v], .int .i64 1] w fun e w' => e = .returned (.int .i64 (1 + n : Nat)) ∧ Below w.heap.size w w' := by
  obtain ⟨ad, m, cap, e⟩ := Rds.form h
  have hk := Rds.below h ((Below.refl _ _).alloc (Nat.le_refl _) (.cells #[str O, v] 30))
  have c1 := heldStringS_calls v n _ 1 hk hl (by omega) (by omega)
  rw [e] at c1 ⊢
  have HC := Lib.hid c1
  clear h hk c1 e
  go_enter Try.func28, Try.ntmps28
  go_wp2_with fail
  refine HC.out.mono ?_
  rintro e w1 ⟨rfl, hb⟩
  have HB := Lib.hid (Below.trans ((Below.refl _ _).alloc (Nat.le_refl _) _) (hb.mono (by simp)) : Below w.heap.size w w1)
  clear hb
  go_wp2_with fail
  go_ret
  exact ⟨rfl, HB.out⟩
end Go.Proofs.Ytdikjmhnjlalbab.eqd
