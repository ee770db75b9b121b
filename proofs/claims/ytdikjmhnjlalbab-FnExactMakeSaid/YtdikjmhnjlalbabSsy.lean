/- Contract of the model's l02Dh. -/
import Derived.Test.YtdikjmhnjlalbabMkp
import Derived.Test.YtdikjmhnjlalbabSay
namespace Go.Proofs.Ytdikjmhnjlalbab.ssy
open Go.RowKit Go.Proofs.Ytdikjmhnjlalbab.tm Go.Proofs.Ytdikjmhnjlalbab.lib Go.Proofs.Ytdikjmhnjlalbab.rdr Go.Proofs.Ytdikjmhnjlalbab.bld Go.Proofs.Ytdikjmhnjlalbab.app Go.Proofs.Ytdikjmhnjlalbab.txo Go.Proofs.Ytdikjmhnjlalbab.sop Go.Proofs.Ytdikjmhnjlalbab.mkp
set_option linter.unusedVariables false

set_option maxRecDepth 100000 in
theorem dh_calls (x y : Bs) (hx : x.length ≤ 4000000) (hy : y.length ≤ 4000000) (w : World) :
    Calls Try.prog 52 #[str x, str y] w fun e w' => e = .returned (str (dhS x y)) ∧ Below w.heap.size w w' := by
  unfold dhS
  cases hg : gt x y with
  | true =>
    obtain ⟨h1, h2⟩ := gt_true hg
    have a1 := fun (w : World) c0 c1 => say_two oDh y x w.heap.size 0 2 (w.alloc (.cells #[str y, str x] 9)) c0 c1 (by decide) hy hx
    simp only [if_true]
    have A1 := Lib.hid a1
    clear hg a1
    go_enter Try.func52, Try.ntmps52
    go_wp2_with fail
    refine (A1.out _ (by simp [go_sem]) (by simp [go_sem])).mono ?_
    rintro e w1 ⟨rfl, hb⟩
    have HB := Lib.hid hb
    clear hb
    go_wp2_with fail
    go_ret
    exact ⟨rfl, ((Below.refl _ _).alloc (Nat.le_refl _) _).trans (HB.out.mono (by simp))⟩
  | false =>
    have a1 := fun (w : World) c0 c1 => say_two oDh x y w.heap.size 0 2 (w.alloc (.cells #[str x, str y] 9)) c0 c1 (by decide) hx hy
    simp only [Bool.false_eq_true, if_false]
    have A1 := Lib.hid a1
    rcases gt_false hg with h1 | ⟨h1, h2⟩
    all_goals
      clear hg a1
      go_enter Try.func52, Try.ntmps52
      go_wp2_with fail
      refine (A1.out _ (by simp [go_sem]) (by simp [go_sem])).mono ?_
      rintro e w1 ⟨rfl, hb⟩
      have HB := Lib.hid hb
      clear hb
      go_wp2_with fail
      go_ret
      exact ⟨rfl, ((Below.refl _ _).alloc (Nat.le_refl _) _).trans (HB.out.mono (by simp))⟩
end Go.Proofs.Ytdikjmhnjlalbab.ssy
