/- Contract of the laws' eqStringS, of two lists that are one. -/
import Derived.Test.YtdikjmhnjlalbabGreatRds
import Derived.Deep.QuietTactic
import Derived.BigQuiet
import Derived.Lib.QuietBelow
import Derived.Laws.Concat
import Derived.IntWalk
namespace Go.Proofs.YtdikjmhnjlalbabGreat.mrk
open Go.RowKit Go.Sort Go.Proofs.YtdikjmhnjlalbabGreat.tm Go.Proofs.YtdikjmhnjlalbabGreat.lib Go.Proofs.YtdikjmhnjlalbabGreat.rdr Go.Proofs.YtdikjmhnjlalbabGreat.bld Go.Proofs.YtdikjmhnjlalbabGreat.app
set_option linter.unusedVariables false

set_option maxHeartbeats 1000000 in
set_option maxRecDepth 100000 in
theorem eqStringS_calls (va vb : Value) (ls : List Bs) (w : World) (ha : Rds w va ls) (hb : Rds w vb ls) (hl : ls.length ≤ 100000000) :
    Calls Tryz.prog 22 #[va, vb] w fun e w' => e = .returned (.bool true) ∧ Still w w' := by
  by_cases h0 : ls = []
  · subst h0
    have fa : ∃ ad cap, va = .slice ad 0 cap := by rcases ha with ⟨_, h⟩ | ⟨g, off, cap, h, _⟩; exact h; exact ⟨_, _, h⟩
    have fb : ∃ ad cap, vb = .slice ad 0 cap := by rcases hb with ⟨_, h⟩ | ⟨g, off, cap, h, _⟩; exact h; exact ⟨_, _, h⟩
    obtain ⟨aa, ca, rfl⟩ := fa
    obtain ⟨ab, cb, rfl⟩ := fb
    clear ha hb
    go_enter Tryz.func22, Tryz.ntmps22
    go_wp2_with fail
    refine wp_loop_rounds 1 ?_
    rw [rounds_succ]
    go_wp2_with fail
    go_ret
    exact ⟨rfl, Still.refl _⟩
  · rcases ha with ⟨h, _⟩ | ⟨ga, oa, ca, rfl, hga, hca⟩
    · exact absurd h h0
    rcases hb with ⟨h, _⟩ | ⟨gb, ob, cb, rfl, hgb, hcb⟩
    · exact absurd h h0
    obtain ⟨n, hn⟩ : ∃ n, n = ls.length := ⟨_, rfl⟩
    rw [← hn] at hl ⊢
    have HA := Lib.hid hca
    have HB := Lib.hid hcb
    have HN := Lib.hid hn
    clear hca hcb hn h0
    go_enter Tryz.func22, Tryz.ntmps22
    go_wp2_with fail
    go_loopw [5, 11, 12, 13, 14, 15, 16, 17, 18, 19, 20, 21, 22, 23, 24, 25] (fun vk _ _ _ _ _ _ _ _ _ _ _ _ _ _ _ wr => ∃ k : Nat, k ≤ n ∧ vk = .int .i64 k ∧ Still w wr) (fun vk _ _ _ _ _ _ _ _ _ _ _ _ _ _ _ _ => n - (intOf vk).toNat)
    case atStart => exact ⟨0, Nat.zero_le _, rfl, Still.refl _⟩
    case round =>
      obtain ⟨k, hk, rfl, hst⟩ := hrel
      have HS := Lib.hid hst
      by_cases hlt : k < n
      · have hk' : k < ls.length := by have := HN.out; omega
        obtain ⟨l, hl'⟩ : ∃ l, ls[k]? = some l := ⟨_, List.getElem?_eq_getElem hk'⟩
        have c1 : wr.cell? ⟨ga, oa + k, none⟩ = some (str l) := by rw [← HA.out k l hl']; exact World.cell?_of_block (by rw [hst.heap])
        have c2 : wr.cell? ⟨gb, ob + k, none⟩ = some (str l) := by rw [← HB.out k l hl']; exact World.cell?_of_block (by rw [hst.heap])
        clear hst hl'
        go_wp2_with fail
        go_quiet (fail)
        go_wp2_with fail
        go_roundw
        case rel => exact ⟨k + 1, by omega, by go_num, HS.out.trans (Still.drewN _ _)⟩
        case measure => simp [intOf]; omega
      · clear hst
        go_wp2_with fail
        go_ret
        exact ⟨rfl, HS.out⟩
end Go.Proofs.YtdikjmhnjlalbabGreat.mrk
