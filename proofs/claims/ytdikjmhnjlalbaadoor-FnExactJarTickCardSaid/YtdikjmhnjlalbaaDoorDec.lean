/- Contract of the model's l01Dec: the digits of a number that is not below zero. -/
import Derived.Test.YtdikjmhnjlalbaaDoorRd0
import Derived.Test.YtdikjmhnjlalbaaDoorSt0
import Derived.StillTailTactics
import Derived.Lib.QuietBelow
import Derived.Laws.Concat
import Derived.IntWalk
namespace Go.Proofs.YtdikjmhnjlalbaaDoor.dec
open Go.RowKit Go.Proofs.YtdikjmhnjlalbaaDoor.tm Go.Proofs.YtdikjmhnjlalbaaDoor.lib Go.Proofs.YtdikjmhnjlalbaaDoor.rdr Go.Proofs.YtdikjmhnjlalbaaDoor.bld
set_option linter.unusedVariables false

def dd (n : Nat) : Bs := if h : n = 0 then [] else dd (n / 10) ++ [UInt8.ofNat (48 + n % 10)]
termination_by n
decreasing_by omega

theorem dd_zero : dd 0 = [] := by unfold dd; simp
theorem dd_step {n : Nat} (h : n ≠ 0) : dd n = dd (n / 10) ++ [UInt8.ofNat (48 + n % 10)] := by rw [dd, dif_neg h]

/-- The digits. -/
def decR (n : Nat) : Bs := if n = 0 then [48] else dd n

set_option maxHeartbeats 1000000 in
set_option maxRecDepth 100000 in
theorem dec_calls (n : Nat) (hn : n ≤ 4000000000) (w : World) :
    Calls Tryd.prog 19 #[.int .i64 (n : Nat)] w fun e w' => e = .returned (str (decR n)) ∧ Below w.heap.size w w' := by
  by_cases h0 : n = 0
  · subst h0
    go_enter Tryd.func19, Tryd.ntmps19
    go_wp2_with fail
    go_ret
    exact ⟨rfl, Below.refl _ _⟩
  have hR : decR n = dd n := by unfold decR; rw [if_neg h0]
  rw [hR]
  have hneg : decide (((n : Nat) : Int) < 0) = false := by simp
  have hi0 : ¬ ((n : Nat) : Int) = 0 := by omega
  clear hR
  go_enter Tryd.func19, Tryd.ntmps19
  go_wp2_with fail
  go_loopw [0, 4, 5, 10, 11, 12, 13, 14, 15, 16, 17, 18, 19, 20, 21, 22, 23, 24, 25, 26] (fun v0 v4 _ _ _ _ _ _ _ _ _ _ _ _ _ _ _ _ _ _ wr => ∃ (k : Nat) (out : Bs), v0 = .int .i64 (k : Nat) ∧ v4 = str out ∧ dd k ++ out = dd n ∧ out.length + k ≤ n ∧ Below w.heap.size w wr) (fun v0 _ _ _ _ _ _ _ _ _ _ _ _ _ _ _ _ _ _ _ _ => (intOf v0).toNat)
  case atStart => exact ⟨n, [], rfl, rfl, by simp, by simp, Below.refl _ _⟩
  case round =>
    obtain ⟨k, out, rfl, rfl, heq, hle, hb⟩ := hrel
    have HE := Lib.hid heq
    have HB := Lib.hid hb
    clear heq hb
    by_cases hk : k = 0
    · subst hk
      go_wp2_with fail
      go_ret
      refine ⟨?_, HB.out⟩
      have := HE.out
      rw [dd_zero, List.nil_append] at this
      rw [this]
      rfl
    · have hki : ¬ ((k : Nat) : Int) = 0 := by omega
      obtain ⟨d, hd⟩ : ∃ d, d = k % 10 := ⟨_, rfl⟩
      obtain ⟨q, hq⟩ : ∃ q, q = k / 10 := ⟨_, rfl⟩
      have hd10 : d < 10 := by omega
      have hqk : q < k := by omega
      have hmod : Int.tmod (k : Int) 10 = (d : Int) := by rw [Int.tmod_eq_emod_of_nonneg (by omega), hd]; omega
      have hdiv : Int.tdiv (k : Int) 10 = (q : Int) := by rw [Int.tdiv_eq_ediv_of_nonneg (by omega), hq]; omega
      have HS := Lib.hid (show dd k = dd q ++ [UInt8.ofNat (48 + d)] by rw [dd_step hk, hd, hq])
      clear hd hq
      have wd : IntKind.i64.wrap (d : Int) = (d : Int) := by rw [IntKind.wrap_i64]; omega
      have wq : IntKind.i64.wrap (q : Int) = (q : Int) := by rw [IntKind.wrap_i64]; omega
      have hdn : decide (((d : Nat) : Int) < 0) = false := by simp
      have ws : IntKind.i64.wrap (48 + (d : Int)) = ((48 + d : Nat) : Int) := by rw [IntKind.wrap_i64]; omega
      obtain ⟨b, hb⟩ : ∃ b : UInt8, b = UInt8.ofNat (48 + d) := ⟨_, rfl⟩
      have hbn : b.toNat = 48 + d := by rw [hb]; first | (simp; done) | (simp; omega)
      rw [← hb] at HS
      have hcv : (convert 40 9 (.slice (some ⟨wr.heap.size, 0, none⟩) 1 1)).run Tryd.prog (wr.alloc (.cells #[.int .u8 (b.toNat : Nat)] 5)) = .ok (.string ⟨#[b]⟩) (wr.alloc (.cells #[.int .u8 (b.toNat : Nat)] 5)) :=
        run_strAt wr.heap.size 0 1 1 [b] rfl fun i hi => by
          have hi0 : i = 0 := by simpa using hi
          subst hi0
          simp [go_sem]
      have eb : ((b.toNat : Nat) : Int) = 48 + (d : Int) := by rw [hbn]; omega
      rw [eb] at hcv
      clear hb hbn eb
      have hol : out.length ≤ 4000000000 := by omega
      go_wp2_with fail
      go_roundw
      case rel =>
        refine ⟨q, b :: out, rfl, ?_, ?_, by simp; omega, HB.out.alloc HB.out.size _⟩
        · show Value.string _ = Value.string _
          congr 1
        · have := HE.out
          rw [HS.out] at this
          simpa using this
      case measure => simp [intOf]; omega

#print axioms dec_calls
end Go.Proofs.YtdikjmhnjlalbaaDoor.dec
