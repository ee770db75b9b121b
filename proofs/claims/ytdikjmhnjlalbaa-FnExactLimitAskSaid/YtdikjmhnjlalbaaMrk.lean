/- Contracts of the laws' helpers on []string: markText, eqStringS, markStringS, heldStringS. -/
import Derived.Test.YtdikjmhnjlalbaaRds
import Derived.Deep.QuietTactic
import Derived.BigQuiet
import Derived.Lib.QuietBelow
import Derived.Laws.Concat
import Derived.IntWalk
namespace Go.Proofs.Ytdikjmhnjlalbaa.mrk
open Go.RowKit Go.Sort Go.Proofs.Ytdikjmhnjlalbaa.tm Go.Proofs.Ytdikjmhnjlalbaa.lib Go.Proofs.Ytdikjmhnjlalbaa.rdr Go.Proofs.Ytdikjmhnjlalbaa.bld Go.Proofs.Ytdikjmhnjlalbaa.app
set_option linter.unusedVariables false

def dig : Nat → Nat → Bs → Bs
  | 0, _, acc => acc
  | f + 1, k, acc => if k = 0 then acc else dig f (k / 10) (UInt8.ofNat (48 + k % 10) :: acc)
def mkT (k : Nat) : Bs := 109 :: dig 20 k []

theorem dig_len : ∀ f k acc, (dig f k acc).length ≤ acc.length + f
  | 0, k, acc => by simp [dig]
  | f + 1, k, acc => by
    rw [dig]
    split
    · omega
    · have := dig_len f (k / 10) (UInt8.ofNat (48 + k % 10) :: acc)
      rw [List.length_cons] at this
      omega

theorem add_at (a b c : Bs) (h : a ++ b = c) (hl : c.length ≤ 100000000) (w : World) : (Op.stringOp .add ⟨a.toArray⟩ ⟨b.toArray⟩).run Try.prog w = .ok (.string ⟨c.toArray⟩) w := by
  have hc := congrArg List.length h
  rw [List.length_append] at hc
  rw [run_string_add_sum w _ _ (by show a.toArray.size + b.toArray.size ≤ _; simp; omega), ← h, ByteArray.mk_append_mk]

set_option maxHeartbeats 1000000 in
set_option maxRecDepth 100000 in
theorem markText_calls (k : Nat) (h1 : 1 ≤ k) (h2 : k ≤ 100000000) (w : World) :
    Calls Try.prog 76 #[.int .i64 k] w fun e w' => e = .returned (str (mkT k)) ∧ Below w.heap.size w w' := by
  have d0 : decide (k = 0) = false := by simp; omega
  go_enter Try.func76, Try.ntmps76
  go_wp2
  go_loopw [0, 3, 6, 7, 8, 9, 10, 11, 12, 13, 14, 15, 16, 17] (fun vk vo _ _ _ _ _ _ _ _ _ _ _ _ wr => ∃ (q : Nat) (acc : Bs) (f : Nat), vk = .int .i64 q ∧ vo = str acc ∧ dig f q acc = dig 20 k [] ∧ q ≤ 100000000 ∧ acc.length + f ≤ 20 ∧ q < 10 ^ f ∧ Below w.heap.size w wr) (fun vk _ _ _ _ _ _ _ _ _ _ _ _ _ _ => (intOf vk).toNat)
  case atStart => exact ⟨k, [], 20, rfl, rfl, rfl, h2, by simp, by omega, Below.refl _ _⟩
  case round =>
    obtain ⟨q, acc, f, rfl, rfl, hd, hq, hl, hf, hb⟩ := hrel
    have HB := Lib.hid hb
    have HD := Lib.hid hd
    have HF := Lib.hid hf
    clear hb hd hf
    by_cases h0 : q = 0
    · subst h0
      have hacc : acc = dig 20 k [] := by
        rw [← HD.out]
        cases f <;> simp [dig]
      have f1 := add_at [109] acc (mkT k) (by rw [hacc]; rfl) (by have := dig_len 20 k []; unfold mkT; simp at this ⊢; omega)
      clear hacc
      go_wp2_with fail
      go_ret
      exact ⟨rfl, HB.out⟩
    · have dq : decide (0 < (q : Int)) = true := by simp; omega
      obtain ⟨f, rfl⟩ : ∃ g, f = g + 1 := by
        cases f with
        | zero => have := HF.out; simp at this; omega
        | succ g => exact ⟨g, rfl⟩
      have e0 : dig (f + 1) q acc = dig f (q / 10) (UInt8.ofNat (48 + q % 10) :: acc) := by rw [dig, if_neg h0]
      have hc : ((UInt8.ofNat (48 + q % 10)).toNat : Int) = 48 + ((q % 10 : Nat) : Int) := by
        rw [UInt8.toNat_ofNat']; omega
      obtain ⟨C, hC⟩ : ∃ C : UInt8, C = UInt8.ofNat (48 + q % 10) := ⟨_, rfl⟩
      rw [← hC] at hc e0
      have f1 := add_at [C] acc (C :: acc) rfl (by simp; omega)
      have E0 := Lib.hid e0
      have HC := Lib.hid hc
      clear e0 hc hC
      have hcell : ∀ i (h : i < [C].length), (wr.alloc (.cells #[.int .u8 (48 + (q : Int) % 10)] 5)).cell? ⟨wr.heap.size, 0 + i, none⟩ = some (.int .u8 ([C][i].toNat)) := by
        intro i hi
        simp at hi
        subst hi
        have := HC.out
        simp [go_sem]
        omega
      have HH := Lib.hid hcell
      clear hcell
      go_wp2_with (refine wp_strAt (.tmp 12) wr.heap.size 0 1 1 [C] rfl rfl rfl rfl HH.out ?_)
      go_roundw
      case rel =>
        refine ⟨q / 10, C :: acc, f, ?_, rfl, ?_, by omega, by simp; omega, ?_, ?_⟩
        · simp
        · rw [← HD.out, E0.out]
        · have := HF.out
          rw [Nat.pow_succ] at this
          omega
        · exact HB.out.alloc HB.out.size _
      case measure =>
        simp [intOf]
        omega

end Go.Proofs.Ytdikjmhnjlalbaa.mrk
