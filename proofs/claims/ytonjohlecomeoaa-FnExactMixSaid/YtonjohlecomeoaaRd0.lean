/- Worlds that are as they were, but for draws, or for one block; the bytes of atoms. -/
import Derived.Test.YtonjohlecomeoaaTm
import Derived.Test.YtonjohlecomeoaaChecked
import Derived.Test.YtonjohlecomeoaaLib
import Derived.Below
import Derived.BigQuiet
import Derived.Deep.QuietTactic
import Derived.Outline
import Derived.WalkLawsBesides
namespace Go.Proofs.Ytonjohlecomeoaa.rdr
open Go.RowKit Go.Proofs.Ytonjohlecomeoaa.tm Go.Proofs.Ytonjohlecomeoaa.lib
set_option linter.unusedVariables false

/-- All is as it was, but for the draws. -/
structure Still (w w' : World) : Prop where
  os : w'.os = w.os
  tape : w'.tape = w.tape
  output : w'.output = w.output
  heap : w'.heap = w.heap

/-- All blocks that were there are as they were, but for block b. -/
structure Only (b : Nat) (w w' : World) : Prop where
  os : w'.os = w.os
  tape : w'.tape = w.tape
  output : w'.output = w.output
  size : w.heap.size ≤ w'.heap.size
  block : ∀ k, k < w.heap.size → k ≠ b → w'.heap[k]? = w.heap[k]?

theorem Still.refl (w : World) : Still w w := ⟨rfl, rfl, rfl, rfl⟩
theorem Still.trans {a b c : World} (h : Still a b) (k : Still b c) : Still a c := ⟨k.os.trans h.os, k.tape.trans h.tape, k.output.trans h.output, k.heap.trans h.heap⟩
theorem Still.only {w w' : World} (h : Still w w') (b : Nat) : Only b w w' := ⟨h.os, h.tape, h.output, by rw [h.heap]; exact Nat.le_refl _, fun k _ _ => by rw [h.heap]⟩
theorem Still.drewN (w : World) (n : Nat) : Still w (w.drewN n) := ⟨rfl, rfl, rfl, rfl⟩
theorem Still.below {w w' : World} (h : Still w w') (B : Nat) : Below B w w' := ⟨h.os, h.tape, h.output, by rw [h.heap]; exact Nat.le_refl _, fun k _ => by rw [h.heap]⟩

theorem Only.refl (b : Nat) (w : World) : Only b w w := (Still.refl w).only b
theorem Only.trans {b : Nat} {x y z : World} (h : Only b x y) (k : Only b y z) : Only b x z :=
  ⟨k.os.trans h.os, k.tape.trans h.tape, k.output.trans h.output, Nat.le_trans h.size k.size, fun i hi hb => (k.block i (Nat.lt_of_lt_of_le hi h.size) hb).trans (h.block i hi hb)⟩
theorem Only.of_below {b : Nat} {w w' : World} (h : Below w.heap.size w w') : Only b w w' := ⟨h.os, h.tape, h.output, h.size, fun k hk _ => h.block k hk⟩
theorem Only.setCell {b : Nat} {w : World} (o : Nat) (v : Value) : Only b w (w.setCell ⟨b, o, none⟩ v) :=
  ⟨rfl, rfl, rfl, by simp [World.setCell], fun k _ hb => Below.heap_setCell _ _ _ _ hb⟩
theorem Only.below {b B : Nat} {w w' : World} (h : Only b w w') (hb : B ≤ b) (hB : B ≤ w.heap.size) : Below B w w' :=
  ⟨h.os, h.tape, h.output, h.size, fun k hk => h.block k (by omega) (by omega)⟩

theorem let_eq (c : UInt8) : (97 ≤ c && c ≤ 122 : Bool) = (decide (97 ≤ (c.toNat : Int)) && decide ((c.toNat : Int) ≤ 122)) := by
  rw [Bool.eq_iff_iff]; simp [UInt8.le_iff_toNat_le]; omega
theorem dig_eq (c : UInt8) : (48 ≤ c && c ≤ 57 : Bool) = (decide (48 ≤ (c.toNat : Int)) && decide ((c.toNat : Int) ≤ 57)) := by
  rw [Bool.eq_iff_iff]; simp [UInt8.le_iff_toNat_le]; omega

theorem isLetter_calls (c : UInt8) (w : World) :
    Calls Try.prog 64 #[.int .u8 (c.toNat : Int)] w fun e w' => e = .returned (.bool (97 ≤ c && c ≤ 122)) ∧ w = w' := by
  go_enter Try.func64, Try.ntmps64
  go_wp2
  all_goals go_ret
  all_goals exact ⟨by rw [let_eq]; congr 2; simp [*] <;> omega, rfl⟩

theorem isDigit_calls (c : UInt8) (w : World) :
    Calls Try.prog 65 #[.int .u8 (c.toNat : Int)] w fun e w' => e = .returned (.bool (48 ≤ c && c ≤ 57)) ∧ w = w' := by
  go_enter Try.func65, Try.ntmps65
  go_wp2
  all_goals go_ret
  all_goals exact ⟨by rw [dig_eq]; congr 2; simp [*] <;> omega, rfl⟩

theorem isAtomByte_calls (c : UInt8) (w : World) :
    Calls Try.prog 46 #[.int .u8 (c.toNat : Int)] w fun e w' => e = .returned (.bool (isAt c)) ∧ w = w' := by
  cases h1 : (97 ≤ c && c ≤ 122 : Bool) <;> cases h2 : (48 ≤ c && c ≤ 57 : Bool)
  all_goals
    have HI : Hid (isAt c = _) := show isAt c = ((97 ≤ c && c ≤ 122 : Bool) || (48 ≤ c && c ≤ 57 : Bool)) from rfl
    rw [h1, h2] at HI
    have a1 := isLetter_calls c
    have a2 := isDigit_calls c
    rw [h1] at a1
    rw [h2] at a2
    clear h1 h2
    go_enter Try.func46, Try.ntmps46
    go_wp2_with (first | (go_at_call 64; refine (a1 _).mono ?_; rintro e w' ⟨rfl, rfl⟩) | (go_at_call 65; refine (a2 _).mono ?_; rintro e w' ⟨rfl, rfl⟩))
    go_ret
    exact ⟨ret_bool HI.out.symm, rfl⟩

end Go.Proofs.Ytonjohlecomeoaa.rdr
