/- Contracts of the functions behind PutText. -/
import Derived.Test.YtbohfmnobhodcaaDoorNum
import Derived.Test.YtbohfmnobhodcaaDoorLong
import Derived.Test.YtbohfmnobhodcaaDoorJoin
namespace Go.Proofs.YtbohfmnobhodcaaDoor.sea
open Go.RowKit Go.Proofs.YtbohfmnobhodcaaDoor.lib Go.Proofs.YtbohfmnobhodcaaDoor.num Go.Proofs.YtbohfmnobhodcaaDoor.crc Go.Proofs.YtbohfmnobhodcaaDoor.row
set_option linter.unusedVariables false

def putText (t : ByteArray) : ByteArray := if 8000 < t.size then ByteArray.empty else putNum t.size ++ t

theorem putNum_size (n : Int) : (putNum n).size ≤ 11 := by
  have := vle_len (fold n).toNat
  simpa [putNum, ByteArray.size] using this

theorem specPutText_calls (t : ByteArray) (ht : t.size ≤ 9223372036854775807) (w : World) :
    Calls Tryd.prog 12 #[.string t] w fun e w' => e = .returned (.string (putText t)) ∧ Below w.heap.size w w' := by
  by_cases h : 8000 < t.size
  · have HP : Hid (putText t = ByteArray.empty) := by unfold Hid putText; rw [if_pos h]
    go_enter Tryd.func12, Tryd.ntmps12
    go_wp2_with fail
    go_ret
    exact ⟨ret_str HP.out.symm, Below.refl _ _⟩
  · have HP : Hid (putText t = putNum t.size ++ t) := by unfold Hid putText; rw [if_neg h]
    have hn := putNum_size t.size
    go_enter Tryd.func12, Tryd.ntmps12
    go_wp2_with (go_at_call 8; refine (specPutNum_calls _ (by omega) (by omega) _).mono ?_; rintro e w' ⟨rfl, hb⟩)
    go_ret
    exact ⟨ret_str HP.out.symm, by assumption⟩

theorem implPutText_calls (t : ByteArray) (ht : t.size ≤ 9223372036854775807) (w : World) :
    Calls Tryd.prog 11 #[.string t] w fun e w' => e = .returned (.string (putText t)) ∧ Below w.heap.size w w' := by
  by_cases h : 8000 < t.size
  · have HP : Hid (putText t = ByteArray.empty) := by unfold Hid putText; rw [if_pos h]
    have d1 : decide ((8000 : Int) < t.size) = true := by simp; omega
    go_enter Tryd.func11, Tryd.ntmps11
    go_wp2_with (go_at_call 27; refine (tooLong_calls _ ht _).mono ?_; rintro e w' ⟨rfl, rfl⟩)
    go_ret
    exact ⟨ret_str HP.out.symm, Below.refl _ _⟩
  · have HP : Hid (putText t = putNum t.size ++ t) := by unfold Hid putText; rw [if_neg h]
    have hn := putNum_size t.size
    have d1 : decide ((8000 : Int) < t.size) = false := by simp; omega
    go_enter Tryd.func11, Tryd.ntmps11
    go_wp2_with (first
      | (go_at_call 27; refine (tooLong_calls _ ht _).mono ?_; rintro e w' ⟨rfl, rfl⟩)
      | (go_at_call 7; refine (implPutNum_calls _ (by omega) (by omega) _).mono ?_; rintro e w1 ⟨rfl, hb1⟩)
      | (go_at_call 28; refine (join_calls _ _ (by omega) (by omega) _).mono ?_; rintro e w2 ⟨rfl, hb2⟩))
    go_ret
    exact ⟨ret_str HP.out.symm, hb1.trans (hb2.mono hb1.size)⟩
end Go.Proofs.YtbohfmnobhodcaaDoor.sea
