/- Contract of DeepOf of the program. -/
import Derived.Test.YtnlinlodgpbnlaaGreatArg
import Derived.Test.YtnlinlodgpbnlaaGreatGrd
import Derived.Test.YtnlinlodgpbnlaaGreatDpd
namespace Go.Proofs.YtnlinlodgpbnlaaGreat.dpt
open Go.RowKit Go.Proofs.YtnlinlodgpbnlaaGreat.tm Go.Proofs.YtnlinlodgpbnlaaGreat.lib Go.Proofs.YtnlinlodgpbnlaaGreat.rdr Go.Proofs.YtnlinlodgpbnlaaGreat.bld Go.Proofs.YtnlinlodgpbnlaaGreat.app Go.Proofs.YtnlinlodgpbnlaaGreat.arg
set_option linter.unusedVariables false

set_option maxRecDepth 100000 in
theorem implDeepOf_calls (s : ByteArray) (hs : s.size ≤ maxLen) (w : World) :
    Calls Tryz.prog 27 #[.string s] w fun e w' => e = .returned (.int .i64 ((match term s.data.toList with | some T => T.deep | none => 0 : Nat))) ∧ Below w.heap.size w w' := by
  rcases h : term s.data.toList with _ | T
  · have HN := Lib.hid h
    clear h
    go_enter Tryz.func27, Tryz.ntmps27
    go_wp2_with fail
    refine (grd.termOf_no s hs HN.out _).mono ?_
    rintro e w1 ⟨rfl, hb⟩
    go_wp2_with fail
    go_ret
    exact ⟨rfl, hb⟩
  · have HN := Lib.hid h
    have hd : T.deep ≤ 100 := by have := (term_some.1 h).2.2.1; omega
    clear h
    show Calls _ _ _ _ fun e w' => e = .returned (.int .i64 (T.deep : Nat)) ∧ Below w.heap.size w w'
    have c1 := deepOf_calls T hd
    obtain ⟨dT, hdT⟩ : ∃ d, d = T.deep := ⟨_, rfl⟩
    rw [← hdT] at c1 ⊢
    clear hd hdT
    go_enter Tryz.func27, Tryz.ntmps27
    go_wp2_with fail
    refine (grd.termOf_yes s hs T HN.out _).mono ?_
    rintro e w1 ⟨rfl, hb⟩
    obtain ⟨tt, vv, ev⟩ := val_iface T
    rw [ev] at c1 ⊢
    have HB := Lib.hid hb
    clear ev hb
    go_wp2_with fail
    refine (c1 _).mono ?_
    rintro e w2 ⟨rfl, hb2⟩
    go_wp2_with fail
    go_ret
    exact ⟨rfl, HB.out.trans (hb2.mono HB.out.size)⟩
end Go.Proofs.YtnlinlodgpbnlaaGreat.dpt
