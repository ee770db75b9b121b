/- AddrRight of the program answers as AddrRight of the model, for every address; no condition. -/
import Derived.Test.YtdikjmhnjlalbaaRows
import Derived.Test.YtdikjmhnjlalbaaFrm
import Derived.Test.YtdikjmhnjlalbaaFma
import Derived.WalkKit
import Derived.Test.YtdikjmhnjlalbaaGri
import Derived.Test.YtdikjmhnjlalbaaGla
namespace Go.Proofs.Ytdikjmhnjlalbaa.fnExactAddrRight
open Go.ChangeShapes Go.WideShapes Go.ChangeAt Go.RowKit
open Go.ChangeMaps (open_string shut_string)
open Go.Proofs.Ytdikjmhnjlalbaa.tm Go.Proofs.Ytdikjmhnjlalbaa.bld Go.Proofs.Ytdikjmhnjlalbaa.mrk Go.Proofs.Ytdikjmhnjlalbaa.frm
set_option linter.unusedVariables false

set_option maxHeartbeats 8000000 in
set_option maxRecDepth 100000 in
theorem walk (w : World) (a0 : gdp.Ad) (h0 : fmg.AdIn a0) :
    Calls Try.prog 3 #[.agg (rbk.adA a0)] w fun e w' => e = .returned (.bool true) ∧ Below w.heap.size w w' := by
  have rs := fun (w' : World) (x1 : a0.st.length ≤ 1048576) (x2 : a0.hs.length ≤ 1048576) => gri.specAddr_calls a0 (by omega) (by omega) w'
  have ri := fun (w' : World) (x1 : a0.st.length ≤ 1048576) (x2 : a0.hs.length ≤ 1048576) => gri.implAddr_calls a0 (by omega) (by omega) w'
  obtain ⟨bb, hbb⟩ : ∃ b, b = gdp.adR a0 := ⟨_, rfl⟩
  simp only [← hbb] at rs ri
  have SZ := Lib.hid (fun w' => glh.szAddr_calls a0 h0 1048576 (Nat.le_refl _) w')
  have TO := Lib.hid (fun w' => glh.toAddr_calls a0 w')
  have RS := Lib.hid rs
  have RI := Lib.hid ri
  obtain ⟨s, t⟩ := a0
  unfold rbk.adA at SZ TO RS RI ⊢
  simp only at SZ TO RS RI ⊢
  clear h0 hbb rs ri
  have db : (bb != bb) = false := by simp
  go_enter Try.func3, Try.ntmps3
  go_wp2_with fail
  refine (SZ.out _).mono ?_
  rintro e w1 ⟨hb, rfl | ⟨L, rfl, -, x1, x2⟩⟩
  · have HB := Lib.hid ((glh.new1 _ _).trans (hb.mono (by simp)))
    clear hb
    go_wp2_with fail
    go_ret
    exact ⟨rfl, HB.out⟩
  have X1 := Lib.hid (glh.keptB (heap_alloc_new w _) hb)
  have HB1 := Lib.hid ((glh.new1 _ _).trans (hb.mono (by simp)))
  clear hb
  obtain ⟨p0, p1, pz⟩ := glh.two X1.out
  have d0 : decide ((L : Int) < 0) = false := by simp
  go_wp2_with fail
  refine (TO.out _).mono ?_
  rintro e w2 ⟨rfl, hb⟩
  have X2 := Lib.hid (glh.keptB X1.out hb)
  have HB2 := Lib.hid (HB1.out.trans (hb.mono HB1.out.size))
  clear hb p0 p1 pz
  go_wp2_with fail
  refine (RS.out _ x1 x2).mono ?_
  rintro e w3 ⟨rfl, hb⟩
  have X3 := Lib.hid (glh.keptB X2.out hb)
  have HB3 := Lib.hid (HB2.out.trans (hb.mono HB2.out.size))
  clear hb
  obtain ⟨p0, p1, pz⟩ := glh.two X3.out
  go_wp2_with fail
  refine (TO.out _).mono ?_
  rintro e w4 ⟨rfl, hb⟩
  have HB4 := Lib.hid (HB3.out.trans (hb.mono HB3.out.size))
  clear hb p0 p1 pz
  go_wp2_with fail
  refine (RI.out _ x1 x2).mono ?_
  rintro e w5 ⟨rfl, hb⟩
  have HB5 := Lib.hid (HB4.out.trans (hb.mono HB4.out.size))
  clear hb
  go_wp2_with fail
  go_ret
  exact ⟨rfl, HB5.out⟩

set_option maxRecDepth 100000 in
theorem lifted (os : Os) (started : os.Started) (H : Type) (enc : TypeId × Value → H) :
    ReturnsInHanded {} Try.checked os 3 .any (Rows.fnExactAddrRightSpec.pre6 enc Try.prog Try.f3 Rows.fnExactAddrRightRow.domain false) (Rows.fnExactAddrRightSpec.post enc Try.prog Try.f3 false true false false) := by
  refine returnsInHanded_of_change (C := Try.checked) frm.own started (by kernel_rfl) Try.func3
    (ChangeSpec.witness6 (enc := enc) (C := Try.checked) false ⟨#[], #[.agg #[.string ByteArray.empty, .string ByteArray.empty]], []⟩ 8 (by kernel_rfl) (by kernel_rfl) (by kernel_rfl) (by kernel_rfl)) ?_
  intro W base args ds gs before hval0 hW hcnd _
  have hval : ∀ (j : Nat) t v, Try.f3.params[j]? = some t → args[j]? = some v → Value.okWide Try.prog W .any base t v := hval0
  have hW' := hW
  obtain ⟨p, q, hA0, hV, rfl, hfz, hnd⟩ := hW
  have hlt : ∀ x ∈ p, x.block < W.heap.size := fun x hx => hW'.lt x (by simp [hx])
  have hA : DataW.TrodAll enc Try.prog W 0 (fun _ => true) true Try.f3.params.toList args.toList ds p := hA0
  rw [Try.params3] at hA hval
  obtain ⟨v0, vs0, d0, ds0, p0, q0, hargs, rfl, rfl, g0, r0⟩ := trodAll_cons hA
  obtain ⟨rfl, rfl, rfl⟩ := trodAll_nil r0
  obtain rfl : args = #[v0] := by cases args; simp_all
  obtain ⟨rfl, rfl⟩ := trodVars_none hV
  obtain ⟨a0, rfl, h0⟩ := fmg.open_addr (hval 0 23 v0 rfl rfl) g0
  clear hA0 hval0
  refine (walk W a0 h0).mono fun e W' ⟨he, hg⟩ => ?_
  subst he
  exact ⟨_, rfl, _, _, _, [], _, [], hW', (trodAll_cons_mk (shut_bool Try.underlying4 _) trodAll_mk0), (trodAll_cons_mk (Below.trod frm.laidOut (by kernel_rfl) (of_decide_eq_true (by kernel_rfl)) g0 hg (fun x hx => hlt x (by simp [hx]))) trodAll_mk0), rfl, hg.frame _, fun h => by cases h⟩

set_option maxRecDepth 100000 in
theorem over : Rows.fnExactAddrRightRow.holds Try.pinned (OpenSpec.ofChange Rows.fnExactAddrRightSpec) :=
  OpenClaim.holds_of_wide 3 Try.f3 rfl rfl rfl rfl rfl rfl rfl ⟨rfl, rfl, rfl, rfl, rfl⟩ rfl rfl rfl rfl rfl (by kernel_rfl) Try.func3 (by kernel_rfl)
    (of_decide_eq_true (by kernel_rfl)) (by unfold Func.isWrapper; first | (rw [if_pos (by decide +kernel)]; kernel_rfl) | (rw [if_neg (by decide +kernel)]; exact ⟨rfl, rfl⟩))
    (fun os started H enc _ => lifted os started H enc)

theorem proved : Rows.FnExactAddrRightSaid :=
  over

end Go.Proofs.Ytdikjmhnjlalbaa.fnExactAddrRight
