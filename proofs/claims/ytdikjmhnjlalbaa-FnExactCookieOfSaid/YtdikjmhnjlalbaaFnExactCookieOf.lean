/- CookieOf of the program answers as CookieOf of the model, for every text and every address; no condition. -/
import Derived.Test.YtdikjmhnjlalbaaRows
import Derived.Test.YtdikjmhnjlalbaaFrm
import Derived.Test.YtdikjmhnjlalbaaFma
import Derived.WalkKit
import Derived.Test.YtdikjmhnjlalbaaGck
import Derived.Test.YtdikjmhnjlalbaaGci
import Derived.Test.YtdikjmhnjlalbaaGla
namespace Go.Proofs.Ytdikjmhnjlalbaa.fnExactCookieOf
open Go.ChangeShapes Go.WideShapes Go.ChangeAt Go.RowKit
open Go.ChangeMaps (open_string shut_string)
open Go.Proofs.Ytdikjmhnjlalbaa.tm Go.Proofs.Ytdikjmhnjlalbaa.bld Go.Proofs.Ytdikjmhnjlalbaa.mrk Go.Proofs.Ytdikjmhnjlalbaa.frm
set_option linter.unusedVariables false

set_option maxHeartbeats 8000000 in
set_option maxRecDepth 100000 in
theorem walk (w : World) (a0 : ByteArray) (w0 : a0.size ≤ maxLen) (a1 : gdp.Ad) (h1 : fmg.AdIn a1) :
    Calls Try.prog 8 #[.string a0, .agg (rbk.adA a1)] w fun e w' => e = .returned (.bool true) ∧ Below w.heap.size w w' := by
  have hs0 := w0
  unfold maxLen at hs0
  by_cases hbig : 1048576 < a0.size
  · have d0 : decide ((1048576 : Int) < a0.size) = true := by simp; omega
    obtain ⟨s, t⟩ := a1
    unfold rbk.adA
    clear h1
    go_enter Try.func8, Try.ntmps8
    go_wp2_with fail
    go_ret
    exact ⟨rfl, glh.new1 _ _⟩
  have d9 : decide ((1048576 : Int) < a0.size) = false := by simp; omega
  have hlk : a0.data.toList.length ≤ 4000000 := by show a0.size ≤ 4000000; omega
  have rs := fun (w' : World) (x1 : a1.st.length ≤ 1048576) (x2 : a1.hs.length ≤ 1048576) => gck.specCookie_calls a0.data.toList a1 hlk (by omega) (by omega) w'
  have ri := fun (w' : World) (x1 : a1.st.length ≤ 1048576) (x2 : a1.hs.length ≤ 1048576) => gck.implCookie_calls a0.data.toList a1 hlk (by omega) (by omega) w'
  obtain ⟨bb, hbb⟩ : ∃ b, b = gck.cookieR a0.data.toList a1 := ⟨_, rfl⟩
  simp only [← hbb] at rs ri
  change ∀ (w' : World) (x1 : a1.st.length ≤ 1048576) (x2 : a1.hs.length ≤ 1048576), Calls _ _ #[.string a0, _] w' _ at rs
  change ∀ (w' : World) (x1 : a1.st.length ≤ 1048576) (x2 : a1.hs.length ≤ 1048576), Calls _ _ #[.string a0, _] w' _ at ri
  have SZ := Lib.hid (fun w' => glh.szAddr_calls a1 h1 1048576 (Nat.le_refl _) w')
  have TO := Lib.hid (fun w' => glh.toAddr_calls a1 w')
  have RS := Lib.hid rs
  have RI := Lib.hid ri
  obtain ⟨s, t⟩ := a1
  unfold rbk.adA at SZ TO RS RI ⊢
  simp only at SZ TO RS RI ⊢
  clear h1 hbb rs ri hlk hs0 hbig
  have db : (bb != bb) = false := by simp
  go_enter Try.func8, Try.ntmps8
  go_wp2_with fail
  refine (SZ.out _).mono ?_
  rintro e w1 ⟨hb, rfl | ⟨L, rfl, -, x1, x2⟩⟩
  · have HB := Lib.hid ((glh.new1 _ _).trans (hb.mono (by simp)))
    clear hb
    go_wp2_with fail
    go_ret
    exact ⟨rfl, HB.out⟩
  have X1 := Lib.hid (glh.keptB (heap_alloc_new w _) hb)
  have HB1 := Lib.hid ((glh.new1 _ _).trans (hb.mono (by simp)))
  clear hb
  obtain ⟨p0, p1, pz⟩ := glh.two X1.out
  have d0 : decide ((L : Int) < 0) = false := by simp
  go_wp2_with fail
  refine (TO.out _).mono ?_
  rintro e w2 ⟨rfl, hb⟩
  have X2 := Lib.hid (glh.keptB X1.out hb)
  have HB2 := Lib.hid (HB1.out.trans (hb.mono HB1.out.size))
  clear hb p0 p1 pz
  go_wp2_with fail
  refine (RS.out _ x1 x2).mono ?_
  rintro e w3 ⟨rfl, hb⟩
  have X3 := Lib.hid (glh.keptB X2.out hb)
  have HB3 := Lib.hid (HB2.out.trans (hb.mono HB2.out.size))
  clear hb
  obtain ⟨p0, p1, pz⟩ := glh.two X3.out
  go_wp2_with fail
  refine (TO.out _).mono ?_
  rintro e w4 ⟨rfl, hb⟩
  have HB4 := Lib.hid (HB3.out.trans (hb.mono HB3.out.size))
  clear hb p0 p1 pz
  go_wp2_with fail
  refine (RI.out _ x1 x2).mono ?_
  rintro e w5 ⟨rfl, hb⟩
  have HB5 := Lib.hid (HB4.out.trans (hb.mono HB4.out.size))
  clear hb
  go_wp2_with fail
  go_ret
  exact ⟨rfl, HB5.out⟩

set_option maxRecDepth 100000 in
theorem lifted (os : Os) (started : os.Started) (H : Type) (enc : TypeId × Value → H) :
    ReturnsInHanded {} Try.checked os 8 .any (Rows.fnExactCookieOfSpec.pre6 enc Try.prog Try.f8 Rows.fnExactCookieOfRow.domain false) (Rows.fnExactCookieOfSpec.post enc Try.prog Try.f8 false true false false) := by
  refine returnsInHanded_of_change (C := Try.checked) frm.own started (by kernel_rfl) Try.func8
    (ChangeSpec.witness6 (enc := enc) (C := Try.checked) false ⟨#[], #[.string ByteArray.empty, .agg #[.string ByteArray.empty, .string ByteArray.empty]], []⟩ 8 (by kernel_rfl) (by kernel_rfl) (by kernel_rfl) (by kernel_rfl)) ?_
  intro W base args ds gs before hval0 hW hcnd _
  have hval : ∀ (j : Nat) t v, Try.f8.params[j]? = some t → args[j]? = some v → Value.okWide Try.prog W .any base t v := hval0
  have hW' := hW
  obtain ⟨p, q, hA0, hV, rfl, hfz, hnd⟩ := hW
  have hlt : ∀ x ∈ p, x.block < W.heap.size := fun x hx => hW'.lt x (by simp [hx])
  have hA : DataW.TrodAll enc Try.prog W 0 (fun _ => true) true Try.f8.params.toList args.toList ds p := hA0
  rw [Try.params8] at hA hval
  obtain ⟨v0, vs0, d0, ds0, p0, q0, hargs, rfl, rfl, g0, r0⟩ := trodAll_cons hA
  obtain ⟨v1, vs1, d1, ds1, p1, q1, rfl, rfl, rfl, g1, r1⟩ := trodAll_cons r0
  obtain ⟨rfl, rfl, rfl⟩ := trodAll_nil r1
  obtain rfl : args = #[v0, v1] := by cases args; simp_all
  obtain ⟨rfl, rfl⟩ := trodVars_none hV
  obtain ⟨a0, rfl, rfl, rfl, w0⟩ := open_string Try.underlying9 (hval 0 9 v0 rfl rfl) g0
  obtain ⟨a1, rfl, h1⟩ := fmg.open_addr (hval 1 23 v1 rfl rfl) g1
  clear hA0 hval0
  refine (walk W a0 w0 a1 h1).mono fun e W' ⟨he, hg⟩ => ?_
  subst he
  exact ⟨_, rfl, _, _, _, [], _, [], hW', (trodAll_cons_mk (shut_bool Try.underlying4 _) trodAll_mk0), (trodAll_cons_mk (shut_string Try.underlying9 w0) (trodAll_cons_mk (Below.trod frm.laidOut (by kernel_rfl) (of_decide_eq_true (by kernel_rfl)) g1 hg (fun x hx => hlt x (by simp [hx]))) trodAll_mk0)), rfl, hg.frame _, fun h => by cases h⟩

set_option maxRecDepth 100000 in
theorem over : Rows.fnExactCookieOfRow.holds Try.pinned (OpenSpec.ofChange Rows.fnExactCookieOfSpec) :=
  OpenClaim.holds_of_wide 8 Try.f8 rfl rfl rfl rfl rfl rfl rfl ⟨rfl, rfl, rfl, rfl, rfl⟩ rfl rfl rfl rfl rfl (by kernel_rfl) Try.func8 (by kernel_rfl)
    (of_decide_eq_true (by kernel_rfl)) (by unfold Func.isWrapper; first | (rw [if_pos (by decide +kernel)]; kernel_rfl) | (rw [if_neg (by decide +kernel)]; exact ⟨rfl, rfl⟩))
    (fun os started H enc _ => lifted os started H enc)

theorem proved : Rows.FnExactCookieOfSaid :=
  over

end Go.Proofs.Ytdikjmhnjlalbaa.fnExactCookieOf
