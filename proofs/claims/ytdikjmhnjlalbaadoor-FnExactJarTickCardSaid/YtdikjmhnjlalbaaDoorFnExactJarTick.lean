/- JarTick of the program answers as JarTick of the model, every field, for every jar and every number; the table of powers of ten that strconv reads is what its own text lays. -/
import Derived.Test.YtdikjmhnjlalbaaDoorRows
import Derived.Test.YtdikjmhnjlalbaaDoorFr0
import Derived.Test.YtdikjmhnjlalbaaDoorFmj
import Derived.WalkKit
import Derived.Test.YtdikjmhnjlalbaaDoorCards
import Derived.Test.YtdikjmhnjlalbaaDoorTie
import Derived.Test.YtdikjmhnjlalbaaDoorTab
import Derived.SevenTiedAt
import Derived.LaidMore
import Derived.Stop.Joined
import Derived.Test.YtdikjmhnjlalbaaDoorGjl
namespace Go.Proofs.YtdikjmhnjlalbaaDoor.fnExactJarTick
open Go.ChangeShapes Go.WideShapes Go.ChangeAt Go.RowKit
open Go.ChangeMaps (open_string shut_string)
open Go.Proofs.YtdikjmhnjlalbaaDoor.tm Go.Proofs.YtdikjmhnjlalbaaDoor.bld Go.Proofs.YtdikjmhnjlalbaaDoor.frm
set_option linter.unusedVariables false

set_option maxHeartbeats 8000000 in
set_option maxRecDepth 100000 in
theorem walk (w : World) (hh : tab.Has w) (j0 : gdp.Jr) (h0 : fmg.JrIn j0) (n1 : Int) (w1 : (Lit.int .i64 n1).wf = true) :
    Calls Tryd.prog 3 #[.agg (rbk.jrA j0), .int .i64 n1] w fun e w' => e = .returned (.bool true) ∧ Below w.heap.size w w' := by
  have rs := fun (w' : World) (x1 : j0.now.length ≤ 1048576) (x2 : j0.was.length ≤ 1048576) => gjt.specTick_calls j0 n1 (by omega) (by omega) w'
  have ri := fun (w' : World) (k : Below w.heap.size w w') (x1 : j0.now.length ≤ 1048576) (x2 : j0.was.length ≤ 1048576) => gjt.implTick_calls j0 n1 (by omega) (by omega) w' (hh.below k)
  obtain ⟨A, hA⟩ : ∃ A, A = gtp.tickR j0 n1 := ⟨_, rfl⟩
  simp only [← hA] at rs ri
  obtain ⟨⟨a1, a2, a3, a4⟩, a5⟩ := A
  unfold gjt.joA at rs ri
  simp only at rs ri
  have SZ := Lib.hid (fun w' => glh.szJar_calls j0 h0 1048576 (Nat.le_refl _) w')
  have TO := Lib.hid (fun w' => glh.toJar_calls j0 w')
  have EO := Lib.hid (fun w' => gjt.eqOut_calls a1 a2 a3 a4 a5 w')
  have RS := Lib.hid rs
  have RI := Lib.hid ri
  obtain ⟨s, t, x, y⟩ := j0
  unfold rbk.jrA at SZ TO RS RI ⊢
  simp only at SZ TO RS RI ⊢
  clear h0 hA rs ri hh w1
  go_enter Tryd.func3, Tryd.ntmps3
  go_wp2_with fail
  refine (SZ.out _).mono ?_
  rintro e w1 ⟨hb, rfl | ⟨L, rfl, -, x1, x2⟩⟩
  · have HB := Lib.hid ((glh.new1 _ _).trans (hb.mono (by simp)))
    clear hb
    go_wp2_with fail
    go_ret
    exact ⟨rfl, HB.out⟩
  have X1 := Lib.hid (glh.keptB (heap_alloc_new w _) hb)
  have HB1 := Lib.hid ((glh.new1 _ _).trans (hb.mono (by simp)))
  clear hb
  obtain ⟨p0, p1, p2, p3, pz⟩ := glh.four X1.out
  have d0 : decide ((L : Int) < 0) = false := by simp
  go_wp2_with fail
  refine (TO.out _).mono ?_
  rintro e w2 ⟨rfl, hb⟩
  have X2 := Lib.hid (glh.keptB X1.out hb)
  have HB2 := Lib.hid (HB1.out.trans (hb.mono HB1.out.size))
  clear hb p0 p1 p2 p3 pz
  go_wp2_with fail
  refine (RS.out _ x1 x2).mono ?_
  rintro e w3 ⟨rfl, hb⟩
  have k3 := glh.new1 w3 (.cells #[str a1, str a2, .int .i64 a3, .int .i64 a4, .int .i64 a5] 27)
  have X3 := Lib.hid (glh.keptB (glh.keptB X2.out hb) k3)
  have Y3 := Lib.hid (heap_alloc_new w3 (.cells #[str a1, str a2, .int .i64 a3, .int .i64 a4, .int .i64 a5] 27))
  have HB3 := Lib.hid ((HB2.out.trans (hb.mono HB2.out.size)).trans (k3.mono (Nat.le_trans HB2.out.size hb.size)))
  clear hb k3
  obtain ⟨p0, p1, p2, p3, pz⟩ := glh.four X3.out
  go_wp2_with fail
  refine (TO.out _).mono ?_
  rintro e w4 ⟨rfl, hb⟩
  have Y4 := Lib.hid (glh.keptB Y3.out hb)
  have HB4 := Lib.hid (HB3.out.trans (hb.mono HB3.out.size))
  clear hb p0 p1 p2 p3 pz
  go_wp2_with fail
  refine (RI.out _ HB4.out x1 x2).mono ?_
  rintro e w5 ⟨rfl, hb⟩
  have k5 := glh.new1 w5 (.cells #[str a1, str a2, .int .i64 a3, .int .i64 a4, .int .i64 a5] 27)
  have Y5 := Lib.hid (glh.keptB (glh.keptB Y4.out hb) k5)
  have V5 := Lib.hid (heap_alloc_new w5 (.cells #[str a1, str a2, .int .i64 a3, .int .i64 a4, .int .i64 a5] 27))
  have HB5 := Lib.hid ((HB4.out.trans (hb.mono HB4.out.size)).trans (k5.mono (Nat.le_trans HB4.out.size hb.size)))
  clear hb k5
  obtain ⟨q0, q1, q2, q3, q4, qz, qf⟩ := gjt.five Y5.out
  obtain ⟨r0, r1, r2, r3, r4, rz, rf⟩ := gjt.five V5.out
  go_wp2_with fail
  refine (EO.out _).mono ?_
  rintro e w6 ⟨rfl, hb⟩
  have HB6 := Lib.hid (HB5.out.trans (hb.mono HB5.out.size))
  clear hb
  go_wp2_with fail
  go_ret
  exact ⟨rfl, HB6.out⟩

set_option maxRecDepth 100000 in
theorem lifted (os : Os) (started : os.Started) (H : Type) (enc : TypeId × Value → H) :
    ReturnsInHanded {} Tryd.checked os 3 .any (fun w args => (Rows.fnExactJarTickSpec.pre enc Tryd.prog Tryd.f3 [] false w args ∧ laidMetH Tryd.prog Rows.fnExactJarTickRow.laid w) ∧ sizedMet enc Tryd.prog Tryd.f3 (OpenSpec.ofChange Rows.fnExactJarTickSpec) false w args)
      (Rows.fnExactJarTickSpec.post enc Tryd.prog Tryd.f3 false true false false) := by
  refine returnsInHanded_of_change_and (C := Tryd.checked) (X := (fun w _ => laidMetH Tryd.prog Rows.fnExactJarTickRow.laid w)) (fun _ _ _ hh h => h.of_heap hh) frm.own started (by kernel_rfl) Tryd.func3
    (ChangeSpec.witness_shaped (enc := enc) (C := Tryd.checked) (os := os) (X := (fun w _ => laidMetH Tryd.prog Rows.fnExactJarTickRow.laid w)) false (World.doorLaid Tryd.prog 4000 os) #[.agg #[.string ByteArray.empty, .string ByteArray.empty, .int .i64 0, .int .i64 0], .int .i64 0] 8 rfl (World.shaped_of_RefB (by kernel_rfl) (by kernel_rfl)) (by kernel_rfl) (by kernel_rfl) (by kernel_rfl) (tab.door_met os _)) ?_
  intro W base args ds gs before hval0 hW _ _ hL _
  have hval : ∀ (j : Nat) t v, Tryd.f3.params[j]? = some t → args[j]? = some v → Value.okWide Tryd.prog W .any base t v := hval0
  have hW' := hW
  obtain ⟨p, q, hA0, hV, rfl, hfz, hnd⟩ := hW
  have hlt : ∀ x ∈ p, x.block < W.heap.size := fun x hx => hW'.lt x (by simp [hx])
  have hA : DataW.TrodAll enc Tryd.prog W 0 (fun _ => true) true Tryd.f3.params.toList args.toList ds p := hA0
  rw [Tryd.params3] at hA hval
  obtain ⟨v0, vs0, d0, ds0, p0, q0, hargs, rfl, rfl, g0, r0⟩ := trodAll_cons hA
  obtain ⟨v1, vs1, d1, ds1, p1, q1, rfl, rfl, rfl, g1, r1⟩ := trodAll_cons r0
  obtain ⟨rfl, rfl, rfl⟩ := trodAll_nil r1
  obtain rfl : args = #[v0, v1] := by cases args; simp_all
  obtain ⟨rfl, rfl⟩ := trodVars_none hV
  obtain ⟨j0, rfl, h0⟩ := fmg.open_jar (hval 0 23 v0 rfl rfl) g0
  obtain ⟨n1, rfl, rfl, rfl, w1⟩ := open_int Tryd.underlying2 (hval 1 2 v1 rfl rfl) g1
  clear hA0 hval0
  refine (walk W (tab.of_laid hL) j0 h0 n1 w1).mono fun e W' ⟨he, hg⟩ => ?_
  subst he
  exact ⟨_, rfl, _, _, _, [], _, [], hW', (trodAll_cons_mk (shut_bool Tryd.underlying4 _) trodAll_mk0), (trodAll_cons_mk (Below.trod frm.laidOut (by kernel_rfl) (of_decide_eq_true (by kernel_rfl)) g0 hg (fun x hx => hlt x (by simp [hx]))) (trodAll_cons_mk (Below.trod frm.laidOut (by kernel_rfl) (of_decide_eq_true (by kernel_rfl)) g1 hg (fun x hx => by cases hx)) trodAll_mk0)), rfl, hg.frame _, fun h => by cases h⟩

theorem said : Rows.FnExactJarTickSaid :=
  OpenClaim.holds_of_wide 3 Tryd.f3 rfl rfl rfl rfl rfl rfl rfl ⟨rfl, rfl, rfl, rfl, rfl⟩ rfl rfl rfl rfl rfl (by kernel_rfl) Tryd.func3 (by kernel_rfl)
    (of_decide_eq_true (by kernel_rfl)) (by unfold Func.isWrapper; first | (rw [if_pos (by decide +kernel)]; kernel_rfl) | (rw [if_neg (by decide +kernel)]; exact ⟨rfl, rfl⟩))
    (fun os started H enc _ => lifted os started H enc)

theorem plain (f : FuncId) (fn : Func) (hf : Tryd.pinned.checked.prog.funcNamed "loop.example/g00784/laws.FnExactJarTick" = some f) (hfn : Tryd.pinned.checked.prog.funcs[f]? = some fn) :
    false = Tryd.pinned.checked.prog.looks [] ∧ ∀ (j : Nat) t, fn.params[j]? = some t → Tryd.pinned.checked.prog.wantsStandIn t = false := by
  obtain rfl : f = 3 := Option.some.inj ((show Tryd.prog.funcNamed "loop.example/g00784/laws.FnExactJarTick" = some 3 by kernel_rfl).symm.trans hf) |>.symm
  obtain rfl : fn = Tryd.f3 := (Option.some.inj (Tryd.func3.symm.trans hfn)).symm
  refine ⟨by kernel_rfl, fun j t ht => ?_⟩
  have hall : (Tryd.f3.params.toList.all fun t => !Tryd.prog.wantsStandIn t) = true := by kernel_rfl
  have hm : t ∈ Tryd.f3.params.toList := Array.mem_toList_iff.2 (Array.mem_of_getElem? ht)
  have h1 := List.all_eq_true.1 hall t hm
  have h2 : (Tryd.prog.wantsStandIn t) = false := by simpa using h1
  exact h2

theorem proved : Rows.FnExactJarTickCardSaid :=
  Claim7.holds_tied_plain_at .later [] _ _ _ _ said (fun _ h => by cases h) (by kernel_rfl) (fun _ h => by cases h) fnExactJarTick_row_tie rfl ⟨rfl, rfl⟩ (by kernel_rfl) rfl plain (by kernel_rfl)
end Go.Proofs.YtdikjmhnjlalbaaDoor.fnExactJarTick
