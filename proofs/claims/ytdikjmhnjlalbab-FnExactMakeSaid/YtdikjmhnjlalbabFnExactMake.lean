/- Make of the program answers as Make of the model, every field, for every op and every list of args, and turns no arg; no condition. -/
import Derived.Test.YtdikjmhnjlalbabEqs
import Derived.Test.YtdikjmhnjlalbabRows
import Derived.WalkKit
import Derived.Test.YtdikjmhnjlalbabSmk
import Derived.Test.YtdikjmhnjlalbabImk
import Derived.Test.YtdikjmhnjlalbabTsz
import Derived.Test.YtdikjmhnjlalbabEqo
import Derived.ProofKit
import Derived.OpenShut
import Derived.ShutString
import Derived.SliceStrings
import Derived.ChangeOld
import Derived.Below
namespace Go.Proofs.Ytdikjmhnjlalbab.fnExactMake
open Go.ChangeShapes Go.WideShapes Go.ChangeAt Go.RowKit
open Go.ChangeMaps (open_string shut_string)
open Go.Proofs.Ytdikjmhnjlalbab.tm Go.Proofs.Ytdikjmhnjlalbab.bld Go.Proofs.Ytdikjmhnjlalbab.mrk
set_option linter.unusedVariables false

theorem own : ownKnob Try.prog.godebug = none := by kernel_rfl
theorem laidOut : laidOutB Try.prog = true := by kernel_rfl
theorem cellsS : Try.prog.cellsOf 9 = 1 := by kernel_rfl

theorem rds_len {w : World} {v : Value} {ls : List Bs} (h : Rds w v ls) : ∃ a c, v = .slice a ls.length c := by
  rcases h with ⟨rfl, a, c, e⟩ | ⟨g, off, cap, e, _⟩
  · exact ⟨a, c, e⟩
  · exact ⟨_, _, e⟩

set_option maxHeartbeats 2000000 in
set_option maxRecDepth 100000 in
theorem walk (a0 : ByteArray) (w0 : a0.size ≤ maxLen) (ad : Option Addr) (n cap : Nat) (ls : List Bs) (w : World) (hn : n = ls.length) (h : Rds w (.slice ad n cap) ls) (hm : n ≤ maxLen) (hw : ∀ x ∈ ls, x.length ≤ maxLen) :
    Calls Try.prog 8 #[.string a0, .slice ad n cap] w fun e w' => e = .returned (.bool true) ∧ Below w.heap.size w w' := by
  have hs := w0
  unfold maxLen at hs
  by_cases hbig : 1048576 < a0.size
  · have d0 : decide ((1048576 : Int) < a0.size) = true := by simp; omega
    clear h hw
    go_enter Try.func8, Try.ntmps8
    go_wp2_with fail
    go_ret
    exact ⟨rfl, Below.refl _ _⟩
  have d0 : decide ((1048576 : Int) < a0.size) = false := by simp; omega
  have cz := tsz.szStringS_calls ad n cap ls w hn h hm hw
  have ct := fun w => tsz.toStringS_calls ad n cap ls w hn
  have hop : a0.data.toList.length ≤ 4000000 := by show a0.size ≤ _; omega
  rcases hR : mkp.makeR a0.data.toList ls with ⟨r, c⟩
  have cs := fun a c' (w : World) h => smk.specMake_calls a0.data.toList a ls.length c' ls w rfl h hop
  have ci := fun a c' (w : World) h => imk.implMake_calls a0.data.toList a ls.length c' ls w rfl h hop
  rw [hR] at cs ci
  have c3 := eqo.eqTermOut_calls r c
  unfold sop.outVal at cs ci c3
  change ∀ a c' (w : World), Rds w (.slice a ls.length c') ls → _ → _ → Calls _ _ #[.string a0, _] w _ at cs
  change ∀ a c' (w : World), Rds w (.slice a ls.length c') ls → _ → _ → Calls _ _ #[.string a0, _] w _ at ci
  have H := Lib.hid h
  have HN := Lib.hid hn
  have CZ := Lib.hid cz
  have CT := Lib.hid ct
  have CS := Lib.hid cs
  have CI := Lib.hid ci
  have C3 := Lib.hid c3
  clear h hn hw cz ct cs ci c3 hR
  go_enter Try.func8, Try.ntmps8
  go_wp2_with fail
  refine CZ.out.mono ?_
  rintro e w1 ⟨rfl, rfl | ⟨L, hL, rfl, hln, hxs⟩⟩
  · go_wp2_with fail
    go_ret
    exact ⟨rfl, Below.refl _ _⟩
  have d1 : decide ((L : Int) < 0) = false := by simp
  have HX := Lib.hid (fun x hx => Nat.le_trans (hxs x hx) (by omega : 1048576 ≤ 4000000))
  clear hxs
  go_wp2_with fail
  refine (CT.out w H.out (by omega)).mono ?_
  rintro e w2 ⟨v2, rfl, hb2, hw2⟩
  obtain ⟨a2, c2, rfl⟩ := rds_len hw2.rds
  have HB2 := Lib.hid hb2
  have R2 := Lib.hid hw2.rds
  clear hb2 hw2
  go_wp2_with fail
  refine (CS.out a2 c2 w2 R2.out (by omega) HX.out).mono ?_
  rintro e w3 ⟨rfl, hb3⟩
  have HB3 := Lib.hid (HB2.out.trans (hb3.mono HB2.out.size))
  have hz3 := HB3.out.size
  clear hb3
  go_wp2_with fail
  have hB4 : Below w.heap.size w (w3.alloc (.cells #[str r, .int .i64 c] 36)) := HB3.out.alloc hz3 _
  refine (CT.out _ (Rds.below H.out hB4) (by omega)).mono ?_
  rintro e w4 ⟨v4, rfl, hb4, hw4⟩
  obtain ⟨a4, c4, rfl⟩ := rds_len hw4.rds
  have HB4 := Lib.hid hb4
  have HBW4 := Lib.hid (hB4.trans (hb4.mono hB4.size))
  have R4 := Lib.hid hw4.rds
  clear hb4 hw4 hB4
  go_wp2_with fail
  refine (CI.out a4 c4 w4 R4.out (by omega) HX.out).mono ?_
  rintro e w5 ⟨rfl, hb5⟩
  have R5 := Lib.hid (Rds.below R4.out hb5)
  have HB5 := Lib.hid (HB4.out.trans (hb5.mono HB4.out.size))
  have HBW5 := Lib.hid (HBW4.out.trans (hb5.mono HBW4.out.size))
  obtain ⟨k0, k1, f0, f1, hz⟩ := rdr.two (clo.new_kept HB5.out)
  clear hb5
  go_wp2_with fail
  refine (C3.out _).mono ?_
  rintro e w6 ⟨rfl, hb6⟩
  have hA : Below w5.heap.size w5 w6 := ((Below.refl _ _).alloc (Nat.le_refl _) _).trans (hb6.mono (by simp))
  have R6 := Lib.hid (Rds.below R5.out hA)
  have HBW6 := Lib.hid (HBW5.out.trans (hA.mono HBW5.out.size))
  clear hb6 hA k0 k1 f0 f1
  go_wp2_with fail
  refine (CT.out _ (Rds.below H.out HBW6.out) (by omega)).mono ?_
  rintro e w7 ⟨v7, rfl, hb7, hw7⟩
  have R7 := Lib.hid hw7.rds
  have R67 := Lib.hid (Rds.below R6.out hb7)
  have HBW7 := Lib.hid (HBW6.out.trans (hb7.mono HBW6.out.size))
  clear hb7 hw7
  go_wp2_with fail
  refine (mrk.eqStringS_calls _ _ ls _ R67.out R7.out (by omega)).mono ?_
  rintro e w8 ⟨rfl, hb8⟩
  have HBW8 := Lib.hid (HBW7.out.trans (hb8.below _))
  clear hb8
  go_wp2_with fail
  go_ret
  exact ⟨rfl, HBW8.out⟩

set_option maxRecDepth 100000 in
theorem lifted (os : Os) (started : os.Started) (H : Type) (enc : TypeId × Value → H) :
    ReturnsInHanded {} Try.checked os 8 .any (Rows.fnExactMakeSpec.pre6 enc Try.prog Try.f8 Rows.fnExactMakeRow.domain false) (Rows.fnExactMakeSpec.post enc Try.prog Try.f8 false true false false) := by
  refine returnsInHanded_of_change (C := Try.checked) own started (by kernel_rfl) Try.func8
    (ChangeSpec.witness6 (enc := enc) (C := Try.checked) false ⟨#[], #[.string ByteArray.empty, .slice none 0 0], []⟩ 8 (by kernel_rfl) (by kernel_rfl) (by kernel_rfl) (by kernel_rfl)) ?_
  intro W base args ds gs before hval0 hW hcnd _
  have hval : ∀ (j : Nat) t v, Try.f8.params[j]? = some t → args[j]? = some v → Value.okWide Try.prog W .any base t v := hval0
  have hW' := hW
  obtain ⟨p, q, hA0, hV, rfl, hfz, hnd⟩ := hW
  have hlt : ∀ x ∈ p, x.block < W.heap.size := fun x hx => hW'.lt x (by simp [hx])
  have hA : DataW.TrodAll enc Try.prog W 0 (fun _ => true) true Try.f8.params.toList args.toList ds p := hA0
  rw [Try.params8] at hA hval
  obtain ⟨v0, vs0, d0, ds0, p0, q0, hargs, rfl, rfl, h0, r0⟩ := trodAll_cons hA
  obtain ⟨v1, vs1, d1, ds1, p1, q1, rfl, rfl, rfl, h1, r1⟩ := trodAll_cons r0
  obtain ⟨rfl, rfl, rfl⟩ := trodAll_nil r1
  obtain rfl : args = #[v0, v1] := by cases args; simp_all
  obtain ⟨rfl, rfl⟩ := trodVars_none hV
  obtain ⟨a0, rfl, rfl, rfl, w0⟩ := open_string Try.underlying9 (hval 0 9 v0 rfl rfl) h0
  obtain ⟨ad, len, cap, rfl⟩ := okWide_slice Try.underlying22 (hval 1 22 v1 rfl rfl)
  have h1k := h1
  obtain ⟨fuel, hf⟩ := h1
  clear hA0 hval0
  have fin : ∀ (W' : World), Below W.heap.size W W' → Rows.fnExactMakeSpec.post enc Try.checked.prog Try.f8 false true false false W #[.string a0, .slice ad len cap] (.bool true) W' := by
    intro W' hg
    exact ⟨_, _, _, [], _, [], hW', (trodAll_cons_mk (shut_bool Try.underlying4 _) trodAll_mk0), (trodAll_cons_mk (shut_string Try.underlying9 w0) (trodAll_cons_mk (Below.trod laidOut (by kernel_rfl) (of_decide_eq_true (by kernel_rfl)) h1k hg (fun x hx => hlt x (by simp [hx]))) trodAll_mk0)), rfl, hg.frame _, fun h => by cases h⟩
  rcases open_strings Try.underlying22 Try.underlying9 cellsS hf with ⟨hcs, hx⟩ | ⟨a, len', cap', ss, hcs, _, hl, hm, hz, hx, hcell, hws⟩
  · simp [Value.cells] at hcs
    obtain ⟨rfl, rfl, rfl⟩ := hcs
    refine (walk a0 w0 none 0 0 [] W rfl (.inl ⟨rfl, _, _, rfl⟩) (Nat.zero_le _) (by simp)).mono fun e W' ⟨he, hg⟩ => ?_
    subst he
    exact ⟨_, rfl, fin W' hg⟩
  · simp [Value.cells] at hcs
    obtain ⟨rfl, rfl, rfl⟩ := hcs
    simp only [if_true] at hz
    have hr : Rds W (.slice (some a) len cap) ((ss.take len).map fun s => s.data.toList) := by
      by_cases hl0 : len = 0
      · subst hl0
        exact .inl ⟨by simp, _, _, rfl⟩
      · obtain ⟨b, off, spot⟩ := a
        have hspot : spot = none := by simpa [Addr.add] using World.cell?_spot (hcell 0 (by omega))
        subst hspot
        have c0 := hcell 0 (by omega)
        have hbW : b < W.heap.size := block_lt_of_cell (by simpa [Addr.add] using c0)
        have hlen : ((ss.take len).map fun s => s.data.toList).length = len := by simp; omega
        refine .inr ⟨b, off, cap, by rw [hlen], hbW, fun j l hj => ?_⟩
        have hj' : j < len := by
          rcases Nat.lt_or_ge j len with h | h
          · exact h
          · rw [List.getElem?_eq_none (by rw [hlen]; exact h)] at hj; cases hj
        have c1 := hcell j (by omega)
        rw [add_plain] at c1
        rw [c1]
        rw [List.getElem?_map, List.getElem?_take_of_lt hj'] at hj
        cases hs : ss[j]? with
        | none => rw [hs] at hj; cases hj
        | some s =>
          rw [hs] at hj
          simp only [Option.map_some, Option.some.injEq] at hj
          subst hj
          have : ss.getD j ByteArray.empty = s := by simp [List.getD, hs]
          rw [this]
    refine (walk a0 w0 (some a) len cap _ W (by simp; omega) hr (by omega) (fun x hx => ?_)).mono fun e W' ⟨he, hg⟩ => ?_
    · obtain ⟨s, hs, rfl⟩ := List.mem_map.1 hx
      exact hws s (List.mem_of_mem_take hs)
    · subst he
      exact ⟨_, rfl, fin W' hg⟩

theorem over : Rows.fnExactMakeRow.holds Try.pinned (OpenSpec.ofChange Rows.fnExactMakeSpec) :=
  OpenClaim.holds_of_wide 8 Try.f8 rfl rfl rfl rfl rfl rfl rfl ⟨rfl, rfl, rfl, rfl, rfl⟩ rfl rfl rfl rfl rfl (by kernel_rfl) Try.func8 (by kernel_rfl)
    (of_decide_eq_true (by kernel_rfl)) (by unfold Func.isWrapper; first | (rw [if_pos (by decide +kernel)]; kernel_rfl) | (rw [if_neg (by decide +kernel)]; exact ⟨rfl, rfl⟩))
    (fun os started H enc _ => lifted os started H enc)

theorem proved : Rows.FnExactMakeSaid :=
  over
end Go.Proofs.Ytdikjmhnjlalbab.fnExactMake
