/- LetterRight of the program: the numbers, the macs; all of it. -/
import Derived.Test.YtdikjmhnjlalbaaGreatQi
import Derived.Test.YtdikjmhnjlalbaaGreatQj
import Derived.Test.YtdikjmhnjlalbaaGreatQd
import Derived.StillTailTactics
import Derived.Lib.QuietBelow
namespace Go.Proofs.YtdikjmhnjlalbaaGreat.lri
open Go.RowKit Go.Proofs.YtdikjmhnjlalbaaGreat.tm Go.Proofs.YtdikjmhnjlalbaaGreat.lib Go.Proofs.YtdikjmhnjlalbaaGreat.rdr Go.Proofs.YtdikjmhnjlalbaaGreat.bld Go.Proofs.YtdikjmhnjlalbaaGreat.app Go.Proofs.YtdikjmhnjlalbaaGreat.mrk Go.Proofs.YtdikjmhnjlalbaaGreat.plf Go.Proofs.YtdikjmhnjlalbaaGreat.ltq Go.Proofs.YtdikjmhnjlalbaaGreat.ltv Go.Proofs.YtdikjmhnjlalbaaGreat.ltp Go.Proofs.YtdikjmhnjlalbaaGreat.prr Go.Proofs.YtdikjmhnjlalbaaGreat.kin
set_option linter.unusedVariables false

theorem new1 (w : World) (o : Obj) : Below w.heap.size w (w.alloc o) := (Below.refl _ _).alloc (Nat.le_refl _) _

theorem bcell {W w1 : World} (hb : Below W.heap.size W w1) : (∀ b o, b < W.heap.size → w1.cell? ⟨b, o, none⟩ = W.cell? ⟨b, o, none⟩) ∧ (∀ b o, b < W.heap.size → w1.frozen? ⟨b, o, none⟩ = W.frozen? ⟨b, o, none⟩) :=
  ⟨fun b o h => hb.cell (p := ⟨b, o, none⟩) h, fun b o h => hb.frozen (p := ⟨b, o, none⟩) h⟩

theorem isEnd_calls (n : Int) (w : World) : Calls Tryz.prog 80 #[.int .i64 n] w fun e w' => e = .returned (.bool (endR n)) ∧ w = w' := by
  unfold endR
  go_enter Tryz.func80, Tryz.ntmps80
  go_wp2
  all_goals go_ret
  all_goals exact ⟨by congr 2; simp [*] <;> omega, rfl⟩

section
variable (k f t c : Int) (v : Value) (a b : Bs) (w : World)
set_option maxRecDepth 100000 in
theorem fromEnd_calls : Calls Tryz.prog 61 #[.agg (wireV k f t c v a b)] w fun e w' => e = .returned (.bool (endR f)) ∧ Below w.heap.size w w' := by
  unfold wireV
  go_enter Tryz.func61, Tryz.ntmps61
  go_wp2_with (go_at_call 80; refine (isEnd_calls _ _).mono ?_; rintro e w' ⟨rfl, rfl⟩)
  go_ret
  exact ⟨rfl, new1 _ _⟩
set_option maxRecDepth 100000 in
theorem toEnd_calls : Calls Tryz.prog 64 #[.agg (wireV k f t c v a b)] w fun e w' => e = .returned (.bool (endR t)) ∧ Below w.heap.size w w' := by
  unfold wireV
  go_enter Tryz.func64, Tryz.ntmps64
  go_wp2_with (go_at_call 80; refine (isEnd_calls _ _).mono ?_; rintro e w' ⟨rfl, rfl⟩)
  go_ret
  exact ⟨rfl, new1 _ _⟩
set_option maxRecDepth 100000 in
theorem countTime_calls : Calls Tryz.prog 66 #[.agg (wireV k f t c v a b)] w fun e w' => e = .returned (.bool (timeR c)) ∧ Below w.heap.size w w' := by
  unfold wireV
  go_enter Tryz.func66, Tryz.ntmps66
  go_wp2_with (go_at_call 36; refine (isTime_calls _ _).mono ?_; rintro e w' ⟨rfl, rfl⟩)
  go_ret
  exact ⟨rfl, new1 _ _⟩
theorem eq0 (n : Int) : (n == 0) = decide (n = 0) := by rw [Bool.eq_iff_iff]; simp
set_option maxRecDepth 100000 in
theorem fromNone_calls : Calls Tryz.prog 65 #[.agg (wireV k f t c v a b)] w fun e w' => e = .returned (.bool (decide (f = 0))) ∧ Below w.heap.size w w' := by
  unfold wireV
  go_enter Tryz.func65, Tryz.ntmps65
  go_wp2_with fail
  go_ret
  exact ⟨by rw [← eq0]; rfl, new1 _ _⟩
set_option maxRecDepth 100000 in
theorem toNone_calls : Calls Tryz.prog 62 #[.agg (wireV k f t c v a b)] w fun e w' => e = .returned (.bool (decide (t = 0))) ∧ Below w.heap.size w w' := by
  unfold wireV
  go_enter Tryz.func62, Tryz.ntmps62
  go_wp2_with fail
  go_ret
  exact ⟨by rw [← eq0]; rfl, new1 _ _⟩
set_option maxRecDepth 100000 in
theorem countNone_calls : Calls Tryz.prog 63 #[.agg (wireV k f t c v a b)] w fun e w' => e = .returned (.bool (decide (c = 0))) ∧ Below w.heap.size w w' := by
  unfold wireV
  go_enter Tryz.func63, Tryz.ntmps63
  go_wp2_with fail
  go_ret
  exact ⟨by rw [← eq0]; rfl, new1 _ _⟩
end


set_option maxHeartbeats 1000000 in
set_option maxRecDepth 100000 in
theorem nums_of (n1 n2 n3 : Nat) (x y z : Bool) (k f t c : Int) (v : Value) (a b : Bs) (kw : Bs) (kn : Nat) (ks : Bool) (w : World)
    (h1 : ∀ w, Calls Tryz.prog n1 #[.agg (wireV k f t c v a b)] w fun e w' => e = .returned (.bool x) ∧ Below w.heap.size w w')
    (h2 : ∀ w, Calls Tryz.prog n2 #[.agg (wireV k f t c v a b)] w fun e w' => e = .returned (.bool y) ∧ Below w.heap.size w w')
    (h3 : ∀ w, Calls Tryz.prog n3 #[.agg (wireV k f t c v a b)] w fun e w' => e = .returned (.bool z) ∧ Below w.heap.size w w')
    (hc1 : ∀ (v : Value) (w : World), (callFunc n1 #[v]).run Tryz.prog w = .ok (.enter n1 #[v]) w)
    (hc2 : ∀ (v : Value) (w : World), (callFunc n2 #[v]).run Tryz.prog w = .ok (.enter n2 #[v]) w)
    (hc3 : ∀ (v : Value) (w : World), (callFunc n3 #[v]).run Tryz.prog w = .ok (.enter n3 #[v]) w) :
    Calls Tryz.prog 38 #[.agg (wireV k f t c v a b), .agg (kindV kw kn ks (.func (.func n1) #[] #[]) (.func (.func n2) #[] #[]) (.func (.func n3) #[] #[]))] w fun e w' =>
      e = .returned (.bool (x && y && z)) ∧ Below w.heap.size w w' := by
  unfold wireV kindV at *
  have H1 := Lib.hid h1
  have H2 := Lib.hid h2
  have H3 := Lib.hid h3
  clear h1 h2 h3
  have k0 : Below w.heap.size w ((w.alloc (.cells #[.int .i64 k, .int .i64 f, .int .i64 t, .int .i64 c, v, str a, str b] 59)).alloc (.cells #[str kw, .int .i64 kn, .bool ks, .func (.func n1) #[] #[], .func (.func n2) #[] #[], .func (.func n3) #[] #[]] 56)) := (new1 _ _).alloc (by simp) _
  have K0 := Lib.hid k0
  clear k0
  cases x with
  | false =>
    go_enter Tryz.func38, Tryz.ntmps38
    go_wp2_with fail
    refine (H1.out _).mono ?_
    rintro e w1 ⟨rfl, hb1⟩
    have HB1 := Lib.hid (K0.out.trans (hb1.mono K0.out.size))
    clear hb1
    go_wp2_with fail
    go_ret
    exact ⟨rfl, HB1.out⟩
  | true =>
    cases y with
    | false =>
      go_enter Tryz.func38, Tryz.ntmps38
      go_wp2_with fail
      refine (H1.out _).mono ?_
      rintro e w1 ⟨rfl, hb1⟩
      obtain ⟨hq, hf⟩ := bcell hb1
      have HB1 := Lib.hid (K0.out.trans (hb1.mono K0.out.size))
      have z1 := hb1.size
      simp at z1
      clear hb1
      go_wp2_with fail
      refine (H2.out _).mono ?_
      rintro e w2 ⟨rfl, hb2⟩
      have HB2 := Lib.hid (HB1.out.trans (hb2.mono HB1.out.size))
      clear hb2 hq hf
      go_wp2_with fail
      go_ret
      exact ⟨rfl, HB2.out⟩
    | true =>
      go_enter Tryz.func38, Tryz.ntmps38
      go_wp2_with fail
      refine (H1.out _).mono ?_
      rintro e w1 ⟨rfl, hb1⟩
      obtain ⟨hq, hf⟩ := bcell hb1
      have HB1 := Lib.hid (K0.out.trans (hb1.mono K0.out.size))
      have z1 := hb1.size
      simp at z1
      have HC1 := Lib.hid hb1
      clear hb1
      go_wp2_with fail
      refine (H2.out _).mono ?_
      rintro e w2 ⟨rfl, hb2⟩
      have hbb := HC1.out.trans (hb2.mono HC1.out.size)
      clear hq hf
      obtain ⟨hq, hf⟩ := bcell hbb
      have HB2 := Lib.hid (HB1.out.trans (hb2.mono HB1.out.size))
      have z2 := hbb.size
      simp at z2
      clear hb2 hbb
      go_wp2_with fail
      refine (H3.out _).mono ?_
      rintro e w3 ⟨rfl, hb3⟩
      have HB3 := Lib.hid (HB2.out.trans (hb3.mono HB2.out.size))
      clear hb3 hq hf
      go_wp2_with fail
      go_ret
      exact ⟨rfl, HB3.out⟩

/-- The question of a kind's numbers. -/
def numsK (k f t c : Int) : Bool :=
  if k = 1 then endR f && decide (t = 0) && decide (c = 0)
  else if k = 2 then endR f && endR t && decide (c = 0)
  else if k = 3 then decide (f = 0) && endR t && decide (c = 0)
  else decide (f = 0) && endR t && timeR c

theorem nums_calls (k f t c : Int) (v : Value) (a b : Bs) (w : World) (hk : isK k = true) :
    Calls Tryz.prog 38 #[.agg (wireV k f t c v a b), .agg (kV k)] w fun e w' => e = .returned (.bool (numsK k f t c)) ∧ Below w.heap.size w w' := by
  have hn : k = 1 ∨ k = 2 ∨ k = 3 ∨ k = 4 := by unfold isK at hk; simp at hk; omega
  rcases hn with rfl | rfl | rfl | rfl
  · exact nums_of _ _ _ _ _ _ _ _ _ _ _ _ _ _ 3 _ w (fromEnd_calls 1 f t c v a b) (toNone_calls 1 f t c v a b) (countNone_calls 1 f t c v a b) (fun _ _ => by kernel_rfl) (fun _ _ => by kernel_rfl) (fun _ _ => by kernel_rfl)
  · exact nums_of _ _ _ _ _ _ _ _ _ _ _ _ _ _ 2 _ w (fromEnd_calls 2 f t c v a b) (toEnd_calls 2 f t c v a b) (countNone_calls 2 f t c v a b) (fun _ _ => by kernel_rfl) (fun _ _ => by kernel_rfl) (fun _ _ => by kernel_rfl)
  · exact nums_of _ _ _ _ _ _ _ _ _ _ _ _ _ _ 1 _ w (fromNone_calls 3 f t c v a b) (toEnd_calls 3 f t c v a b) (countNone_calls 3 f t c v a b) (fun _ _ => by kernel_rfl) (fun _ _ => by kernel_rfl) (fun _ _ => by kernel_rfl)
  · exact nums_of _ _ _ _ _ _ _ _ _ _ _ _ _ _ 1 _ w (fromNone_calls 4 f t c v a b) (toEnd_calls 4 f t c v a b) (countTime_calls 4 f t c v a b) (fun _ _ => by kernel_rfl) (fun _ _ => by kernel_rfl) (fun _ _ => by kernel_rfl)
end Go.Proofs.YtdikjmhnjlalbaaGreat.lri
