/- l06Ill and l06Keys of the model (written by wip/gen_sim.py). -/
import Derived.Test.YtonjohlecomeoaaGreatQk
import Derived.Test.YtonjohlecomeoaaGreatQl
namespace Go.Proofs.YtonjohlecomeoaaGreat.sim
open Go.RowKit Go.Proofs.YtonjohlecomeoaaGreat.tm Go.Proofs.YtonjohlecomeoaaGreat.lib Go.Proofs.YtonjohlecomeoaaGreat.rdr Go.Proofs.YtonjohlecomeoaaGreat.bld Go.Proofs.YtonjohlecomeoaaGreat.sop Go.Proofs.YtonjohlecomeoaaGreat.mkp Go.Proofs.YtonjohlecomeoaaGreat.mrk Go.Proofs.YtonjohlecomeoaaGreat.mrs Go.Proofs.YtonjohlecomeoaaGreat.ltq Go.Proofs.YtonjohlecomeoaaGreat.ltv Go.Proofs.YtonjohlecomeoaaGreat.ltp Go.Proofs.YtonjohlecomeoaaGreat.hdp Go.Proofs.YtonjohlecomeoaaGreat.hdv Go.Proofs.YtonjohlecomeoaaGreat.blw Go.Proofs.YtonjohlecomeoaaGreat.smx
set_option linter.unusedVariables false

set_option maxHeartbeats 8000000 in
set_option maxRecDepth 100000 in
theorem ill_calls (c : Int) (w : World) : Calls Tryz.prog 36 #[.int .i64 c] w fun e w' => e = .returned (.agg (illA c)) ∧ Below w.heap.size w w' := by
  go_enter Tryz.func36, Tryz.ntmps36
  go_wp2_with fail
  refine bodyPost_ret (v := .agg (illA c)) (by simp [results, Tryz.results36, go_sem, illA]) rfl ⟨rfl, ?_⟩
  exact al0 _

theorem three {w : World} {b : Nat} {x y z : Value} {t : TypeId} (h : w.heap[b]? = some (.cells #[x, y, z] t (0, 0))) :
    w.cell? ⟨b, 0, none⟩ = some x ∧ w.cell? ⟨b, 1, none⟩ = some y ∧ w.cell? ⟨b, 2, none⟩ = some z ∧ w.frozen? ⟨b, 0, none⟩ = false ∧ w.frozen? ⟨b, 1, none⟩ = false ∧ w.frozen? ⟨b, 2, none⟩ = false ∧ b < w.heap.size := by
  obtain ⟨a1, a2, a3, a4, a5, a6⟩ := clo.three_cells h
  exact ⟨a1, a2, a3, a4, a5, a6, (Array.getElem?_eq_some_iff.1 h).1⟩

def keyA (c : Bs) (first : Bool) : Array Value := if first then #[str (mixT c oneA), str (mixT c twoA), str c] else #[str (mixT c twoA), str (mixT c oneA), str c]

set_option maxHeartbeats 1000000 in
set_option maxRecDepth 100000 in
theorem keys_calls (c : Bs) (first : Bool) (hc : c.length ≤ 500000) (w : World) : Calls Tryz.prog 72 #[str c, .bool first] w fun e w' => e = .returned (.agg (keyA c first)) ∧ Below w.heap.size w w' := by
  have c1 := fun w => l06Mix_calls c oneA (by omega) (by decide) w
  have c2 := fun w => l06Mix_calls c twoA (by omega) (by decide) w
  unfold keyA
  obtain ⟨x, hx⟩ : ∃ x, x = mixT c oneA := ⟨_, rfl⟩
  obtain ⟨y, hy⟩ : ∃ y, y = mixT c twoA := ⟨_, rfl⟩
  simp only [← hx, ← hy] at c1 c2 ⊢
  have C1 := Lib.hid c1
  have C2 := Lib.hid c2
  unfold oneA at C1
  unfold twoA at C2
  clear c1 c2 hx hy hc
  have X0 := Lib.hid (heap_alloc_new w (.cells #[.string ⟨#[]⟩, .string ⟨#[]⟩, .string ⟨#[]⟩] 26))
  have HB0 := Lib.hid (Below.refl (w.alloc (.cells #[.string ⟨#[]⟩, .string ⟨#[]⟩, .string ⟨#[]⟩] 26)).heap.size (w.alloc (.cells #[.string ⟨#[]⟩, .string ⟨#[]⟩, .string ⟨#[]⟩] 26)))
  cases first with
  | true =>
    simp only [if_true]
    go_enter Tryz.func72, Tryz.ntmps72
    go_wp2_with fail
    refine (on (by first | exact HB0.out | exact al1 HB0.out _ | exact al2 HB0.out _ _ | exact al3 HB0.out _ _ _) (C1.out _)).mono ?_
    rintro e w1 ⟨rfl, hb⟩
    have HB1 := Lib.hid hb
    clear hb
    go_wp2_with fail
    refine (on (by first | exact HB1.out | exact al1 HB1.out _ | exact al2 HB1.out _ _ | exact al3 HB1.out _ _ _) (C2.out _)).mono ?_
    rintro e w2 ⟨rfl, hb⟩
    have HB2 := Lib.hid hb
    obtain ⟨c0, c1, c2, f0, f1, f2, hz⟩ := three (keptA (keptB X0.out hb) (.cells #[str x, str y, str c] 26))
    clear hb
    go_wp2_with fail
    refine bodyPost_ret (v := .agg #[str x, str y, str c]) (by simp [results, Tryz.results72, go_sem, c0, c1, c2]) rfl ⟨rfl, ?_⟩
    exact (((base (al0 _) (al1 HB2.out _)).setCell (by simp) _).setCell (by simp) _).setCell (by simp) _
  | false =>
    simp only [Bool.false_eq_true, if_false]
    go_enter Tryz.func72, Tryz.ntmps72
    go_wp2_with fail
    refine (on (by first | exact HB0.out | exact al1 HB0.out _ | exact al2 HB0.out _ _ | exact al3 HB0.out _ _ _) (C1.out _)).mono ?_
    rintro e w1 ⟨rfl, hb⟩
    have HB1 := Lib.hid hb
    clear hb
    go_wp2_with fail
    refine (on (by first | exact HB1.out | exact al1 HB1.out _ | exact al2 HB1.out _ _ | exact al3 HB1.out _ _ _) (C2.out _)).mono ?_
    rintro e w2 ⟨rfl, hb⟩
    have HB2 := Lib.hid hb
    obtain ⟨c0, c1, c2, f0, f1, f2, hz⟩ := three (keptA (keptB X0.out hb) (.cells #[str x, str y, str c] 26))
    clear hb
    go_wp2_with fail
    refine bodyPost_ret (v := .agg #[str y, str x, str c]) (by simp [results, Tryz.results72, go_sem, c0, c1, c2]) rfl ⟨rfl, ?_⟩
    exact (((base (al0 _) (al1 HB2.out _)).setCell (by simp) _).setCell (by simp) _).setCell (by simp) _
end Go.Proofs.YtonjohlecomeoaaGreat.sim
