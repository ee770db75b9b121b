/- guarded at HandOut and its deferred closure; handOut (written by wip/gen_hgo.py). -/
import Derived.Test.YtonjohlecomeoaaGreatQk
import Derived.Test.YtonjohlecomeoaaGreatQe
import Derived.Test.YtonjohlecomeoaaGreatQc
import Derived.Test.YtonjohlecomeoaaGreatQd
import Derived.Test.YtonjohlecomeoaaGreatQn
namespace Go.Proofs.YtonjohlecomeoaaGreat.hgo
open Go.RowKit Go.Proofs.YtonjohlecomeoaaGreat.tm Go.Proofs.YtonjohlecomeoaaGreat.lib Go.Proofs.YtonjohlecomeoaaGreat.rdr Go.Proofs.YtonjohlecomeoaaGreat.bld Go.Proofs.YtonjohlecomeoaaGreat.prs Go.Proofs.YtonjohlecomeoaaGreat.grd Go.Proofs.YtonjohlecomeoaaGreat.mrk Go.Proofs.YtonjohlecomeoaaGreat.mrs Go.Proofs.YtonjohlecomeoaaGreat.ltv Go.Proofs.YtonjohlecomeoaaGreat.ltp Go.Proofs.YtonjohlecomeoaaGreat.hdp Go.Proofs.YtonjohlecomeoaaGreat.hdv Go.Proofs.YtonjohlecomeoaaGreat.blw
set_option linter.unusedVariables false

set_option maxRecDepth 100000 in
theorem catchH_panic (p : Addr) (x c : Int) (older : List PanicEntry) (w : World) (hc : w.cell? p = some (.int .i64 x)) (hz : w.frozen? p = false) (hp : p.block < w.heap.size) :
    CallsD Tryz.prog 132 #[.pointer (some p)] (.panicking ({ v := .iface 150 (.agg #[.int .i64 c]), recovered := false } :: older)) w fun e u' w' =>
      e = .returned (.tuple #[]) ∧ u' = .panicking ({ v := .iface 150 (.agg #[.int .i64 c]), recovered := true } :: older) ∧ ∃ w1, Below w.heap.size w w1 ∧ w' = w1.setCell p (.int .i64 c) := by
  refine callsD_of_wpS Tryz.func132 rfl fun c₀ cs hu => ?_
  apply wpS_seq
  apply wpS_region
  simp [wpOpsS, go_sem, recoverD, hu, Tryz.ntmps132, Exit.thenS]
  refine wpS_of_wp ?_
  change Code.wp _ _ _ { tmps := #[.pointer (some p), .iface 150 (.agg #[.int .i64 c]), .iface 150 (.agg #[.int .i64 c]), undef, undef, undef, undef], defers := [] } _
  clear hu
  go_wp2_with (go_at_call 133; refine (codeOf_calls _ _).mono ?_; rintro e w1 ⟨rfl, hb⟩; have hc1 := hb.cell hp; rw [hc] at hc1; have hz1 := hb.frozen hp; rw [hz] at hz1; have HB := Lib.hid hb; clear hb)
  exact ⟨rfl, _, rfl, .tuple #[], by simp [results, Tryz.results132, go_sem], rfl, rfl, w1, HB.out, rfl⟩

set_option maxRecDepth 100000 in
theorem catchH_idle (p : Addr) (w : World) :
    CallsD Tryz.prog 132 #[.pointer (some p)] .returning w fun e u' w' => e = .returned (.tuple #[]) ∧ u' = .returning ∧ w' = w := by
  refine callsD_of_wpS Tryz.func132 rfl fun c₀ cs hu => ?_
  apply wpS_seq
  apply wpS_region
  simp [wpOpsS, go_sem, recoverD, hu, Tryz.ntmps132, Exit.thenS]
  refine wpS_of_wp ?_
  change Code.wp _ _ _ { tmps := #[.pointer (some p), .nilIface, .nilIface, undef, undef, undef, undef], defers := [] } _
  go_wp2
  refine ⟨rfl, .returning, ?_, .tuple #[], by simp [results, Tryz.results132, go_sem], rfl, rfl, rfl⟩
  cases c₀
  simp_all

set_option maxHeartbeats 4000000 in
set_option maxRecDepth 100000 in
/-- guarded of a closure that returns. -/
theorem guardedH_ret (F : FuncId) (cap : Array Value) (H : Hd) (hcf : ∀ (w : World), (callFunc F cap).run Tryz.prog w = .ok (.enter F cap) w) (w : World)
    (h : ∀ w1, Below w.heap.size w w1 → Calls Tryz.prog F cap w1 (HEnd H w1)) :
    Calls Tryz.prog 100 #[.func (.func F) #[] cap] w fun e w' => ∃ u, e = .returned (.tuple #[.agg (hdA H u), .int .i64 0]) ∧ Below w.heap.size w w' ∧ Wrs w' w.heap.size u H.m.ps := by
  have hmf : ∀ (fn : Fn) (first cap : Array Value) (w : World), (Instr.makeFunc fn first cap).run Tryz.prog w = .ok (.func fn first cap) w := fun _ _ _ _ => rfl
  have A2 := sgv.alloc2 w (.cells #[.int .i64 0, .int .i64 0, .int .i64 0, .int .i64 0, .slice none 0 0, .string ⟨#[]⟩, .string ⟨#[]⟩, .string ⟨#[]⟩, .string ⟨#[]⟩, .string ⟨#[]⟩, .string ⟨#[]⟩, .string ⟨#[]⟩, .string ⟨#[]⟩, .string ⟨#[]⟩, .int .i64 0] 28) (.cells #[.int .i64 0] 2)
  have X0 := Lib.hid A2.1
  have Y0 := Lib.hid A2.2
  have HB0 := Lib.hid ((al0 (w := w) (.cells #[.int .i64 0, .int .i64 0, .int .i64 0, .int .i64 0, .slice none 0 0, .string ⟨#[]⟩, .string ⟨#[]⟩, .string ⟨#[]⟩, .string ⟨#[]⟩, .string ⟨#[]⟩, .string ⟨#[]⟩, .string ⟨#[]⟩, .string ⟨#[]⟩, .string ⟨#[]⟩, .int .i64 0] 28)).alloc (by simp) (.cells #[.int .i64 0] 2))
  clear A2
  have hh : ∀ w1, Below w.heap.size w w1 → Calls Tryz.prog F cap w1 fun e w' => ∃ a n c, e = .returned (.agg #[.int .i64 H.m.k, .int .i64 H.m.f, .int .i64 H.m.t, .int .i64 H.m.c, .slice a n c, str H.m.a, str H.m.b, str H.peer, str H.stamp, str H.eph, str H.chain, str H.send, str H.hear, str H.key, .int .i64 H.code]) ∧ Below w1.heap.size w1 w' ∧ Wrs w' w1.heap.size (.slice a n c) H.m.ps := fun w1 k => (h w1 k).mono (by
    rintro e w' ⟨u, rfl, hb, hw⟩
    obtain ⟨a, n, c, rfl⟩ := tell hw
    exact ⟨a, n, c, rfl, hb, hw⟩)
  have HH := Lib.hid hh
  clear h hh
  go_enter_defers Tryz.func100, Tryz.ntmps100
  go_wp2_with fail
  refine (HH.out _ HB0.out).mono ?_
  rintro e w1 ⟨a, n, c, rfl, hb, hw⟩
  have HW := Lib.hid hw
  have HB := Lib.hid (HB0.out.trans (hb.mono HB0.out.size))
  have X1 := Lib.hid (keptB X0.out hb)
  have Y1 := Lib.hid (keptB Y0.out hb)
  clear hb hw
  obtain ⟨p0, p1, p2, p3, p4, p5, p6, p7, p8, p9, p10, p11, p12, p13, p14, pz, pf⟩ := fifteen X1.out
  obtain ⟨c0, f0, z0⟩ := grd.one Y1.out
  go_wp2_with fail
  refine leaves_cons (f := 132) (args := #[.pointer (some ⟨w.heap.size + 1, 0, none⟩)]) (by simp) (by simp [go_sem]) ?_
  refine (catchH_idle ⟨w.heap.size + 1, 0, none⟩ _).mono ?_
  rintro e u' w'' ⟨rfl, rfl, rfl⟩
  refine ⟨.tuple #[.agg #[.int .i64 H.m.k, .int .i64 H.m.f, .int .i64 H.m.t, .int .i64 H.m.c, .slice a n c, str H.m.a, str H.m.b, str H.peer, str H.stamp, str H.eph, str H.chain, str H.send, str H.hear, str H.key, .int .i64 H.code], .int .i64 0], by simp [results, Tryz.results100, go_sem, p0, p1, p2, p3, p4, p5, p6, p7, p8, p9, p10, p11, p12, p13, p14, c0], .slice a n c, rfl, ?_, ?_⟩
  · exact (set15 HB.out (by simp) _ _ _ _ _ _ _ _ _ _ _ _ _ _ _).setCell (by simp) _
  · have h := HW.out
    simp only [World.size_alloc] at h
    exact sgv.Wrs.base (sgv.Wrs.set (wset15 h (by omega) (Nat.le_refl _) _ _ _ _ _ _ _ _ _ _ _ _ _ _ _) (by simp) _) (by omega)

set_option maxHeartbeats 4000000 in
set_option maxRecDepth 100000 in
/-- guarded of a closure that leaves off with a code. -/
theorem guardedH_fault (F : FuncId) (cap : Array Value) (c : Int) (hcf : ∀ (w : World), (callFunc F cap).run Tryz.prog w = .ok (.enter F cap) w) (w : World)
    (h : ∀ w1, Below w.heap.size w w1 → Calls Tryz.prog F cap w1 fun e w' => e = fault c ∧ Below w1.heap.size w1 w') :
    Calls Tryz.prog 100 #[.func (.func F) #[] cap] w fun e w' => e = .returned (.tuple #[.agg (illA 0), .int .i64 c]) ∧ Below w.heap.size w w' := by
  unfold illA
  have hmf : ∀ (fn : Fn) (first cap : Array Value) (w : World), (Instr.makeFunc fn first cap).run Tryz.prog w = .ok (.func fn first cap) w := fun _ _ _ _ => rfl
  have A2 := sgv.alloc2 w (.cells #[.int .i64 0, .int .i64 0, .int .i64 0, .int .i64 0, .slice none 0 0, .string ⟨#[]⟩, .string ⟨#[]⟩, .string ⟨#[]⟩, .string ⟨#[]⟩, .string ⟨#[]⟩, .string ⟨#[]⟩, .string ⟨#[]⟩, .string ⟨#[]⟩, .string ⟨#[]⟩, .int .i64 0] 28) (.cells #[.int .i64 0] 2)
  have X0 := Lib.hid A2.1
  have Y0 := Lib.hid A2.2
  have HB0 := Lib.hid ((al0 (w := w) (.cells #[.int .i64 0, .int .i64 0, .int .i64 0, .int .i64 0, .slice none 0 0, .string ⟨#[]⟩, .string ⟨#[]⟩, .string ⟨#[]⟩, .string ⟨#[]⟩, .string ⟨#[]⟩, .string ⟨#[]⟩, .string ⟨#[]⟩, .string ⟨#[]⟩, .string ⟨#[]⟩, .int .i64 0] 28)).alloc (by simp) (.cells #[.int .i64 0] 2))
  clear A2
  have HH := Lib.hid h
  clear h
  go_enter_defers Tryz.func100, Tryz.ntmps100
  go_wp2_with fail
  refine (HH.out _ HB0.out).mono ?_
  rintro e w1 ⟨rfl, hb⟩
  have HB := Lib.hid (HB0.out.trans (hb.mono HB0.out.size))
  have X1 := Lib.hid (keptB X0.out hb)
  have Y1 := Lib.hid (keptB Y0.out hb)
  have hz := hb.size
  simp at hz
  clear hb
  obtain ⟨c0, f0, z0⟩ := grd.one Y1.out
  refine leaves_cons (f := 132) (args := #[.pointer (some ⟨w.heap.size + 1, 0, none⟩)]) (by simp) (by simp [go_sem]) ?_
  refine (catchH_panic ⟨w.heap.size + 1, 0, none⟩ 0 c [] _ c0 f0 z0).mono ?_
  rintro e u' w'' ⟨rfl, rfl, w2, hb2, rfl⟩
  have c1 := hb2.cell (p := ⟨w.heap.size + 1, 0, none⟩) z0
  rw [c0] at c1
  have X2 := keptB X1.out hb2
  obtain ⟨p0, p1, p2, p3, p4, p5, p6, p7, p8, p9, p10, p11, p12, p13, p14, pz, pf⟩ := fifteen X2
  have z2 := hb2.size
  have z3 : w.heap.size + 1 < w2.heap.size := by omega
  refine ⟨.tuple #[.agg #[.int .i64 0, .int .i64 0, .int .i64 0, .int .i64 0, .slice none 0 0, .string ⟨#[]⟩, .string ⟨#[]⟩, .string ⟨#[]⟩, .string ⟨#[]⟩, .string ⟨#[]⟩, .string ⟨#[]⟩, .string ⟨#[]⟩, .string ⟨#[]⟩, .string ⟨#[]⟩, .int .i64 0], .int .i64 c], by simp [results, Tryz.results100, go_sem, p0, p1, p2, p3, p4, p5, p6, p7, p8, p9, p10, p11, p12, p13, p14, c1], rfl, (HB.out.trans (hb2.mono (by have := HB.out.size; omega))).setCell (by simp) _⟩

set_option maxHeartbeats 4000000 in
set_option maxRecDepth 100000 in
theorem handOut_ret (F : FuncId) (cap : Array Value) (H : Hd) (h0 : H.code = 0) (hcf : ∀ (w : World), (callFunc F cap).run Tryz.prog w = .ok (.enter F cap) w) (w : World)
    (h : ∀ w1, Below w.heap.size w w1 → Calls Tryz.prog F cap w1 (HEnd H w1)) :
    Calls Tryz.prog 47 #[.func (.func F) #[] cap] w (HEnd H w) := by
  unfold HEnd
  have hg := fun w0 (k : Below w.heap.size w w0) => (guardedH_ret F cap H hcf w0 fun w1 k1 => h w1 (k.trans (k1.mono k.size)))
  obtain ⟨⟨k, f, t, c', ps, a, b⟩, pe, st, ep, ch, se, he, ky, cd⟩ := H
  simp only at h0
  subst h0
  have hh : ∀ w0, Below w.heap.size w w0 → Calls Tryz.prog 100 #[.func (.func F) #[] cap] w0 fun e w' => ∃ ad n c, e = .returned (.tuple #[.agg #[.int .i64 k, .int .i64 f, .int .i64 t, .int .i64 c', .slice ad n c, str a, str b, str pe, str st, str ep, str ch, str se, str he, str ky, .int .i64 0], .int .i64 0]) ∧ Below w0.heap.size w0 w' ∧ Wrs w' w0.heap.size (.slice ad n c) ps := fun w0 k0 => (hg w0 k0).mono (by
    rintro e w' ⟨u, rfl, hb, hw⟩
    obtain ⟨a, n, c, rfl⟩ := tell hw
    exact ⟨a, n, c, rfl, hb, hw⟩)
  have HH := Lib.hid hh
  unfold hdA
  simp only
  clear hg hh h
  have X0 := Lib.hid (heap_alloc_new w (.cells #[.int .i64 0, .int .i64 0, .int .i64 0, .int .i64 0, .slice none 0 0, .string ⟨#[]⟩, .string ⟨#[]⟩, .string ⟨#[]⟩, .string ⟨#[]⟩, .string ⟨#[]⟩, .string ⟨#[]⟩, .string ⟨#[]⟩, .string ⟨#[]⟩, .string ⟨#[]⟩, .int .i64 0] 28))
  go_enter Tryz.func47, Tryz.ntmps47
  go_wp2_with fail
  refine (HH.out _ (al0 _)).mono ?_
  rintro e w1 ⟨ad, n, cp, rfl, hb, hw⟩
  have HW := Lib.hid (hms.wrsA hw (.cells #[.int .i64 k, .int .i64 f, .int .i64 t, .int .i64 c', .slice ad n cp, str a, str b, str pe, str st, str ep, str ch, str se, str he, str ky, .int .i64 0] 28))
  have HB := Lib.hid (base (al0 _) (al1 hb (.cells #[.int .i64 k, .int .i64 f, .int .i64 t, .int .i64 c', .slice ad n cp, str a, str b, str pe, str st, str ep, str ch, str se, str he, str ky, .int .i64 0] 28)))
  have X1 := Lib.hid (keptA (keptB X0.out hb) (.cells #[.int .i64 k, .int .i64 f, .int .i64 t, .int .i64 c', .slice ad n cp, str a, str b, str pe, str st, str ep, str ch, str se, str he, str ky, .int .i64 0] 28))
  have hz := hb.size
  simp at hz
  clear hb hw
  obtain ⟨p0, p1, p2, p3, p4, p5, p6, p7, p8, p9, p10, p11, p12, p13, p14, pz, pf⟩ := fifteen X1.out
  go_wp2_with fail
  refine bodyPost_ret (v := .agg #[.int .i64 k, .int .i64 f, .int .i64 t, .int .i64 c', .slice ad n cp, str a, str b, str pe, str st, str ep, str ch, str se, str he, str ky, .int .i64 0]) (by simp [results, Tryz.results47, go_sem, p0, p1, p2, p3, p4, p5, p6, p7, p8, p9, p10, p11, p12, p13, p14]) rfl ⟨_, rfl, ?_, ?_⟩
  · exact set15 HB.out (by simp) _ _ _ _ _ _ _ _ _ _ _ _ _ _ _
  · have h := HW.out
    simp only [World.size_alloc] at h
    exact wset15 h (by simp) (by omega) _ _ _ _ _ _ _ _ _ _ _ _ _ _ _

set_option maxHeartbeats 4000000 in
set_option maxRecDepth 100000 in
theorem handOut_fault (F : FuncId) (cap : Array Value) (c : Int) (hcf : ∀ (w : World), (callFunc F cap).run Tryz.prog w = .ok (.enter F cap) w) (w : World)
    (h : ∀ w1, Below w.heap.size w w1 → Calls Tryz.prog F cap w1 fun e w' => e = fault c ∧ Below w1.heap.size w1 w') :
    Calls Tryz.prog 47 #[.func (.func F) #[] cap] w (HEnd (ill c) w) := by
  have hg := fun w0 (k : Below w.heap.size w w0) => (guardedH_fault F cap c hcf w0 fun w1 k1 => h w1 (k.trans (k1.mono k.size)))
  unfold illA at hg
  have HH := Lib.hid hg
  clear hg h
  have X0 := Lib.hid (heap_alloc_new w (.cells #[.int .i64 0, .int .i64 0, .int .i64 0, .int .i64 0, .slice none 0 0, .string ⟨#[]⟩, .string ⟨#[]⟩, .string ⟨#[]⟩, .string ⟨#[]⟩, .string ⟨#[]⟩, .string ⟨#[]⟩, .string ⟨#[]⟩, .string ⟨#[]⟩, .string ⟨#[]⟩, .int .i64 0] 28))
  go_enter Tryz.func47, Tryz.ntmps47
  go_wp2_with fail
  refine (HH.out _ (al0 _)).mono ?_
  rintro e w1 ⟨rfl, hb⟩
  have HB := Lib.hid (base (al0 _) (al1 hb (.cells #[.int .i64 0, .int .i64 0, .int .i64 0, .int .i64 0, .slice none 0 0, .string ⟨#[]⟩, .string ⟨#[]⟩, .string ⟨#[]⟩, .string ⟨#[]⟩, .string ⟨#[]⟩, .string ⟨#[]⟩, .string ⟨#[]⟩, .string ⟨#[]⟩, .string ⟨#[]⟩, .int .i64 c] 28)))
  have X1 := Lib.hid (keptA (keptB X0.out hb) (.cells #[.int .i64 0, .int .i64 0, .int .i64 0, .int .i64 0, .slice none 0 0, .string ⟨#[]⟩, .string ⟨#[]⟩, .string ⟨#[]⟩, .string ⟨#[]⟩, .string ⟨#[]⟩, .string ⟨#[]⟩, .string ⟨#[]⟩, .string ⟨#[]⟩, .string ⟨#[]⟩, .int .i64 c] 28))
  have hz := hb.size
  simp at hz
  clear hb
  obtain ⟨p0, p1, p2, p3, p4, p5, p6, p7, p8, p9, p10, p11, p12, p13, p14, pz, pf⟩ := fifteen X1.out
  go_wp2_with fail
  refine bodyPost_ret (v := .agg (illA c)) (by simp [results, Tryz.results47, go_sem, illA, p0, p1, p2, p3, p4, p5, p6, p7, p8, p9, p10, p11, p12, p13, p14]) rfl (HEnd.ill ?_)
  exact set15 HB.out (by simp) _ _ _ _ _ _ _ _ _ _ _ _ _ _ _
end Go.Proofs.YtonjohlecomeoaaGreat.hgo
