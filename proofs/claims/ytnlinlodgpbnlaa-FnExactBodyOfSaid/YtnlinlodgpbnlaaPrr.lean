/- partsRight of the program. -/
import Derived.Test.YtnlinlodgpbnlaaPlf
import Derived.RangeFuncCalls
import Derived.Test.YtnlinlodgpbnlaaGrs
import Derived.Test.YtnlinlodgpbnlaaLtq
namespace Go.Proofs.Ytnlinlodgpbnlaa.prr
open Go.RowKit Go.Shelf Go.Proofs.Ytnlinlodgpbnlaa.tm Go.Proofs.Ytnlinlodgpbnlaa.bld Go.Proofs.Ytnlinlodgpbnlaa.app Go.Proofs.Ytnlinlodgpbnlaa.mrk Go.Proofs.Ytnlinlodgpbnlaa.plf Go.Proofs.Ytnlinlodgpbnlaa.ltq
set_option linter.unusedVariables false

theorem iright_any (l : Bs) (b : Bool) (h : okT l = b) (hl : l.length ≤ 4000000) (w : World) :
    Calls Try.prog 34 #[str l] w fun e w' => e = .returned (.bool b) ∧ Below w.heap.size w w' := by
  have := grd.implTermRight_calls ⟨l.toArray⟩ (by unfold maxLen; show l.toArray.size ≤ _; simp; omega) w
  rw [show (term (⟨l.toArray⟩ : ByteArray).data.toList).isSome = b from h] at this
  exact this

def kindV (kw : Bs) (kn : Nat) (ks : Bool) (f1 f2 f3 : Value) : Array Value := #[str kw, .int .i64 kn, .bool ks, f1, f2, f3]

theorem keepsO {W W' : World} (h : Below W.heap.size W W') : KeepsOthers W W' :=
  ⟨h.size, fun k o hk ho => (h.block k (Array.getElem?_eq_some_iff.1 hk).1).trans hk⟩

section
attribute [local go_sem] Oper.semAt_some

set_option maxRecDepth 100000 in
set_option maxHeartbeats 2000000 in
theorem partsRight_some (k f t c : Int) (g off cap : Nat) (ma mb : Bs) (M : Bs → Prop) (hM : ∀ x, M x → x.length ≤ 4000000) (zs : List (Sx M)) (hreach : zs.length ≤ 2000000) (kw : Bs) (ks : Bool) (f1 f2 f3 : Value) (w : World) (hg : g < w.heap.size)
    (hc : ∀ j x, zs[j]? = some x → w.cell? ⟨g, off + j, none⟩ = some (str x.1)) :
    Calls Try.prog 23 #[.agg (wireV k f t c (.slice (some ⟨g, off, none⟩) zs.length cap) ma mb), .agg (kindV kw zs.length ks f1 f2 f3)] w fun e w' =>
      e = .returned (.bool (zs.all fun x => okT x.1)) ∧ Below w.heap.size w w' := by
  obtain ⟨m, hm⟩ : ∃ m, m = zs.length := ⟨_, rfl⟩
  rw [← hm] at hreach ⊢
  have HM := Lib.hid hm
  have HC := Lib.hid hc
  clear hm hc
  refine (callsIn_wide (n := 4)).1 ?_
  refine callsIn_of_wp_marks Try.func23 rfl trivial ?_ rfl
  unfold wireV kindV
  simp only [Try.ntmps23, List.size_toArray, List.length_cons, List.length_nil, Nat.reduceAdd, Nat.reduceSub, Array.replicate_succ, Array.replicate_zero, List.push_toArray, List.append_toArray, List.nil_append, List.cons_append]
  gi_wp2_with (refine ⟨trivial, ?_⟩; gi_at_call 27; refine (callsIn_wide.2 (plf_calls _ k f t c (.slice (some ⟨g, off, none⟩) m cap) ma mb _ rfl)).mono ?_; rintro e w' ⟨rfl, rfl⟩)
  obtain ⟨W0, hW0⟩ : ∃ W0, ((((w.alloc (.cells #[.int .i64 k, .int .i64 f, .int .i64 t, .int .i64 c, .slice (some ⟨g, off, none⟩) m cap, str ma, str mb] 43)).alloc (.cells #[str kw, .int .i64 m, .bool ks, f1, f2, f3] 40)).alloc (.cells #[.bool false] 4)).alloc (.cells (wireV k f t c (.slice (some ⟨g, off, none⟩) m cap) ma mb) 43)) = W0 := ⟨_, rfl⟩
  have hs0 : W0.heap.size = w.heap.size + 1 + 1 + 1 + 1 := by rw [← hW0]; simp
  have hB0 : Below w.heap.size w W0 := by
    rw [← hW0]
    exact ((((Below.refl _ w).alloc (Nat.le_refl _) _).alloc (by simp) _).alloc (by simp; omega) _).alloc (by simp; omega) _
  have bR : Boxed W0 (w.heap.size + 1 + 1) 4 (.bool false) := by
    rw [← hW0]
    refine Boxed.alloc ?_ _
    have := Boxed.new ((w.alloc (.cells #[.int .i64 k, .int .i64 f, .int .i64 t, .int .i64 c, .slice (some ⟨g, off, none⟩) m cap, str ma, str mb] 43)).alloc (.cells #[str kw, .int .i64 m, .bool ks, f1, f2, f3] 40)) 4 (.bool false)
    simpa using this
  have bX : W0.heap[w.heap.size + 1 + 1 + 1]? = some (.cells (wireV k f t c (.slice (some ⟨g, off, none⟩) zs.length cap) ma mb) 43 (0, 0)) := by
    rw [← HM.out, ← hW0]
    have := heap_alloc_new (((w.alloc (.cells #[.int .i64 k, .int .i64 f, .int .i64 t, .int .i64 c, .slice (some ⟨g, off, none⟩) m cap, str ma, str mb] 43)).alloc (.cells #[str kw, .int .i64 m, .bool ks, f1, f2, f3] 40)).alloc (.cells #[.bool false] 4)) (.cells (wireV k f t c (.slice (some ⟨g, off, none⟩) m cap) ma mb) 43)
    simpa using this
  have hc0 : ∀ j x, zs[j]? = some x → W0.cell? ⟨g, off + j, none⟩ = some (str x.1) := fun j x hx => by rw [← HC.out j x hx]; exact hB0.cell (p := ⟨g, off + j, none⟩) hg
  rw [hW0]
  clear hW0
  have ST := plf_stops Fence.wide 3 trivial rfl (by omega) (w.heap.size + 1 + 1 + 1) w.heap.size g off cap k f t c ma mb M zs (by have := HM.out; omega) W0 hB0.size hg bX hc0
  have HB0 := Lib.hid hB0
  clear bX hc0 hB0
  refine wpIn_rangeFunc_ownG (F := Fence.wide) rfl (by omega) (gf := 36) (lb := #[.pointer (some ⟨w.heap.size + 1 + 1 + 1, 0, none⟩)]) rfl trivial (enters_of Try.func36 (by kernel_rfl) rfl)
    ST (fun h k => Keep.t h k) (Keep.b HB0.out.size (by omega)) (Below.refl _ _) (fun _ => rfl)
    (fun pre W => (pre.all (fun x => okT x.1) = true ∧ Boxed W (w.heap.size + 1 + 1) 4 (.bool false)) ∧ Below w.heap.size w W)
    (fun cc pre W => (cc = .ret ∧ pre.all (fun x => okT x.1) = false ∧ Boxed W (w.heap.size + 1 + 1) 4 (.bool false)) ∧ Below w.heap.size w W)
    (OwnFrom.and (Own.from (fun s A B row hs hgr hr => ⟨hs.1, hs.2.kept hgr (fun e => by obtain ⟨o, ho, hh⟩ := hr _ e.symm; rw [show A.heap[w.heap.size + 1 + 1]? = _ from hs.2] at ho; cases ho; cases hh)⟩) _) (ownFrom_below (Nat.le_refl _) (by omega)))
    (fun cc => OwnFrom.and (Own.from (fun s A B row hs hgr hr => ⟨hs.1, hs.2.1, hs.2.2.kept hgr (fun e => by obtain ⟨o, ho, hh⟩ := hr _ e.symm; rw [show A.heap[w.heap.size + 1 + 1]? = _ from hs.2.2] at ho; cases ho; cases hh)⟩) _) (ownFrom_below (Nat.le_refl _) (by omega)))
    ⟨⟨rfl, bR⟩, HB0.out⟩ ?a1 ?assign ?body ?done ?stop
  case a1 => exact fun x => { tmps := #[.agg #[.int .i64 k, .int .i64 f, .int .i64 t, .int .i64 c, .slice (some ⟨g, off, none⟩) m cap, str ma, str mb], .agg #[str kw, .int .i64 m, .bool ks, f1, f2, f3], .pointer (some ⟨w.heap.size, 0, none⟩), .pointer (some ⟨w.heap.size + 1, 0, none⟩), .pointer (some ⟨w.heap.size + 1 + 1, 0, none⟩), str x.1, .pointer (some ⟨w.heap.size, 4, none⟩), .slice (some ⟨g, off, none⟩) m cap, .int .i64 m, .pointer (some ⟨w.heap.size + 1, 1, none⟩), .int .i64 m, .bool false, .agg #[.int .i64 k, .int .i64 f, .int .i64 t, .int .i64 c, .slice (some ⟨g, off, none⟩) m cap, str ma, str mb], .func (.func 36) #[] #[.pointer (some ⟨w.heap.size + 1 + 1 + 1, 0, none⟩)], str x.1, undef, undef, undef], defers := [] }
  case assign =>
    intro l x W K hK
    gi_wp2
    exact hK
  case body =>
    rintro l pre x W ⟨⟨hp, hR⟩, hB⟩ hlt
    have HP := Lib.hid hp
    have HR := Lib.hid hR
    have HB := Lib.hid hB
    clear hp hB hlt ST
    cases hx : okT x.1 with
    | true =>
      have c1 := fun w => iright_any x.1 true hx (hM _ x.2) w
      have HX := Lib.hid hx
      clear hx hR
      gi_wp2_with fail
      refine ⟨trivial, ?_⟩
      gi_at_call 34
      refine (CallsIn.inRound l (callsIn_wide.2 (c1 _))).mono ?_
      rintro e W1 ⟨rfl, hb1⟩
      have HB1 := Lib.hid hb1
      clear hb1
      gi_wp2
      refine ⟨(keepsO HB1.out).from _, ⟨HB1.out.mono HB.out.size, fun hb => HB1.out.block _ hb⟩, ⟨?_, ?_⟩, HB.out.trans (HB1.out.mono HB.out.size)⟩
      · rw [List.all_append, HP.out]; simp [HX.out]
      · exact (HB1.out.block _ HR.out.lt).trans HR.out
    | false =>
      have c1 := fun w => iright_any x.1 false hx (hM _ x.2) w
      have HX := Lib.hid hx
      clear hx hR
      gi_wp2_with (refine ⟨trivial, ?_⟩; gi_at_call 34; refine (CallsIn.inRound l (callsIn_wide.2 (c1 _))).mono ?_; rintro e W1 ⟨rfl, hb1⟩; have b1 : Boxed W1 (w.heap.size + 1 + 1) 4 (.bool false) := (hb1.block _ HR.out.lt).trans HR.out; have q0 := b1.cell; have q1 := b1.frozen; have q2 := b1.lt; have HB1 := Lib.hid hb1; have HQ := Lib.hid b1; clear hb1 b1)
      refine ⟨((keepsO HB1.out).trans (KeepsOthers.setCell _ _ _)).from _, ⟨rfl, ?_, HQ.out.set _⟩, (HB.out.trans (HB1.out.mono HB.out.size)).setCell (by simp; omega) _⟩
      rw [List.all_append]; simp [HX.out]
  case done =>
    rintro D ys W hD rfl ⟨⟨hp, hR⟩, hB⟩ hK
    have q0 := hR.cell
    have q1 := hR.frozen
    have q2 := hR.lt
    have HP := Lib.hid hp
    have HB := Lib.hid hB
    have HK := Lib.hid hK
    clear hp hB hK ST
    gi_wp2
    have hK' := (KeepsOthers.setCell W ⟨w.heap.size + 1 + 1, 0, none⟩ (.bool true)).same D _ HK.out rfl
    refine ⟨by simp, .inl ⟨_, _, rfl, run_takeDeferred hK', ?_⟩⟩
    have hc5 := cell_kept (World.cell?_setCell_same' W ⟨w.heap.size + 1 + 1, 0, none⟩ (.bool true) (by rw [q0]; rfl)) (grownBy_putObj' _ D (.deferred none)) (fun r e => by cases e; exact ⟨_, hK', rfl⟩)
    refine ⟨.bool true, by simp [results, Try.f23, go_sem, hc5], ?_, ?_⟩
    · rw [List.all_reverse] at HP; rw [HP.out]
    · exact (HB.out.setCell (p := ⟨w.heap.size + 1 + 1, 0, none⟩) (by simp; omega) _).trans (belowK_b (w := W0) HB0.out.size _ D _ _ hD hK' rfl rfl)
  case stop =>
    rintro D cc pre W hD hpre ⟨⟨rfl, hp, hR⟩, hB⟩ hK
    have q0 := hR.cell
    gi_wp2
    refine ⟨by simp, .inl ⟨_, _, rfl, run_takeDeferred hK, ?_⟩⟩
    have hc5 := cell_kept q0 (grownBy_putObj' _ D (.deferred none)) (fun r e => by cases e; exact ⟨_, hK, rfl⟩)
    refine ⟨.bool false, by simp [results, Try.f23, go_sem, hc5], ?_, ?_⟩
    · have : (zs.all fun x => okT x.1) = false := by
        rw [← List.all_reverse, List.all_eq_false] 
        rw [List.all_eq_false] at hp
        obtain ⟨x, h1, h2⟩ := hp
        exact ⟨x, hpre.subset h1, h2⟩
      rw [this]
    · exact hB.trans (belowK_b (w := W0) HB0.out.size _ D _ _ hD hK rfl rfl)
end
end Go.Proofs.Ytnlinlodgpbnlaa.prr
