/- Several small texts, one behind the other. -/
import Derived.Test.YtdikjmhnjlalbaaGreatQh
import Derived.RangeFuncCalls
import Derived.Test.YtdikjmhnjlalbaaGreatQd
import Derived.Laws.EntriesVeiled
import Derived.RangeFuncBox
import Derived.RangeFuncLeaves
import Derived.RangeFuncWrites
import Derived.Shelf.Abstract
import Derived.WalkKit
import Derived.OwnWalkIn
import Derived.TacticsInMore
import Derived.LoopNIn
import Derived.LoopIn
import Derived.Maps.AppendAt
import Derived.Sort.OwnSorted
import Derived.Test.YtdikjmhnjlalbaaGreatQg
import Derived.Test.YtdikjmhnjlalbaaGreatQb

/- TermRight of the program. -/
namespace Go.Proofs.YtdikjmhnjlalbaaGreat.grd
open Go.RowKit Go.Proofs.YtdikjmhnjlalbaaGreat.tm Go.Proofs.YtdikjmhnjlalbaaGreat.lib Go.Proofs.YtdikjmhnjlalbaaGreat.rdr Go.Proofs.YtdikjmhnjlalbaaGreat.bld Go.Proofs.YtdikjmhnjlalbaaGreat.app Go.Proofs.YtdikjmhnjlalbaaGreat.prs
set_option linter.unusedVariables false

set_option maxRecDepth 100000 in
theorem implTermRight_calls (s : ByteArray) (hs : s.size ≤ maxLen) (w : World) :
    Calls Tryz.prog 48 #[.string s] w fun e w' => e = .returned (.bool (term s.data.toList).isSome) ∧ Below w.heap.size w w' := by
  rcases h : term s.data.toList with _ | T
  · have HN := Lib.hid h
    clear h
    go_enter Tryz.func48, Tryz.ntmps48
    go_wp2_with fail
    refine (termOf_no s hs HN.out _).mono ?_
    rintro e w1 ⟨rfl, hb⟩
    go_wp2_with fail
    go_ret
    exact ⟨rfl, hb⟩
  · have HN := Lib.hid h
    clear h
    go_enter Tryz.func48, Tryz.ntmps48
    go_wp2_with fail
    refine (termOf_yes s hs T HN.out _).mono ?_
    rintro e w1 ⟨rfl, hb⟩
    obtain ⟨tt, vv, ev⟩ := val_iface T
    rw [ev]
    clear ev
    go_wp2_with fail
    go_ret
    exact ⟨rfl, hb⟩
end Go.Proofs.YtdikjmhnjlalbaaGreat.grd

/- partsRight of the program. -/
namespace Go.Proofs.YtdikjmhnjlalbaaGreat.prr
open Go.RowKit Go.Shelf Go.Proofs.YtdikjmhnjlalbaaGreat.tm Go.Proofs.YtdikjmhnjlalbaaGreat.bld Go.Proofs.YtdikjmhnjlalbaaGreat.app Go.Proofs.YtdikjmhnjlalbaaGreat.mrk Go.Proofs.YtdikjmhnjlalbaaGreat.plf Go.Proofs.YtdikjmhnjlalbaaGreat.ltq
set_option linter.unusedVariables false

theorem iright_any (l : Bs) (b : Bool) (h : okT l = b) (hl : l.length ≤ 4000000) (w : World) :
    Calls Tryz.prog 48 #[str l] w fun e w' => e = .returned (.bool b) ∧ Below w.heap.size w w' := by
  have := grd.implTermRight_calls ⟨l.toArray⟩ (by unfold maxLen; show l.toArray.size ≤ _; simp; omega) w
  rw [show (term (⟨l.toArray⟩ : ByteArray).data.toList).isSome = b from h] at this
  exact this

def kindV (kw : Bs) (kn : Nat) (ks : Bool) (f1 f2 f3 : Value) : Array Value := #[str kw, .int .i64 kn, .bool ks, f1, f2, f3]

theorem keepsO {W W' : World} (h : Below W.heap.size W W') : KeepsOthers W W' :=
  ⟨h.size, fun k o hk ho => (h.block k (Array.getElem?_eq_some_iff.1 hk).1).trans hk⟩

section
attribute [local go_sem] Oper.semAt_some

set_option maxRecDepth 100000 in
set_option maxHeartbeats 2000000 in
theorem partsRight_some (k f t c : Int) (g off cap : Nat) (ma mb : Bs) (M : Bs → Prop) (hM : ∀ x, M x → x.length ≤ 4000000) (zs : List (Sx M)) (hreach : zs.length ≤ 2000000) (kw : Bs) (ks : Bool) (f1 f2 f3 : Value) (w : World) (hg : g < w.heap.size)
    (hc : ∀ j x, zs[j]? = some x → w.cell? ⟨g, off + j, none⟩ = some (str x.1)) :
    Calls Tryz.prog 39 #[.agg (wireV k f t c (.slice (some ⟨g, off, none⟩) zs.length cap) ma mb), .agg (kindV kw zs.length ks f1 f2 f3)] w fun e w' =>
      e = .returned (.bool (zs.all fun x => okT x.1)) ∧ Below w.heap.size w w' := by
  obtain ⟨m, hm⟩ : ∃ m, m = zs.length := ⟨_, rfl⟩
  rw [← hm] at hreach ⊢
  have HM := Lib.hid hm
  have HC := Lib.hid hc
  clear hm hc
  refine (callsIn_wide (n := 4)).1 ?_
  refine callsIn_of_wp_marks Tryz.func39 rfl trivial ?_ rfl
  unfold wireV kindV
  simp only [Tryz.ntmps39, List.size_toArray, List.length_cons, List.length_nil, Nat.reduceAdd, Nat.reduceSub, Array.replicate_succ, Array.replicate_zero, List.push_toArray, List.append_toArray, List.nil_append, List.cons_append]
  gi_wp2_with (refine ⟨trivial, ?_⟩; gi_at_call 47; refine (callsIn_wide.2 (plf_calls _ k f t c (.slice (some ⟨g, off, none⟩) m cap) ma mb _ rfl)).mono ?_; rintro e w' ⟨rfl, rfl⟩)
  obtain ⟨W0, hW0⟩ : ∃ W0, ((((w.alloc (.cells #[.int .i64 k, .int .i64 f, .int .i64 t, .int .i64 c, .slice (some ⟨g, off, none⟩) m cap, str ma, str mb] 59)).alloc (.cells #[str kw, .int .i64 m, .bool ks, f1, f2, f3] 56)).alloc (.cells #[.bool false] 4)).alloc (.cells (wireV k f t c (.slice (some ⟨g, off, none⟩) m cap) ma mb) 59)) = W0 := ⟨_, rfl⟩
  have hs0 : W0.heap.size = w.heap.size + 1 + 1 + 1 + 1 := by rw [← hW0]; simp
  have hB0 : Below w.heap.size w W0 := by
    rw [← hW0]
    exact ((((Below.refl _ w).alloc (Nat.le_refl _) _).alloc (by simp) _).alloc (by simp; omega) _).alloc (by simp; omega) _
  have bR : Boxed W0 (w.heap.size + 1 + 1) 4 (.bool false) := by
    rw [← hW0]
    refine Boxed.alloc ?_ _
    have := Boxed.new ((w.alloc (.cells #[.int .i64 k, .int .i64 f, .int .i64 t, .int .i64 c, .slice (some ⟨g, off, none⟩) m cap, str ma, str mb] 59)).alloc (.cells #[str kw, .int .i64 m, .bool ks, f1, f2, f3] 56)) 4 (.bool false)
    simpa using this
  have bX : W0.heap[w.heap.size + 1 + 1 + 1]? = some (.cells (wireV k f t c (.slice (some ⟨g, off, none⟩) zs.length cap) ma mb) 59 (0, 0)) := by
    rw [← HM.out, ← hW0]
    have := heap_alloc_new (((w.alloc (.cells #[.int .i64 k, .int .i64 f, .int .i64 t, .int .i64 c, .slice (some ⟨g, off, none⟩) m cap, str ma, str mb] 59)).alloc (.cells #[str kw, .int .i64 m, .bool ks, f1, f2, f3] 56)).alloc (.cells #[.bool false] 4)) (.cells (wireV k f t c (.slice (some ⟨g, off, none⟩) m cap) ma mb) 59)
    simpa using this
  have hc0 : ∀ j x, zs[j]? = some x → W0.cell? ⟨g, off + j, none⟩ = some (str x.1) := fun j x hx => by rw [← HC.out j x hx]; exact hB0.cell (p := ⟨g, off + j, none⟩) hg
  rw [hW0]
  clear hW0
  have ST := plf_stops Fence.wide 3 trivial rfl (by omega) (w.heap.size + 1 + 1 + 1) w.heap.size g off cap k f t c ma mb M zs (by have := HM.out; omega) W0 hB0.size hg bX hc0
  have HB0 := Lib.hid hB0
  clear bX hc0 hB0
  refine wpIn_rangeFunc_ownG (F := Fence.wide) rfl (by omega) (gf := 67) (lb := #[.pointer (some ⟨w.heap.size + 1 + 1 + 1, 0, none⟩)]) rfl trivial (enters_of Tryz.func67 (by kernel_rfl) rfl)
    ST (fun h k => Keep.t h k) (Keep.b HB0.out.size (by omega)) (Below.refl _ _) (fun _ => rfl)
    (fun pre W => (pre.all (fun x => okT x.1) = true ∧ Boxed W (w.heap.size + 1 + 1) 4 (.bool false)) ∧ Below w.heap.size w W)
    (fun cc pre W => (cc = .ret ∧ pre.all (fun x => okT x.1) = false ∧ Boxed W (w.heap.size + 1 + 1) 4 (.bool false)) ∧ Below w.heap.size w W)
    (OwnFrom.and (Own.from (fun s A B row hs hgr hr => ⟨hs.1, hs.2.kept hgr (fun e => by obtain ⟨o, ho, hh⟩ := hr _ e.symm; rw [show A.heap[w.heap.size + 1 + 1]? = _ from hs.2] at ho; cases ho; cases hh)⟩) _) (ownFrom_below (Nat.le_refl _) (by omega)))
    (fun cc => OwnFrom.and (Own.from (fun s A B row hs hgr hr => ⟨hs.1, hs.2.1, hs.2.2.kept hgr (fun e => by obtain ⟨o, ho, hh⟩ := hr _ e.symm; rw [show A.heap[w.heap.size + 1 + 1]? = _ from hs.2.2] at ho; cases ho; cases hh)⟩) _) (ownFrom_below (Nat.le_refl _) (by omega)))
    ⟨⟨rfl, bR⟩, HB0.out⟩ ?a1 ?assign ?body ?done ?stop
  case a1 => exact fun x => { tmps := #[.agg #[.int .i64 k, .int .i64 f, .int .i64 t, .int .i64 c, .slice (some ⟨g, off, none⟩) m cap, str ma, str mb], .agg #[str kw, .int .i64 m, .bool ks, f1, f2, f3], .pointer (some ⟨w.heap.size, 0, none⟩), .pointer (some ⟨w.heap.size + 1, 0, none⟩), .pointer (some ⟨w.heap.size + 1 + 1, 0, none⟩), str x.1, .pointer (some ⟨w.heap.size, 4, none⟩), .slice (some ⟨g, off, none⟩) m cap, .int .i64 m, .pointer (some ⟨w.heap.size + 1, 1, none⟩), .int .i64 m, .bool false, .agg #[.int .i64 k, .int .i64 f, .int .i64 t, .int .i64 c, .slice (some ⟨g, off, none⟩) m cap, str ma, str mb], .func (.func 67) #[] #[.pointer (some ⟨w.heap.size + 1 + 1 + 1, 0, none⟩)], str x.1, undef, undef, undef], defers := [] }
  case assign =>
    intro l x W K hK
    gi_wp2
    exact hK
  case body =>
    rintro l pre x W ⟨⟨hp, hR⟩, hB⟩ hlt
    have HP := Lib.hid hp
    have HR := Lib.hid hR
    have HB := Lib.hid hB
    clear hp hB hlt ST
    cases hx : okT x.1 with
    | true =>
      have c1 := fun w => iright_any x.1 true hx (hM _ x.2) w
      have HX := Lib.hid hx
      clear hx hR
      gi_wp2_with fail
      refine ⟨trivial, ?_⟩
      gi_at_call 48
      refine (CallsIn.inRound l (callsIn_wide.2 (c1 _))).mono ?_
      rintro e W1 ⟨rfl, hb1⟩
      have HB1 := Lib.hid hb1
      clear hb1
      gi_wp2
      refine ⟨(keepsO HB1.out).from _, ⟨HB1.out.mono HB.out.size, fun hb => HB1.out.block _ hb⟩, ⟨?_, ?_⟩, HB.out.trans (HB1.out.mono HB.out.size)⟩
      · rw [List.all_append, HP.out]; simp [HX.out]
      · exact (HB1.out.block _ HR.out.lt).trans HR.out
    | false =>
      have c1 := fun w => iright_any x.1 false hx (hM _ x.2) w
      have HX := Lib.hid hx
      clear hx hR
      gi_wp2_with (refine ⟨trivial, ?_⟩; gi_at_call 48; refine (CallsIn.inRound l (callsIn_wide.2 (c1 _))).mono ?_; rintro e W1 ⟨rfl, hb1⟩; have b1 : Boxed W1 (w.heap.size + 1 + 1) 4 (.bool false) := (hb1.block _ HR.out.lt).trans HR.out; have q0 := b1.cell; have q1 := b1.frozen; have q2 := b1.lt; have HB1 := Lib.hid hb1; have HQ := Lib.hid b1; clear hb1 b1)
      refine ⟨((keepsO HB1.out).trans (KeepsOthers.setCell _ _ _)).from _, ⟨rfl, ?_, HQ.out.set _⟩, (HB.out.trans (HB1.out.mono HB.out.size)).setCell (by simp; omega) _⟩
      rw [List.all_append]; simp [HX.out]
  case done =>
    rintro D ys W hD rfl ⟨⟨hp, hR⟩, hB⟩ hK
    have q0 := hR.cell
    have q1 := hR.frozen
    have q2 := hR.lt
    have HP := Lib.hid hp
    have HB := Lib.hid hB
    have HK := Lib.hid hK
    clear hp hB hK ST
    gi_wp2
    have hK' := (KeepsOthers.setCell W ⟨w.heap.size + 1 + 1, 0, none⟩ (.bool true)).same D _ HK.out rfl
    refine ⟨by simp, .inl ⟨_, _, rfl, run_takeDeferred hK', ?_⟩⟩
    have hc5 := cell_kept (World.cell?_setCell_same' W ⟨w.heap.size + 1 + 1, 0, none⟩ (.bool true) (by rw [q0]; rfl)) (grownBy_putObj' _ D (.deferred none)) (fun r e => by cases e; exact ⟨_, hK', rfl⟩)
    refine ⟨.bool true, by simp [results, Tryz.f39, go_sem, hc5], ?_, ?_⟩
    · rw [List.all_reverse] at HP; rw [HP.out]
    · exact (HB.out.setCell (p := ⟨w.heap.size + 1 + 1, 0, none⟩) (by simp; omega) _).trans (belowK_b (w := W0) HB0.out.size _ D _ _ hD hK' rfl rfl)
  case stop =>
    rintro D cc pre W hD hpre ⟨⟨rfl, hp, hR⟩, hB⟩ hK
    have q0 := hR.cell
    gi_wp2
    refine ⟨by simp, .inl ⟨_, _, rfl, run_takeDeferred hK, ?_⟩⟩
    have hc5 := cell_kept q0 (grownBy_putObj' _ D (.deferred none)) (fun r e => by cases e; exact ⟨_, hK, rfl⟩)
    refine ⟨.bool false, by simp [results, Tryz.f39, go_sem, hc5], ?_, ?_⟩
    · have : (zs.all fun x => okT x.1) = false := by
        rw [← List.all_reverse, List.all_eq_false] 
        rw [List.all_eq_false] at hp
        obtain ⟨x, h1, h2⟩ := hp
        exact ⟨x, hpre.subset h1, h2⟩
      rw [this]
    · exact hB.trans (belowK_b (w := W0) HB0.out.size _ D _ _ hD hK rfl rfl)
end
end Go.Proofs.YtdikjmhnjlalbaaGreat.prr

/- kinds and kindOf of the program. -/
namespace Go.Proofs.YtdikjmhnjlalbaaGreat.kin
open Go.RowKit Go.Proofs.YtdikjmhnjlalbaaGreat.tm Go.Proofs.YtdikjmhnjlalbaaGreat.lib Go.Proofs.YtdikjmhnjlalbaaGreat.rdr Go.Proofs.YtdikjmhnjlalbaaGreat.bld Go.Proofs.YtdikjmhnjlalbaaGreat.app Go.Proofs.YtdikjmhnjlalbaaGreat.mrk Go.Proofs.YtdikjmhnjlalbaaGreat.plf Go.Proofs.YtdikjmhnjlalbaaGreat.ltq Go.Proofs.YtdikjmhnjlalbaaGreat.prr
set_option linter.unusedVariables false

def fv (n : Nat) : Value := .func (.func n) #[] #[]
def kV (k : Int) : Array Value :=
  if k = 1 then kindV [105, 110, 105, 116] 3 true (fv 61) (fv 62) (fv 63)
  else if k = 2 then kindV [114, 101, 115, 112] 2 true (fv 61) (fv 64) (fv 63)
  else if k = 3 then kindV [99, 111, 111, 107, 105, 101] 1 false (fv 65) (fv 64) (fv 63)
  else if k = 4 then kindV [100, 97, 116, 97] 1 false (fv 65) (fv 64) (fv 66)
  else kindV [] 0 false .nilFunc .nilFunc .nilFunc

def isK (k : Int) : Bool := decide (1 ≤ k) && decide (k ≤ 4)

def rows : Array Value := kV 0 ++ kV 1 ++ kV 2 ++ kV 3 ++ kV 4

set_option maxRecDepth 100000 in
theorem kinds_calls (w : World) : Calls Tryz.prog 46 #[] w fun e w' => e = .returned (.slice (some ⟨w.heap.size, 0, none⟩) 5 5) ∧ w' = w.alloc (.cells rows 56) := by
  go_enter Tryz.func46, Tryz.ntmps46
  go_wp2_with fail
  go_ret
  exact ⟨rfl, rfl⟩

set_option maxHeartbeats 1000000 in
set_option maxRecDepth 100000 in
theorem kindOf_no (n : Int) (h : isK n = false) (w : World) :
    Calls Tryz.prog 37 #[.int .i64 n] w fun e w' => e = .returned (.tuple #[.agg (kV 0), .bool false]) ∧ Below w.heap.size w w' := by
  by_cases h1 : n < 1
  · clear h
    go_enter Tryz.func37, Tryz.ntmps37
    go_wp2_with fail
    refine (kinds_calls _).mono ?_
    rintro e w1 ⟨rfl, rfl⟩
    go_wp2_with fail
    refine bodyPost_ret (v := .tuple #[.agg (kV 0), .bool false]) (by simp [results, Tryz.results37, go_sem, kV, kindV]) rfl ⟨rfl, ?_⟩
    exact ((Below.refl _ _).alloc (Nat.le_refl _) _).alloc (by simp) _
  · have h2 : 5 ≤ n := by unfold isK at h; simp at h; omega
    have d1 : decide (5 ≤ n) = true := by simpa using h2
    clear h
    go_enter Tryz.func37, Tryz.ntmps37
    go_wp2_with fail
    refine (kinds_calls _).mono ?_
    rintro e w1 ⟨rfl, rfl⟩
    go_wp2_with fail
    refine bodyPost_ret (v := .tuple #[.agg (kV 0), .bool false]) (by simp [results, Tryz.results37, go_sem, kV, kindV]) rfl ⟨rfl, ?_⟩
    exact ((Below.refl _ _).alloc (Nat.le_refl _) _).alloc (by simp) _

theorem rows_eq : rows = #[str [], .int .i64 0, .bool false, Value.nilFunc, Value.nilFunc, Value.nilFunc, str [105, 110, 105, 116], .int .i64 3, .bool true, .func (.func 61) #[] #[], .func (.func 62) #[] #[], .func (.func 63) #[] #[], str [114, 101, 115, 112], .int .i64 2, .bool true, .func (.func 61) #[] #[], .func (.func 64) #[] #[], .func (.func 63) #[] #[], str [99, 111, 111, 107, 105, 101], .int .i64 1, .bool false, .func (.func 65) #[] #[], .func (.func 64) #[] #[], .func (.func 63) #[] #[], str [100, 97, 116, 97], .int .i64 1, .bool false, .func (.func 65) #[] #[], .func (.func 64) #[] #[], .func (.func 66) #[] #[]] := rfl

set_option maxHeartbeats 1000000 in
set_option maxRecDepth 100000 in
theorem kindOf_yes (n : Int) (h : isK n = true) (w : World) :
    Calls Tryz.prog 37 #[.int .i64 n] w fun e w' => e = .returned (.tuple #[.agg (kV n), .bool true]) ∧ Below w.heap.size w w' := by
  have hn : n = 1 ∨ n = 2 ∨ n = 3 ∨ n = 4 := by unfold isK at h; simp at h; omega
  clear h
  rcases hn with rfl | rfl | rfl | rfl
  · have kc := fun w => kinds_calls w
    rw [rows_eq] at kc
    have KC := Lib.hid kc
    clear kc
    go_enter Tryz.func37, Tryz.ntmps37
    go_wp2_with fail
    refine (KC.out _).mono ?_
    rintro e w1 ⟨rfl, rfl⟩
    go_wp2_with fail
    refine bodyPost_ret (v := .tuple #[.agg (kV 1), .bool true]) (by simp [results, Tryz.results37, go_sem, kV, kindV, fv]) rfl ⟨rfl, ?_⟩
    exact ((Below.refl _ _).alloc (Nat.le_refl _) _).alloc (by simp) _
  · have kc := fun w => kinds_calls w
    rw [rows_eq] at kc
    have KC := Lib.hid kc
    clear kc
    go_enter Tryz.func37, Tryz.ntmps37
    go_wp2_with fail
    refine (KC.out _).mono ?_
    rintro e w1 ⟨rfl, rfl⟩
    go_wp2_with fail
    refine bodyPost_ret (v := .tuple #[.agg (kV 2), .bool true]) (by simp [results, Tryz.results37, go_sem, kV, kindV, fv]) rfl ⟨rfl, ?_⟩
    exact ((Below.refl _ _).alloc (Nat.le_refl _) _).alloc (by simp) _
  · have kc := fun w => kinds_calls w
    rw [rows_eq] at kc
    have KC := Lib.hid kc
    clear kc
    go_enter Tryz.func37, Tryz.ntmps37
    go_wp2_with fail
    refine (KC.out _).mono ?_
    rintro e w1 ⟨rfl, rfl⟩
    go_wp2_with fail
    refine bodyPost_ret (v := .tuple #[.agg (kV 3), .bool true]) (by simp [results, Tryz.results37, go_sem, kV, kindV, fv]) rfl ⟨rfl, ?_⟩
    exact ((Below.refl _ _).alloc (Nat.le_refl _) _).alloc (by simp) _
  · have kc := fun w => kinds_calls w
    rw [rows_eq] at kc
    have KC := Lib.hid kc
    clear kc
    go_enter Tryz.func37, Tryz.ntmps37
    go_wp2_with fail
    refine (KC.out _).mono ?_
    rintro e w1 ⟨rfl, rfl⟩
    go_wp2_with fail
    refine bodyPost_ret (v := .tuple #[.agg (kV 4), .bool true]) (by simp [results, Tryz.results37, go_sem, kV, kindV, fv]) rfl ⟨rfl, ?_⟩
    exact ((Below.refl _ _).alloc (Nat.le_refl _) _).alloc (by simp) _
end Go.Proofs.YtdikjmhnjlalbaaGreat.kin

/- slices.Sorted(slices.Values(args)) at []string: the walk through the library's iterators. -/
namespace Go.Proofs.YtdikjmhnjlalbaaGreat.its
open Go.RowKit Go.Shelf Go.Proofs.YtdikjmhnjlalbaaGreat.tm Go.Proofs.YtdikjmhnjlalbaaGreat.bld Go.Proofs.YtdikjmhnjlalbaaGreat.app Go.Proofs.YtdikjmhnjlalbaaGreat.mrk
set_option linter.unusedVariables false

section
attribute [local go_sem] Oper.semAt_some

def upto (f : Nat → Bs) (k : Nat) : List Bs := (List.range k).map f
theorem upto_succ (f : Nat → Bs) (k : Nat) : upto f (k + 1) = upto f k ++ [f k] := by simp [upto, List.range_succ]
theorem upto_length (f : Nat → Bs) (k : Nat) : (upto f k).length = k := by simp [upto]
theorem upto_all (zs : List Bs) : upto (fun j => zs[j]?.getD []) zs.length = zs := by
  apply List.ext_getElem
  · simp [upto]
  · intro i h1 h2
    simp [upto, h2]

set_option maxRecDepth 100000 in
set_option maxHeartbeats 2000000 in
theorem values1_in (F : Fence) (n : Nat) (h7 : F.fn 87) (hro : F.round = none) (hn : 1 ≤ n) (l Bx n₀ b off len cap : Nat) (f : Nat → Bs) (hreach : len * 16 ≤ 140737488351232) (hb : b < n₀) (J Jx : List Bs → World → Prop)
    (hY : ∀ pre x W, J pre W → pre.length < len → YieldAt F (n - 1) Tryz.prog l #[str x] W fun e W' =>
      (e = .returned (.bool true) ∧ J (pre ++ [x]) W' ∧ Below n₀ W W') ∨ (e = .returned (.bool false) ∧ Jx (pre ++ [x]) W'))
    (W : World) (hBs : W.cell? ⟨Bx, 0, none⟩ = some (.slice (some ⟨b, off, none⟩) len cap)) (hc : ∀ j, j < len → W.cell? ⟨b, off + j, none⟩ = some (str (f j))) (h0 : J [] W) :
    CallsIn F n Tryz.prog 87 #[.func (.yield l) #[] #[], .pointer (some ⟨Bx, 0, none⟩)] W fun e W' => (∃ v, e = .returned v) ∧
      ((∃ ys, ys = upto f len ∧ J ys W') ∨ (∃ pre, (∃ k, k ≤ len ∧ pre = upto f k) ∧ Jx pre W')) := by
  refine callsIn_of_wp Tryz.func87 rfl h7 ?_ hro
  simp only [Tryz.ntmps87, List.size_toArray, List.length_cons, List.length_nil, Nat.reduceAdd, Nat.reduceSub, Array.replicate_succ, Array.replicate_zero, List.push_toArray, List.append_toArray, List.nil_append, List.cons_append]
  gi_wp2
  gi_loopw [7] (fun i wr => ∃ k : Nat, k ≤ len ∧ i = .int .i64 k ∧ J (upto f k) wr ∧ Below n₀ W wr)
    (fun i _ => len - (intOf i).toNat)
  case atStart => exact ⟨0, Nat.zero_le _, rfl, h0, Below.refl _ _⟩
  case round =>
    obtain ⟨k, hk, rfl, hJs, hnx⟩ := hrel
    have hcx : k < len → wr.cell? ⟨b, off + k, none⟩ = some (str (f k)) := fun h => (hnx.cell (p := ⟨b, off + k, none⟩) hb).trans (hc k h)
    by_cases hlt : k < len
    · obtain ⟨fn, tmps, assign, body, hy, hR⟩ := hY _ (f k) wr hJs (by rw [upto_length]; exact hlt)
      have hcx' := hcx hlt
      gi_wp2
      refine hR.mono ?_
      rintro e W3 (⟨rfl, hJ3, hk3⟩ | ⟨rfl, hJx3⟩)
      · gi_wp2
        go_roundw
        case rel => exact ⟨k + 1, by omega, by simp, by rw [upto_succ]; exact hJ3, hnx.trans hk3⟩
        case measure => simp [intOf]; omega
      · gi_wp2
        refine bodyPost_ret (results_none rfl _ _ _) rfl ?_
        exact ⟨⟨_, rfl⟩, .inr ⟨_, ⟨k + 1, by omega, (upto_succ _ _).symm⟩, hJx3⟩⟩
    · obtain rfl : k = len := by omega
      gi_wp2
      go_end0
      exact ⟨⟨_, rfl⟩, .inl ⟨_, rfl, hJs⟩⟩

/-- THE SLICE VALUE sv HOLDS zs, in a block below n₀; or there are none. -/
def Src (n₀ : Nat) (W : World) (sv : Value) (zs : List Bs) : Prop :=
  (zs = [] ∧ ∃ a cap, sv = .slice a 0 cap) ∨ ∃ b off cap, sv = .slice (some ⟨b, off, none⟩) zs.length cap ∧ b < n₀ ∧ ∀ j, j < zs.length → W.cell? ⟨b, off + j, none⟩ = some (str (zs[j]?.getD []))
theorem Src.below {n₀ : Nat} {A B : World} (h : Below n₀ A B) {sv : Value} {zs : List Bs} : Src n₀ A sv zs → Src n₀ B sv zs
  | .inl e => .inl e
  | .inr ⟨b, off, cap, e, hb, hc⟩ => .inr ⟨b, off, cap, e, hb, fun j hj => (h.cell (p := ⟨b, off + j, none⟩) hb).trans (hc j hj)⟩
theorem Src.of {w : World} {v : Value} {ls : List Bs} (h : Rds w v ls) : Src w.heap.size w v ls := by
  rcases h with h | ⟨g, off, cap, e, hg, hc⟩
  · exact .inl h
  · exact .inr ⟨g, off, cap, e, hg, fun j hj => hc j _ (by simp [hj])⟩

set_option maxRecDepth 100000 in
set_option maxHeartbeats 1000000 in
theorem values1_nil_in (F : Fence) (n : Nat) (h7 : F.fn 87) (hro : F.round = none) (l Bx : Nat) (a : Option Addr) (cap : Nat) (J : List Bs → World → Prop) (W : World) (hBs : W.cell? ⟨Bx, 0, none⟩ = some (.slice a 0 cap)) (h0 : J [] W) :
    CallsIn F n Tryz.prog 87 #[.func (.yield l) #[] #[], .pointer (some ⟨Bx, 0, none⟩)] W fun e W' => (∃ v, e = .returned v) ∧ J [] W' := by
  refine callsIn_of_wp Tryz.func87 rfl h7 ?_ hro
  simp only [Tryz.ntmps87, List.size_toArray, List.length_cons, List.length_nil, Nat.reduceAdd, Nat.reduceSub, Array.replicate_succ, Array.replicate_zero, List.push_toArray, List.append_toArray, List.nil_append, List.cons_append]
  gi_wp2
  gi_loopw [7] (fun i wr => i = .int .i64 0 ∧ J [] wr) (fun _ _ => 0)
  case atStart => exact ⟨rfl, h0⟩
  case round =>
    obtain ⟨rfl, hJs⟩ := hrel
    gi_wp2
    go_end0
    exact ⟨⟨_, rfl⟩, hJs⟩

theorem values_stops (F : Fence) (n : Nat) (h7 : F.fn 87) (hro : F.round = none) (hn : 1 ≤ n) (Bx n₀ : Nat) (sv : Value) (zs : List Bs) (hreach : zs.length * 16 ≤ 140737488351232) (w : World) (hBs : Bx < w.heap.size) (hn₀ : n₀ ≤ w.heap.size)
    (hc : w.cell? ⟨Bx, 0, none⟩ = some sv) (hI : Src n₀ w sv zs) :
    SeqStopsK F n Tryz.prog 87 #[.pointer (some ⟨Bx, 0, none⟩)] (fun x : Bs => #[str x]) (Below n₀) (fun ys => ys = zs) (fun _ => True) zs.length w := fun l J Jx W hW _ _ hY h0 => by
  have hc' := (hW.cell (p := ⟨Bx, 0, none⟩) hBs).trans hc
  rcases hI.below (hW.mono hn₀) with ⟨rfl, a, cap, rfl⟩ | ⟨b, off, cap, rfl, hb, hcs⟩
  · exact (values1_nil_in F n h7 hro l Bx a cap J W hc' h0).mono fun e W' ⟨he, hj⟩ => ⟨he, .inl ⟨_, rfl, hj⟩⟩
  · refine (values1_in F n h7 hro hn l Bx n₀ b off zs.length cap (fun j => zs[j]?.getD []) hreach hb J Jx hY W hc' hcs h0).mono ?_
    rintro e W' ⟨he, ⟨ys, rfl, hj⟩ | ⟨pre, ⟨k, hk, rfl⟩, hj⟩⟩
    · exact ⟨he, .inl ⟨_, upto_all zs, hj⟩⟩
    · exact ⟨he, .inr ⟨_, trivial, hj⟩⟩

set_option maxRecDepth 100000 in
set_option maxHeartbeats 2000000 in
theorem appendSeq_in (F : Fence) (n : Nat) (h81 : F.fn 100) (h7 : F.fn 87) (hro : F.round = none) (hn : 3 ≤ n) (Bx : Nat) (sv : Value) (zs : List Bs) (hl : zs.length ≤ 1000000) (w : World) (hBs : Bx < w.heap.size)
    (hc : w.cell? ⟨Bx, 0, none⟩ = some sv) (hI : Src w.heap.size w sv zs) :
    CallsIn F n Tryz.prog 100 #[.slice none 0 0, .func (.func 87) #[] #[.pointer (some ⟨Bx, 0, none⟩)]] w fun e W' => ∃ v, e = .returned v ∧ W'.ownsRow w.heap.size 9 1 v zs.length (zs.map str) ∧ (v = .slice none 0 0 ↔ zs = []) ∧ Below w.heap.size w W' := by
  have h1 : 1 ≤ n := by omega
  obtain ⟨i0, hi, hz0, hz1, hz2⟩ := info_parts infoS
  refine callsIn_of_wp_marks Tryz.func100 rfl h81 ?_ hro
  simp only [Tryz.ntmps100, List.size_toArray, List.length_cons, List.length_nil, Nat.reduceAdd, Nat.reduceSub, Array.replicate_succ, Array.replicate_zero, List.push_toArray, List.append_toArray, List.nil_append, List.cons_append]
  gi_wp2
  have bO := Boxed.new w 24 (.slice none 0 0)
  have hB0 : Below w.heap.size w (w.alloc (.cells #[.slice none 0 0] 24)) := (Below.refl _ w).alloc (Nat.le_refl _) _
  refine wpIn_rangeFunc_ownG hro h1 (gf := 87) (lb := #[.pointer (some ⟨Bx, 0, none⟩)]) rfl h7 (enters_of Tryz.func87 (by kernel_rfl) rfl)
    (values_stops F (n - 1) h7 hro (by omega) Bx w.heap.size _ zs (by omega) w hBs (Nat.le_refl _) hc hI) belowK_t (belowK_b (by simp)) hB0 (fun _ => rfl)
    (fun pre W => (∃ v, Boxed W w.heap.size 24 v ∧ W.ownsRow w.heap.size 9 1 v pre.length (pre.map str) ∧ (v = .slice none 0 0 ↔ pre = [])) ∧ Below w.heap.size w W)
    (fun _ _ _ => False)
    (OwnFrom.and (Own.from (holdsRow_own w.heap.size w.heap.size 24 9 1 (fun pre : List Bs => pre.length) (fun pre => pre.map str) (fun pre v => v = .slice none 0 0 ↔ pre = [])) _) (ownFrom_below (Nat.le_refl _) (by simp)))
    (fun _ _ _ _ _ hs _ _ => hs)
    ⟨⟨_, bO, World.ownsRow_nil _ _ _ _, by simp⟩, hB0⟩
    (fun x => { tmps := #[.slice none 0 0, .func (.func 87) #[] #[.pointer (some ⟨Bx, 0, none⟩)], .pointer (some ⟨w.heap.size, 0, none⟩), undef, .slice none 0 0, str x, .func (.func 87) #[] #[.pointer (some ⟨Bx, 0, none⟩)], str x, undef, undef, undef, undef, undef], defers := [] }) ?assign ?body ?done ?stop
  case assign =>
    intro l x W K hK
    gi_wp2
    exact hK
  case body =>
    rintro l pre x W ⟨⟨v, hv, hrow, hnil⟩, hB⟩ hlt
    have hc := hv.cell
    gi_wp2_with (gi_at_builtin; refine wpListIn_append_own _ rfl _ _ 24 rfl w.heap.size 9 i0 (.string ⟨#[]⟩) 1 16 Tryz.underlying24 hi hz0 hz1 hz2 rfl (by decide) _ _ _ rfl (hrow.alloc _) ⟨W.heap.size, 0, none⟩ 1 1 [str x] rfl rfl (cell_one_new _ _ _) (by simp [Value.oneCell']) (by unfold maxLen; omega) (by omega) (by have := hB.size; simp; omega) ?_; intro v' w1 hown' hgrow _; obtain ⟨g', cap', rfl⟩ := ownsRow_succ hown'; obtain ⟨hv1, hv2, hr2, hk2, hb2⟩ := hv.appended (by decide) hrow hB.size (Nat.le_refl _) hown' hgrow; have hc1 := hv1.cell; have hf1 := hv1.frozen)
    exact ⟨hk2.from _, hb2, ⟨_, hv2, by simpa using hr2, by simp⟩, hB.trans hb2⟩
  case done =>
    rintro D ys W hD rfl ⟨⟨v, hv, hrow, hnil⟩, hB⟩ hK
    have hc := hv.cell
    gi_wp2
    refine ⟨by simp, .inl ⟨_, _, rfl, run_takeDeferred hK, ?_⟩⟩
    exact ⟨_, results_tmp rfl _ _ _, v, rfl, ownsRow_putObj hrow _ hK rfl, hnil, hB.trans (belowK_b (w := w) (Nat.le_refl _) W D _ _ (by simp at hD; omega) hK rfl rfl)⟩
  case stop =>
    rintro D c pre W _ _ h _
    exact h.elim
end

theorem appendSeq_calls (Bx : Nat) (sv : Value) (zs : List Bs) (hl : zs.length ≤ 1000000) (w : World) (hBs : Bx < w.heap.size) (hc : w.cell? ⟨Bx, 0, none⟩ = some sv) (hI : Src w.heap.size w sv zs) :
    Calls Tryz.prog 100 #[.slice none 0 0, .func (.func 87) #[] #[.pointer (some ⟨Bx, 0, none⟩)]] w fun e W' => ∃ v, e = .returned v ∧ Strs W' w.heap.size v zs ∧ (v = .slice none 0 0 ↔ zs = []) ∧ Below w.heap.size w W' :=
  (callsIn_wide (n := 3)).1 (appendSeq_in Fence.wide 3 trivial trivial rfl (by omega) Bx sv zs hl w hBs hc hI)

set_option maxRecDepth 100000 in
theorem collect_calls (Bx : Nat) (sv : Value) (zs : List Bs) (hl : zs.length ≤ 1000000) (w : World) (hBs : Bx < w.heap.size) (hc : w.cell? ⟨Bx, 0, none⟩ = some sv) (hI : Src w.heap.size w sv zs) :
    Calls Tryz.prog 85 #[.func (.func 87) #[] #[.pointer (some ⟨Bx, 0, none⟩)]] w fun e W' => ∃ v, e = .returned v ∧ Strs W' w.heap.size v zs ∧ (v = .slice none 0 0 ↔ zs = []) ∧ Below w.heap.size w W' := by
  have c1 := appendSeq_calls Bx sv zs hl w hBs hc hI
  have C1 := Lib.hid c1
  clear c1 hc hI
  go_enter Tryz.func85, Tryz.ntmps85
  go_wp2_with fail
  refine C1.out.mono ?_
  rintro e W ⟨v, rfl, h1, h2, h3⟩
  have H1 := Lib.hid h1
  have H2 := Lib.hid h2
  have H3 := Lib.hid h3
  clear h1 h2 h3
  go_wp2_with fail
  go_ret
  exact ⟨v, rfl, H1.out, H2.out, H3.out⟩

def srt (zs : List Bs) : List Bs := zs.mergeSort fun x y => decide (x ≤ y)
theorem srt_len (zs : List Bs) : (srt zs).length = zs.length := List.length_mergeSort _

set_option maxRecDepth 100000 in
theorem sorted_calls (Bx : Nat) (sv : Value) (zs : List Bs) (hl : zs.length ≤ 1000000) (w : World) (hBs : Bx < w.heap.size) (hc : w.cell? ⟨Bx, 0, none⟩ = some sv) (hI : Src w.heap.size w sv zs) :
    Calls Tryz.prog 72 #[.func (.func 87) #[] #[.pointer (some ⟨Bx, 0, none⟩)]] w fun e W' => ∃ v, e = .returned v ∧ Strs W' w.heap.size v (srt zs) ∧ Below w.heap.size w W' := by
  have c1 := collect_calls Bx sv zs hl w hBs hc hI
  have C1 := Lib.hid c1
  clear c1 hc hI
  go_enter Tryz.func72, Tryz.ntmps72
  go_wp2_with fail
  refine C1.out.mono ?_
  rintro e W ⟨v, rfl, hrow, hnil, hb⟩
  obtain ⟨hlen, hh⟩ := hrow
  rcases hh with ⟨rfl, hz⟩ | ⟨gb, cap, cur, rfl, hbase, hgb, r1, r2, r3, r4⟩
  · have hss : zs = [] := List.eq_nil_of_length_eq_zero hz
    subst hss
    have HB := Lib.hid hb
    clear hb hnil hlen
    go_wp2_with fail
    refine (shs.sort_none none 0 W).mono ?_
    rintro e w' ⟨rfl, rfl⟩
    go_wp2_with fail
    go_ret
    exact ⟨.slice none 0 0, rfl, by simpa [srt] using Strs.nil _ _, HB.out⟩
  · have hH := Go.holds_of_block (ss := zs) hgb (by simpa using r4)
    have hgl : gb < W.heap.size := (Array.getElem?_eq_some_iff.1 hgb).1
    have c2 := shs.sort_some gb 0 cap zs W hH hgl (by omega)
    have C2 := Lib.hid c2
    have HB := Lib.hid hb
    have HG := Lib.hid hgb
    have R1 := Lib.hid r1
    have R2 := Lib.hid r2
    have R3 := Lib.hid r3
    clear c2 hb hgb hH r1 r2 r3 r4 hlen hnil
    go_wp2_with fail
    refine C2.out.mono ?_
    rintro e w' ⟨rfl, nn, os, hw⟩
    have HW := Lib.hid hw
    clear hw
    go_wp2_with fail
    go_ret
    have e := HW.out
    refine ⟨_, rfl, ?_, ?_⟩
    · rw [e]
      unfold Strs
      rw [srt_len]
      exact Go.ownsRow_sorted (srt_len zs) hbase HG.out R1.out R2.out R3.out
    · rw [e]
      exact HB.out.grown (Go.grownBy_sorted _) HB.out.size (fun j hj => by cases hj; exact hbase)

set_option maxRecDepth 100000 in
theorem values_calls (ad : Option Addr) (n cap : Nat) (w : World) :
    Calls Tryz.prog 73 #[.slice ad n cap] w fun e w' => e = .returned (.func (.func 87) #[] #[.pointer (some ⟨w.heap.size, 0, none⟩)]) ∧ w' = w.alloc (.cells #[.slice ad n cap] 24) := by
  have hmf : ∀ (fn : Fn) (first cap : Array Value) (w : World), (Instr.makeFunc fn first cap).run Tryz.prog w = .ok (.func fn first cap) w := fun _ _ _ _ => rfl
  go_enter Tryz.func73, Tryz.ntmps73
  go_wp2_with fail
  go_ret
  exact ⟨rfl, rfl⟩

/-- slices.Sorted of what slices.Values hands back. -/
theorem sorted_at (v : Value) (zs : List Bs) (hl : zs.length ≤ 1000000) (w : World) (h : Rds w v zs) :
    Calls Tryz.prog 72 #[.func (.func 87) #[] #[.pointer (some ⟨w.heap.size, 0, none⟩)]] (w.alloc (.cells #[v] 24)) fun e w' => ∃ v', e = .returned v' ∧ Strs w' w.heap.size v' (srt zs) ∧ Below w.heap.size w w' := by
  have hb : Below w.heap.size w (w.alloc (.cells #[v] 24)) := (Below.refl _ w).alloc (Nat.le_refl _) _
  refine (sorted_calls w.heap.size v zs hl _ (by simp) (by simp [go_sem]) (Src.of (Rds.below h hb))).mono ?_
  rintro e w' ⟨v', rfl, h1, h2⟩
  exact ⟨v', rfl, own_base h1 (by simp), hb.trans (h2.mono (by simp))⟩
end Go.Proofs.YtdikjmhnjlalbaaGreat.its

/- What Make answers, as a plain function: as the model reckons it, and as the program does. -/
namespace Go.Proofs.YtdikjmhnjlalbaaGreat.mkp
open Go Go.RowKit Go.Proofs.YtdikjmhnjlalbaaGreat.tm Go.Proofs.YtdikjmhnjlalbaaGreat.spm Go.Proofs.YtdikjmhnjlalbaaGreat.its
set_option linter.unusedVariables false

/-- the terms of some texts, if all are right. -/
def terms : List Bs → Option (List Tm)
  | [] => some []
  | a :: l => match term a with
    | none => none
    | some T => match terms l with
      | none => none
      | some Ts => some (T :: Ts)

theorem terms_cons (a : Bs) (l : List Bs) : terms (a :: l) = (match term a with | none => none | some T => match terms l with | none => none | some Ts => some (T :: Ts)) := rfl
theorem terms_len : ∀ (l : List Bs) (Ts : List Tm), terms l = some Ts → Ts.length = l.length
  | [], Ts, h => by simp [terms] at h; subst h; rfl
  | a :: l, Ts, h => by
    rw [terms_cons] at h
    cases ha : term a with
    | none => rw [ha] at h; cases h
    | some T =>
      rw [ha] at h
      cases hs : terms l with
      | none => rw [hs] at h; cases h
      | some Us =>
        rw [hs] at h
        cases h
        simp [terms_len l Us hs]

def rights (op x : Bs) : Bool := (term x).isSome && (!secret op || atomR x)
def dhS (x y : Bs) : Bs := if gt x y then say oDh [y, x] else say oDh [x, y]
def madeT (op : Bs) (args : List Bs) : Bs := if op = oDh then (match args with | [x, y] => dhS x y | _ => []) else say op args
def finR (t : Bs) : Bs × Int := if (term t).isSome then (t, 0) else ([], 9)
def makeR (op : Bs) (args : List Bs) : Bs × Int :=
  if 400 < args.length ∨ 8000 < op.length then ([], 2)
  else if many op = 0 ∨ args.length ≠ many op then ([], 1)
  else if args.all (rights op) then finR (madeT op args) else ([], 1)

/-- .. as the program goes about it, the list being sorted where that is due. -/
def implR (op : Bs) (args : List Bs) : Bs × Int :=
  match terms args with
  | none => ([], 1)
  | some Ts => match build op Ts with
    | none => ([], 1)
    | some T => if T.tx.length ≤ 3000 ∧ T.deep ≤ 24 then (T.tx, 0) else ([], 9)
def sortedR (op : Bs) (args : List Bs) : List Bs := if op = oDh then srt args else args

theorem sortedR_len (op : Bs) (args : List Bs) : (sortedR op args).length = args.length := by
  unfold sortedR; split
  · exact srt_len _
  · rfl

theorem term_tx {T : Tm} (h : T.ok) : (term T.tx).isSome = decide (T.tx.length ≤ 3000 ∧ T.deep ≤ 24) := by
  by_cases hc : T.tx.length ≤ 3000 ∧ T.deep ≤ 24
  · rw [term_some.2 ⟨hc.1, h, hc.2, rfl⟩]; simp [hc]
  · cases ht : term T.tx with
    | none => simp [hc]
    | some U =>
      obtain ⟨h1, h2, h3, h4⟩ := term_some.1 ht
      have := tx_inj h h2 h4.symm
      subst this
      exact absurd ⟨h1, h3⟩ hc

theorem finR_tx {T : Tm} (h : T.ok) : finR T.tx = if T.tx.length ≤ 3000 ∧ T.deep ≤ 24 then (T.tx, 0) else ([], 9) := by
  unfold finR
  rw [term_tx h]
  by_cases hc : T.tx.length ≤ 3000 ∧ T.deep ≤ 24 <;> simp [hc]

theorem term_atom {x : Bs} (h : atomR x = true) : term x = some (.atom x) := by
  have := atomR_len h
  exact term_some.2 ⟨by omega, h, by simp [Tm.deep], rfl⟩
theorem term_not_atom {x : Bs} {X : Tm} (h : term x = some X) (ha : atomR x = false) : X.isAtom = false := by
  obtain ⟨_, h2, _, h4⟩ := term_some.1 h
  cases X with
  | atom a =>
    have : a = x := h4
    subst this
    rw [show atomR a = true from h2] at ha
    cases ha
  | _ => rfl

theorem implR_shape {op : Bs} {args : List Bs} (h : many op = 0 ∨ args.length ≠ many op) : implR op args = ([], 1) := by
  unfold implR
  cases ht : terms args with
  | none => rfl
  | some Ts =>
    cases hb : build op Ts with
    | none => simp [hb]
    | some T =>
      have h1 := build_many hb
      have h2 := terms_len _ _ ht
      omega

theorem implR_one {op x : Bs} (hm : many op = 1) : implR op [x] = if rights op x then finR (say op [x]) else ([], 1) := by
  have hop : op = oHash ∨ op = oPub := by
    unfold many at hm
    split at hm
    · cases hm
    · split at hm
      · assumption
      · cases hm
  unfold implR rights
  rw [terms_cons]
  cases hx : term x with
  | none => simp
  | some X =>
    obtain ⟨_, hX, _, htx⟩ := term_some.1 hx
    rcases hop with rfl | rfl
    · have : build oHash [X] = some (.hash X) := by simp [build, oPair, oHash]
      have e : secret oHash = false := by decide
      simp only [terms, this, e]
      rw [← htx]
      have := finR_tx (T := .hash X) hX
      simp only [Option.isSome_some, Bool.not_false, Bool.true_or, Bool.and_self, if_true]
      exact this.symm
    · have e : secret oPub = true := by decide
      cases ha : atomR x with
      | true =>
        rw [term_atom ha] at hx
        cases hx
        have : build oPub [.atom x] = some (.pub x) := by simp [build, oPair, oHash, oMac, oShut, oPub]
        simp only [terms, this, e]
        have := finR_tx (T := .pub x) ha
        simp only [Option.isSome_some, Bool.or_true, Bool.and_self, if_true]
        exact this.symm
      | false =>
        have hn := term_not_atom hx ha
        have : build oPub [X] = none := by
          cases X <;> first | (simp [Tm.isAtom] at hn; done) | (simp [build, oPair, oHash, oMac, oShut, oPub])
        simp [terms, this, e]

theorem implR_two {op x y : Bs} (hm : many op = 2) (hd : op ≠ oDh) : implR op [x, y] = if rights op x && rights op y then finR (say op [x, y]) else ([], 1) := by
  have hop : op = oPair ∨ op = oMac ∨ op = oShut := by
    unfold many at hm
    split at hm
    · rename_i h; rcases h with h | h | h | h
      · exact .inl h
      · exact .inr (.inl h)
      · exact .inr (.inr h)
      · exact absurd h hd
    · split at hm <;> cases hm
  have e : secret op = false := by rcases hop with rfl | rfl | rfl <;> decide
  unfold implR rights
  rw [terms_cons, terms_cons, e]
  cases hx : term x with
  | none => simp
  | some X =>
    cases hy : term y with
    | none => simp
    | some Y =>
      obtain ⟨_, hX, _, htx⟩ := term_some.1 hx
      obtain ⟨_, hY, _, hty⟩ := term_some.1 hy
      obtain ⟨T, hT, hok, ht⟩ : ∃ T, build op [X, Y] = some T ∧ T.ok ∧ T.tx = say op [x, y] := by
        rcases hop with rfl | rfl | rfl
        · exact ⟨.pair X Y, by simp [build], ⟨hX, hY⟩, by rw [← htx, ← hty]; rfl⟩
        · exact ⟨.mac X Y, by simp [build, oPair, oHash, oMac], ⟨hX, hY⟩, by rw [← htx, ← hty]; rfl⟩
        · exact ⟨.shut X Y, by simp [build, oPair, oHash, oMac, oShut], ⟨hX, hY⟩, by rw [← htx, ← hty]; rfl⟩
      simp only [terms, hT]
      rw [← ht, finR_tx hok]
      simp

theorem dh_none {X Y : Tm} (h : X.isAtom = false ∨ Y.isAtom = false) : build oDh [X, Y] = none := by
  cases X <;> cases Y <;> first | (simp [Tm.isAtom] at h; done) | simp [build, oPair, oHash, oMac, oShut, oPub, oDh]
theorem dh_some {a b : Bs} (h : gt a b = false) : build oDh [.atom a, .atom b] = some (.dh a b) := by
  simp [build, oPair, oHash, oMac, oShut, oPub, oDh, h]

/-- two secrets in their order. -/
theorem implR_dh {x y : Bs} (h : gt x y = false) : implR oDh [x, y] = if rights oDh x && rights oDh y then finR (say oDh [x, y]) else ([], 1) := by
  have e : secret oDh = true := by decide
  unfold implR rights
  rw [terms_cons, terms_cons, e]
  cases hx : term x with
  | none => simp
  | some X =>
    cases hy : term y with
    | none => simp
    | some Y =>
      simp only [terms, Option.isSome_some, Bool.not_true, Bool.false_or, Bool.true_and]
      cases ha : atomR x with
      | false =>
        rw [dh_none (.inl (term_not_atom hx ha))]
        simp
      | true =>
        cases hb : atomR y with
        | false =>
          rw [dh_none (.inr (term_not_atom hy hb))]
          simp
        | true =>
          rw [term_atom ha] at hx
          rw [term_atom hb] at hy
          cases hx
          cases hy
          rw [dh_some h]
          have := finR_tx (T := .dh x y) ⟨ha, hb, h⟩
          simp only [Bool.and_self, if_true]
          exact this.symm

open Go.Sort in
theorem bless_eq (x y : Bs) : Op.bytesLess x y = decide (x < y) := bytesLess_eq x y

theorem gt_lt (x y : Bs) : gt x y = decide (y < x) := by
  unfold gt
  rw [bless_eq]
  rcases ato.lt_or x y with h | h | h
  · have : ¬ y < x := fun e => List.lt_irrefl _ (List.lt_trans e h)
    simp [h, this]
  · subst h
    simp
  · have h1 : ¬ x < y := fun e => List.lt_irrefl _ (List.lt_trans e h)
    have h2 : ¬ x = y := fun e => by subst e; exact absurd h (List.lt_irrefl _)
    simp [h, h1, h2]

theorem srt_two (x y : Bs) : srt [x, y] = if gt x y then [y, x] else [x, y] := by
  unfold srt
  rw [gt_lt]
  have : ∀ (p : Bs → Bs → Bool), List.mergeSort [x, y] p = if p x y then [x, y] else [y, x] := fun p => by
    simp [List.mergeSort, List.MergeSort.Internal.splitInTwo, List.splitAt, List.splitAt.go, List.merge]
  rw [this]
  by_cases h : y < x
  · have : ¬ x ≤ y := fun e => e h
    simp [h, this]
  · have : x ≤ y := List.not_lt.1 h
    simp [h, this]

theorem gt_back {x y : Bs} (h : gt x y = true) : gt y x = false := by
  rw [gt_lt] at h ⊢
  have h : y < x := by simpa using h
  simpa using (fun e => List.lt_irrefl _ (List.lt_trans e h) : ¬ x < y)

theorem make_eq (op : Bs) (args : List Bs) (h1 : args.length ≤ 400) (h2 : op.length ≤ 8000) : implR op (sortedR op args) = makeR op args := by
  have hns : ¬ (400 < args.length ∨ 8000 < op.length) := by omega
  unfold makeR
  rw [if_neg hns]
  by_cases hs : many op = 0 ∨ args.length ≠ many op
  · rw [if_pos hs]
    exact implR_shape (by rw [sortedR_len]; exact hs)
  · rw [if_neg hs]
    have hm : args.length = many op := by omega
    have hcase : many op = 1 ∨ many op = 2 := by
      have : many op ≤ 2 := by unfold many; split; omega; split <;> omega
      omega
    rcases hcase with h | h
    · rw [h] at hm
      obtain ⟨x, rfl⟩ := List.length_eq_one_iff.1 hm
      have hd : op ≠ oDh := by rintro rfl; revert h; decide
      unfold sortedR madeT
      rw [if_neg hd, if_neg hd, implR_one h]
      simp
    · rw [h] at hm
      obtain ⟨x, y, rfl⟩ : ∃ x y, args = [x, y] := by
        match args, hm with
        | [x, y], _ => exact ⟨x, y, rfl⟩
      by_cases hd : op = oDh
      · subst hd
        unfold sortedR madeT
        rw [if_pos rfl, if_pos rfl, srt_two]
        simp only [List.all_cons, List.all_nil, Bool.and_true]
        unfold dhS
        cases hg : gt x y with
        | false =>
          simp only [Bool.false_eq_true, if_false]
          exact implR_dh hg
        | true =>
          simp only [if_true]
          rw [implR_dh (gt_back hg), Bool.and_comm]
      · unfold sortedR madeT
        rw [if_neg hd, if_neg hd, implR_two h hd]
        simp
end Go.Proofs.YtdikjmhnjlalbaaGreat.mkp
