/- The walk of FnTerm (written by wip/gen_tlw.py). -/
import Derived.Test.YtnlinlodgpbnlaaGreatDmk
import Derived.Test.YtnlinlodgpbnlaaGreatSmk
import Derived.Test.YtnlinlodgpbnlaaGreatImk
import Derived.Test.YtnlinlodgpbnlaaGreatNdo
import Derived.Test.YtnlinlodgpbnlaaGreatIop
import Derived.Test.YtnlinlodgpbnlaaGreatSoq
import Derived.Test.YtnlinlodgpbnlaaGreatDhs
import Derived.Test.YtnlinlodgpbnlaaGreatDpd
import Derived.Test.YtnlinlodgpbnlaaGreatDpt
import Derived.StillTailTactics
import Derived.WalkKit
import Derived.Deep.DeepCutAuto
import Derived.Deep.RegionWith
import Derived.Tactics2
import Derived.Test.YtnlinlodgpbnlaaGreatSdo
import Derived.Test.YtnlinlodgpbnlaaGreatGrs
import Derived.Test.YtnlinlodgpbnlaaGreatAtl
import Derived.StillTail
import Derived.Lib.QuietBelow
import Derived.RegionTactic

/- A region that draws its order is cut in two: the head only reads (callees may lay new blocks, what they yield is the same in every world behind); the tail is asked in every such world, with just the head's operations listed. -/
namespace Go.Proofs.YtnlinlodgpbnlaaGreat.rbc
open Go Go.RowKit

section
variable {P : Program} {md : Region.Mode} {ops : Array Oper} {C : World → Prop}

/-- All operations before the k-th are listed. -/
def mark (n : Nat) : Nat → Array Bool
  | 0 => Array.replicate n false
  | k + 1 => (mark n k).setIfInBounds k true

/-- What stands at n or behind it waits for the one just before n, or for one of its own kind. -/
def tailB (md : Region.Mode) (ops : Array Oper) (n : Nat) : Bool :=
  (List.range ops.size).all fun t => decide (t < n) || (List.range ops.size).any fun j => decide (n ≤ j + 1) && Region.waitsFor md ops t j

theorem tail_waits {n : Nat} {listed : Array Bool} (hs : Region.sinkB md ops (n - 1) = true) (hc : tailB md ops n = true) (_ : n ≤ ops.size) (h0 : 0 < n) (inv : HeadInv md ops n listed) :
    ∀ (d i : Nat), n - i = d → i < n → listed.getD i true = false → ∀ t, n ≤ t → t ∉ Region.ready md ops listed := by
  intro d
  induction d using Nat.strongRecOn with
  | _ d ih =>
    intro i hd hi hun t ht hr
    obtain ⟨_, ot, hot, hall⟩ := mem_ready.1 hr
    have htlt : t < ops.size := (Array.getElem?_eq_some_iff.1 hot).1
    rcases Nat.lt_or_ge i (n - 1) with hin | hin
    · have h1 := List.all_eq_true.1 hs i (List.mem_range.2 hin)
      obtain ⟨j, hj, hj2⟩ := List.any_eq_true.1 h1
      simp only [Bool.and_eq_true, decide_eq_true_eq] at hj2
      obtain ⟨oj, hoj, e, he, hb, hon⟩ := Region.waitsFor_spec hj2.2
      have hjle : j < n := by have := List.mem_range.1 hj; omega
      cases hl : listed.getD j false with
      | true =>
        have h2 := inv.closed j oj hoj hl e he hb
        rw [hon, getD_both hun] at h2
        cases h2
      | false =>
        have hjs : j < listed.size := by rw [inv.size]; omega
        exact ih (n - j) (by omega) j rfl hjle (getD_in hjs hl) t ht hr
    · have hi1 : i = n - 1 := by omega
      subst hi1
      have h1 := List.all_eq_true.1 hc t (List.mem_range.2 htlt)
      simp only [Bool.or_eq_true, decide_eq_true_eq] at h1
      rcases h1 with h1 | h1
      · omega
      · obtain ⟨j, hj, hj2⟩ := List.any_eq_true.1 h1
        simp only [Bool.and_eq_true, decide_eq_true_eq] at hj2
        obtain ⟨o', ho', e, he, hb, hon⟩ := Region.waitsFor_spec hj2.2
        have : o' = ot := Option.some.inj (ho'.symm.trans hot)
        subst this
        have h2 := hall e he hb
        have hu : listed.getD j true = false := by
          rcases Nat.lt_or_ge j n with h | h
          · have : j = n - 1 := by omega
            rw [this]; exact hun
          · exact inv.tail j h (List.mem_range.1 hj)
        rw [hon, getD_both hu] at h2
        cases h2

theorem wpQuiet_mono' {Q Q' : Act → Prop} (h : ∀ a, Q a → Q' a) : ∀ (l : List Oper) (a : Act), wpQuiet P ops C Q l a → wpQuiet P ops C Q' l a
  | [], a, hq => h a hq
  | o :: l, a, hq => by
    unfold wpQuiet at hq ⊢
    split
    · rename_i hw
      simp only [hw, if_true] at hq
      obtain ⟨v, h1, h2⟩ := hq
      exact ⟨v, h1, wpQuiet_mono' h l _ h2⟩
    · rename_i hw
      simp only [hw, Bool.false_eq_true, if_false] at hq
      exact wpQuiet_mono' h l _ hq

def wpAnyT (P : Program) (md : Region.Mode) (ops : Array Oper) (C : World → Prop) (n : Nat) (L : Array Bool → Act → Prop) : Nat → Array Bool → Act → Prop
  | 0, listed, a => L listed a
  | f + 1, listed, a =>
    Region.ready md ops listed ≠ [] ∧ ∀ i ∈ Region.ready md ops listed, i < n ∧ qOp P ops C i (wpAnyT P md ops C n L f (listed.setIfInBounds i true)) a

theorem wpAny_of_top {n g : Nat} {L : Array Bool → Act → Prop} {Q' : Exit → Act → World → Prop} (hL : ∀ listed a w, C w → L listed a → wpAny P md ops Q' g listed a w) :
    ∀ (f : Nat) (listed : Array Bool) (a : Act) (w : World), C w → wpAnyT P md ops C n L f listed a → wpAny P md ops Q' (f + g) listed a w
  | 0, listed, a, w, hw, h => by rw [Nat.zero_add]; exact hL _ _ _ hw h
  | f + 1, listed, a, w, hw, h => by
    rw [show f + 1 + g = (f + g) + 1 by omega]
    exact ⟨fun h0 => absurd h0 h.1, fun i hi => wpOp_of_qOp hw (fun a' w' hw' h' => wpAny_of_top hL f _ a' w' hw' h') (h.2 i hi).2⟩

theorem wpAnyT_first {n i : Nat} {oi : Oper} {v : Value} {L : Array Bool → Act → Prop} (hi : ops[i]? = some oi) (hsel : ∀ (j : Nat) (o : Oper) cs b, ops[j]? = some o → o.op ≠ .select cs b)
    (hs : Region.sinkB md ops (n - 1) = true) (hc : tailB md ops n = true) (hn : n ≤ ops.size) (hin : i < n)
    (hdone : ∀ listed a, L listed a → ∀ j ∈ Region.ready md ops listed, n ≤ j) :
    ∀ (f : Nat) (listed : Array Bool) (a : Act), HeadInv md ops n listed →
      (∀ j oj, ops[j]? = some oj → j ≠ i → listed.getD j true = false → (∀ e ∈ oj.after, Region.binds md e = true → e.on ≠ i) → oi.apart ops oj = true) →
      i ∈ Region.ready md ops listed → YieldsIn P ops C oi v a →
      wpAnyT P md ops C n L f (listed.setIfInBounds i true) (a.put oi.dst v) → wpAnyT P md ops C n L (f + 1) listed a := by
  intro f
  induction f with
  | zero =>
    intro listed a inv _ hr hy H
    have hun := (mem_ready.1 hr).1
    refine ⟨fun h => (by rw [h] at hr; cases hr), fun j hj => ?_⟩
    have hjn : j < n := by
      rcases Nat.lt_or_ge j n with h | h
      · exact h
      · exact absurd hj (tail_waits hs hc hn (by omega) inv _ i rfl hin hun j h)
    refine ⟨hjn, ?_⟩
    by_cases hji : j = i
    · subst hji; exact hy.qOp hi H
    · have := hdone _ _ H j (ready_mono hj hji)
      omega
  | succ f ih =>
    intro listed a inv hfree hr hy H
    have hun := (mem_ready.1 hr).1
    refine ⟨fun h => (by rw [h] at hr; cases hr), fun j hj => ?_⟩
    have hjn : j < n := by
      rcases Nat.lt_or_ge j n with h | h
      · exact h
      · exact absurd hj (tail_waits hs hc hn (by omega) inv _ i rfl hin hun j h)
    refine ⟨hjn, ?_⟩
    by_cases hji : j = i
    · subst hji; exact hy.qOp hi H
    · have h1 := (H.2 j (ready_mono hj hji)).2
      obtain ⟨hjun, oj, hoj, hall⟩ := mem_ready.1 hj
      have hnot : ∀ e ∈ oj.after, Region.binds md e = true → e.on ≠ i := fun e he hb heq => by
        have h1 := hall e he hb
        rw [heq, getD_both hun] at h1
        cases h1
      have h2 := qOp_put hoj (hfree j oj hoj hji hjun hnot) (fun cs b => hsel i oi cs b hi) (fun cs b => hsel j oj cs b hoj) hy h1
      have hfree' : ∀ k ok, ops[k]? = some ok → k ≠ i → (listed.setIfInBounds j true).getD k true = false →
          (∀ e ∈ ok.after, Region.binds md e = true → e.on ≠ i) → oi.apart ops ok = true := fun k ok hk hki hun hno => by
        refine hfree k ok hk hki ?_ hno
        by_cases hjk : j = k
        · subst hjk; exact hjun
        · rw [getD_set_ne true hjk] at hun; exact hun
      refine qOp_mono (fun a' h3 => ih (listed.setIfInBounds j true) a' (inv.set hj hjn) hfree' (ready_mono hr (Ne.symm hji)) h3.1 ?_) h2
      rw [Array.setIfInBounds_comm _ _ hji]
      exact h3.2

/-- The head may be taken in the text's order. -/
def headB (md : Region.Mode) (ops : Array Oper) : Nat → Nat → Array Bool → Bool
  | 0, k, listed => (Region.ready md ops listed).all fun j => decide (k ≤ j)
  | f + 1, k, listed => (Region.ready md ops listed).contains k && Region.free md ops listed k && headB md ops f (k + 1) (listed.setIfInBounds k true)

theorem wpAnyT_lex {n : Nat} {Lq : Act → Prop} (hsel : Region.noSelect ops = true) (hs : Region.sinkB md ops (n - 1) = true) (hc : tailB md ops n = true) (hn : n ≤ ops.size) :
    ∀ (l : List Oper) (k : Nat) (a : Act), (∀ j, j < l.length → l[j]? = ops[k + j]?) → k + l.length = n → HeadInv md ops n (mark ops.size k) →
    headB md ops l.length k (mark ops.size k) = true → wpQuiet P ops C Lq l a →
    wpAnyT P md ops C n (fun listed' a' => listed' = mark ops.size n ∧ (∀ j ∈ Region.ready md ops listed', n ≤ j) ∧ Lq a') l.length (mark ops.size k) a
  | [], k, a, _, hk, _, hB, h => by
    have : k = n := by simpa using hk
    subst this
    refine ⟨rfl, fun j hj => ?_, h⟩
    simp only [List.length_nil, headB] at hB
    simpa using List.all_eq_true.1 hB j hj
  | o :: l, k, a, hl, hk, inv, hB, h => by
    have h0 : ops[k]? = some o := by simpa using (hl 0 (by simp)).symm
    simp only [List.length_cons, headB, Bool.and_eq_true] at hB
    obtain ⟨⟨hr, hf⟩, hB'⟩ := hB
    have hkn : k < n := by simp only [List.length_cons] at hk; omega
    have hr' : k ∈ Region.ready md ops (mark ops.size k) := by simpa using hr
    have hst : qOp P ops C k (wpQuiet P ops C Lq l) a := by unfold qOp; simp only [h0]; exact h
    obtain ⟨v, hy, hK⟩ := yieldsIn_of_qOp h0 hst
    exact wpAnyT_first h0 (Region.noSelect_spec hsel) hs hc hn hkn (fun listed' a' hL => hL.2.1) l.length _ a inv (Region.free_spec h0 hf) hr' hy
      (wpAnyT_lex hsel hs hc hn l (k + 1) _ (fun j hj => by have := hl (j + 1) (by simp; omega); simpa [Nat.add_assoc, Nat.add_comm 1 j] using this) (by simp only [List.length_cons] at hk; omega) (inv.set hr' hkn) hB' hK)

def cutB (md : Region.Mode) (ops : Array Oper) (n : Nat) : Bool :=
  Region.noSelect ops && decide (0 < n) && decide (n ≤ ops.size) && Region.sinkB md ops (n - 1) && tailB md ops n && headB md ops n 0 (Array.replicate ops.size false)

theorem wp_region_cut {id : Nat} {Q : Exit → Act → World → Prop} {a : Act} {w : World} {l : List Oper} (n : Nat) (hm : P.follows .mixedOrders = true) (hB : cutB .any l.toArray n = true) (hC : C { w with drawn := w.drawn + 1 })
    (h : wpQuiet P l.toArray C (fun a' => ∀ w', C w' → wpAny P .any l.toArray Q (l.length - n) (mark l.length n) a' w') (l.take n) a) : (Code.region id l.toArray true).wp P Q a w := by
  simp only [cutB, Bool.and_eq_true, decide_eq_true_eq] at hB
  obtain ⟨⟨⟨⟨⟨hsel, h0⟩, hn⟩, hs⟩, hc⟩, hlex⟩ := hB
  have hn' : n ≤ l.length := by simpa using hn
  have htl : (l.take n).length = n := by simp; omega
  have inv0 : HeadInv .any l.toArray n (mark l.toArray.size 0) :=
    ⟨by simp [mark], fun j oj _ hl => (by rw [mark, getD_replicate_false] at hl; cases hl), fun t _ ht => getD_in (by simpa [mark] using ht) (getD_replicate_false _ _)⟩
  have H := wpAnyT_lex (md := .any) (C := C) hsel hs hc hn (l.take n) 0 a (fun j hj => by
    have hj' : j < n := by rw [htl] at hj; exact hj
    simp [hj']) (by simpa using htl) inv0 (by rw [htl]; exact hlex) h
  refine wp_region_any hm ?_
  have := wpAny_of_top (Q' := Q) (g := l.toArray.size - n) (fun listed a' w' hw' hL => by
    rw [hL.1]
    simpa using hL.2.2 w' hw') _ _ _ _ hC H
  rw [htl, show n + (l.toArray.size - n) = l.toArray.size by omega] at this
  exact this

theorem wp_region_below_cut {id : Nat} {Q : Exit → Act → World → Prop} {a : Act} {w : World} {l : List Oper} (n g : Nat) (m : Array Bool) (hm : P.follows .mixedOrders = true) (hB : cutB .any l.toArray n = true) (hg : l.length - n = g) (hk : mark l.length n = m)
    (h : wpQuiet P l.toArray (fun w' => ∃ p : Regrown, w' = Sort.grow (redrawn w p.d) p.os) (fun a' => ∀ w', Below w.heap.size w w' → wpAny P .any l.toArray Q g m a' w') (l.take n) a) : (Code.region id l.toArray true).wp P Q a w := by
  subst hg hk
  refine wp_region_cut (C := fun w' => ∃ p : Regrown, w' = Sort.grow (redrawn w p.d) p.os) n hm hB ⟨⟨w.drawn + 1, #[]⟩, by rw [Sort.grow_empty]; rfl⟩ ?_
  refine wpQuiet_mono' ?_ _ _ h
  rintro a' h' w' ⟨p, rfl⟩
  exact h' _ (below_regrown w p.d p.os)
end
end Go.Proofs.YtnlinlodgpbnlaaGreat.rbc

/- lwTexts of laws: two lists that are one list. -/
namespace Go.Proofs.YtnlinlodgpbnlaaGreat.lwt
open Go.RowKit Go.Proofs.YtnlinlodgpbnlaaGreat.tm Go.Proofs.YtnlinlodgpbnlaaGreat.lib Go.Proofs.YtnlinlodgpbnlaaGreat.rdr Go.Proofs.YtnlinlodgpbnlaaGreat.bld Go.Proofs.YtnlinlodgpbnlaaGreat.app Go.Proofs.YtnlinlodgpbnlaaGreat.mrk
set_option linter.unusedVariables false

set_option maxHeartbeats 1000000 in
set_option maxRecDepth 100000 in
theorem lwTexts_calls (va vb : Value) (ls : List Bs) (w : World) (ha : Rds w va ls) (hb : Rds w vb ls) (hl : ls.length ≤ 100000000) :
    Calls Tryz.prog 19 #[va, vb] w fun e w' => e = .returned (.bool true) ∧ Still w w' := by
  by_cases h0 : ls = []
  · subst h0
    have fa : ∃ ad cap, va = .slice ad 0 cap := by rcases ha with ⟨_, h⟩ | ⟨g, off, cap, h, _⟩; exact h; exact ⟨_, _, h⟩
    have fb : ∃ ad cap, vb = .slice ad 0 cap := by rcases hb with ⟨_, h⟩ | ⟨g, off, cap, h, _⟩; exact h; exact ⟨_, _, h⟩
    obtain ⟨aa, ca, rfl⟩ := fa
    obtain ⟨ab, cb, rfl⟩ := fb
    clear ha hb
    go_enter Tryz.func19, Tryz.ntmps19
    go_wp2_with fail
    refine wp_loop_rounds 1 ?_
    rw [rounds_succ]
    go_wp2_with fail
    go_ret
    exact ⟨rfl, Still.refl _⟩
  · rcases ha with ⟨h, _⟩ | ⟨ga, oa, ca, rfl, hga, hca⟩
    · exact absurd h h0
    rcases hb with ⟨h, _⟩ | ⟨gb, ob, cb, rfl, hgb, hcb⟩
    · exact absurd h h0
    obtain ⟨n, hn⟩ : ∃ n, n = ls.length := ⟨_, rfl⟩
    rw [← hn] at hl ⊢
    have HA := Lib.hid hca
    have HB := Lib.hid hcb
    have HN := Lib.hid hn
    clear hca hcb hn h0
    go_enter Tryz.func19, Tryz.ntmps19
    go_wp2_with fail
    go_loopw [5, 11, 12, 13, 14, 15, 16, 17, 18, 19, 20, 21, 22, 23, 24, 25] (fun vk _ _ _ _ _ _ _ _ _ _ _ _ _ _ _ wr => ∃ k : Nat, k ≤ n ∧ vk = .int .i64 k ∧ Still w wr) (fun vk _ _ _ _ _ _ _ _ _ _ _ _ _ _ _ _ => n - (intOf vk).toNat)
    case atStart => exact ⟨0, Nat.zero_le _, rfl, Still.refl _⟩
    case round =>
      obtain ⟨k, hk, rfl, hst⟩ := hrel
      have HS := Lib.hid hst
      by_cases hlt : k < n
      · have hk' : k < ls.length := by have := HN.out; omega
        obtain ⟨l, hl'⟩ : ∃ l, ls[k]? = some l := ⟨_, List.getElem?_eq_getElem hk'⟩
        have c1 : wr.cell? ⟨ga, oa + k, none⟩ = some (str l) := by rw [← HA.out k l hl']; exact World.cell?_of_block (by rw [hst.heap])
        have c2 : wr.cell? ⟨gb, ob + k, none⟩ = some (str l) := by rw [← HB.out k l hl']; exact World.cell?_of_block (by rw [hst.heap])
        clear hst hl'
        go_wp2_with fail
        go_quiet (fail)
        go_wp2_with fail
        go_roundw
        case rel => exact ⟨k + 1, by omega, by go_num, HS.out.trans (Still.drewN _ _)⟩
        case measure => simp [intOf]; omega
      · clear hst
        go_wp2_with fail
        go_ret
        exact ⟨rfl, HS.out⟩
end Go.Proofs.YtnlinlodgpbnlaaGreat.lwt

/- What FnTerm leans on, as plain mathematics: what was made is taken apart again; a secret and a lock, either way round; what was shut is opened. -/
namespace Go.Proofs.YtnlinlodgpbnlaaGreat.trp
open Go.RowKit Go.Proofs.YtnlinlodgpbnlaaGreat.tm Go.Proofs.YtnlinlodgpbnlaaGreat.spm Go.Proofs.YtnlinlodgpbnlaaGreat.snd Go.Proofs.YtnlinlodgpbnlaaGreat.sop Go.Proofs.YtnlinlodgpbnlaaGreat.mkp Go.Proofs.YtnlinlodgpbnlaaGreat.imk Go.Proofs.YtnlinlodgpbnlaaGreat.dhs
set_option linter.unusedVariables false

theorem terms_ok : ∀ (l : List Bs) (Ts : List Tm), terms l = some Ts → (∀ k ∈ Ts, k.ok) ∧ Ts.map Tm.tx = l
  | [], Ts, h => by simp [terms] at h; subst h; simp
  | a :: l, Ts, h => by
    rw [terms_cons] at h
    cases ha : term a with
    | none => rw [ha] at h; cases h
    | some T =>
      rw [ha] at h
      cases hl : terms l with
      | none => rw [hl] at h; cases h
      | some Us =>
        rw [hl] at h
        cases h
        obtain ⟨h1, h2⟩ := terms_ok l Us hl
        obtain ⟨_, h3, _, h4⟩ := term_some.1 ha
        refine ⟨fun k hk => ?_, by rw [List.map_cons, h2, h4]⟩
        rcases List.mem_cons.1 hk with rfl | hk
        · exact h3
        · exact h1 k hk

/-- What was made is taken apart again. -/
theorem made_back {op : Bs} {args : List Bs} {t : Bs} (h : makeR op args = (t, 0)) : ∃ T, term t = some T ∧ T.op = op ∧ nodeArgs T = sortedR op args := by
  have h1 : args.length ≤ 400 ∧ op.length ≤ 8000 := by
    unfold makeR at h
    split at h
    · cases h
    · omega
  rw [← make_eq op args h1.1 h1.2] at h
  unfold implR at h
  cases ht : terms (sortedR op args) with
  | none => rw [ht] at h; cases h
  | some Ts =>
    rw [ht] at h
    simp only at h
    cases hb : build op Ts with
    | none => rw [hb] at h; cases h
    | some T =>
      rw [hb] at h
      simp only at h
      split at h
      · rename_i hc
        cases h
        obtain ⟨b1, b2, b3, b4⟩ := build_some hb
        obtain ⟨k1, k2⟩ := terms_ok _ _ ht
        have hok : T.ok := (ok_iff T b1).2 ⟨by rw [b3]; exact k1, b4⟩
        refine ⟨T, term_some.2 ⟨hc.1, hok, hc.2, rfl⟩, b2, ?_⟩
        unfold nodeArgs
        rw [b1, b3, k2]
        rfl
      · cases h

theorem dhS_sym (x y : Bs) : dhS x y = dhS y x := by
  unfold dhS
  cases h1 : gt x y with
  | true => rw [gt_back h1]; rfl
  | false =>
    cases h2 : gt y x with
    | true => rfl
    | false =>
      rw [gt_lt] at h1 h2
      have h1 : ¬ y < x := by simpa using h1
      have h2 : ¬ x < y := by simpa using h2
      rcases ato.lt_or x y with h | h | h
      · exact absurd h h2
      · rw [h]
      · exact absurd h h1

/-- The lock of a secret. -/
theorem lock_of {s : Bs} (h : atomR s = true) : makeR oPub [s] = (say oPub [s], 0) ∧ term (say oPub [s]) = some (.pub s) := by
  have hl := atomR_len h
  have ht : term (say oPub [s]) = some (.pub s) := term_some.2 ⟨by simp [say, oPub]; omega, h, by simp [Tm.deep], rfl⟩
  refine ⟨?_, ht⟩
  rw [smk.makeR_args (by simp) (by decide) (by decide) (by show 1 = many oPub; decide)]
  have e : rights oPub s = true := by unfold rights; rw [term_atom h, h]; simp
  have hm : madeT oPub [s] = say oPub [s] := by unfold madeT; rw [if_neg (by decide)]
  simp only [List.all_cons, List.all_nil, e, Bool.and_self, if_true, hm]
  unfold finR
  rw [ht]
  rfl

/-- What a secret and a lock make, the other one and the first one's lock make. -/
theorem dh_round {s p d : Bs} (h : DhR s p d 0) : ∃ y, term p = some (.pub y) ∧ DhR y (say oPub [s]) d 0 := by
  cases h with
  | pub h1 h2 ha y hT =>
    have hy : atomR y = true := (term_some.1 hT).2.1
    refine ⟨y, hT, ?_⟩
    rw [dhS_sym]
    have l1 := atomR_len hy
    have l2 := atomR_len ha
    exact .pub (by omega) (by simp [say, oPub]; omega) hy s (lock_of ha).2

/-- What was shut is opened by its key. -/
theorem shut_back {key a c : Bs} (h : makeR oShut [key, a] = (c, 0)) : OpenR key c a 0 := by
  obtain ⟨T, hT, ho, hk⟩ := made_back h
  have hs : sortedR oShut [key, a] = [key, a] := by unfold sortedR; rw [if_neg (by decide)]
  rw [hs] at hk
  cases T with
  | shut K A =>
    simp only [nodeArgs, Tm.isAtom, Tm.kids, List.map_cons, List.map_nil, Bool.false_eq_true, if_false, List.cons.injEq, and_true] at hk
    obtain ⟨hK, hA⟩ := hk
    obtain ⟨h1, h2, h3, h4⟩ := term_some.1 hT
    have hl : key.length ≤ 3000 := by
      have : (Tm.shut K A).tx.length ≤ 3000 := by rw [h4]; exact h1
      simp [Tm.tx, say] at this
      rw [← hK]
      omega
    have hKt : term key = some K := term_some.2 ⟨hl, h2.1, by simp [Tm.deep] at h3; omega, hK⟩
    rw [← hA]
    exact .some (by omega) (by omega) K K A hKt hT hK
  | _ => simp [Tm.op, oShut, oPair, oHash, oMac, oPub, oDh] at ho
end Go.Proofs.YtnlinlodgpbnlaaGreat.trp

namespace Go.Proofs.YtnlinlodgpbnlaaGreat.tlw
open Go.RowKit Go.Proofs.YtnlinlodgpbnlaaGreat.tm Go.Proofs.YtnlinlodgpbnlaaGreat.lib Go.Proofs.YtnlinlodgpbnlaaGreat.rdr Go.Proofs.YtnlinlodgpbnlaaGreat.bld Go.Proofs.YtnlinlodgpbnlaaGreat.app Go.Proofs.YtnlinlodgpbnlaaGreat.drw Go.Proofs.YtnlinlodgpbnlaaGreat.dro Go.Proofs.YtnlinlodgpbnlaaGreat.dmk Go.Proofs.YtnlinlodgpbnlaaGreat.mkp Go.Proofs.YtnlinlodgpbnlaaGreat.mrk Go.Proofs.YtnlinlodgpbnlaaGreat.mrs Go.Proofs.YtnlinlodgpbnlaaGreat.sop Go.Proofs.YtnlinlodgpbnlaaGreat.ndo Go.Proofs.YtnlinlodgpbnlaaGreat.snd
set_option linter.unusedVariables false

theorem argsR_le (l : Bs) : (argsR l).length ≤ 2 := by
  cases h : term l with
  | none => rw [argsR_none h]; simp
  | some T =>
    rw [argsR_some h]
    unfold snd.nodeArgs
    split
    · simp
    · cases T <;> simp [Tm.kids]
theorem keep {W W' : World} {b : Nat} {o : Obj} (h : W.heap[b]? = some o) (k : Below W.heap.size W W') : W'.heap[b]? = some o :=
  (k.block b (Array.getElem?_eq_some_iff.1 h).1).trans h
theorem szt (t : Bs) (h : t.length ≤ 3000) : (⟨t.toArray⟩ : ByteArray).size ≤ maxLen := by
  show t.toArray.size ≤ _
  simp [maxLen]
  omega
theorem rds_len {w : World} {v : Value} {ls : List Bs} (h : Rds w v ls) : ∃ a c, v = .slice a ls.length c := by
  rcases h with ⟨rfl, a, c, e⟩ | ⟨g, off, cap, e, _⟩
  · exact ⟨a, c, e⟩
  · exact ⟨_, _, e⟩

theorem tout0 (O : Bs) (c : Int) (w : World) : (Instr.field 27 (.agg #[str O, .int .i64 c]) 0).run Tryz.prog w = .ok (str O) w := by kernel_rfl
theorem tout1 (O : Bs) (c : Int) (w : World) : (Instr.field 27 (.agg #[str O, .int .i64 c]) 1).run Tryz.prog w = .ok (.int .i64 c) w := by kernel_rfl
theorem rds_one (w : World) (x : Bs) : Rds (w.alloc (.cells #[str x] 9)) (.slice (some ⟨w.heap.size, 0, none⟩) 1 1) [x] := by
  refine .inr ⟨w.heap.size, 0, 1, rfl, by simp, fun j l hj => ?_⟩
  match j, hj with
  | 0, hj => simp at hj; subst hj; simp [go_sem]

/-- What stands in memory while FnTerm is asked: x, n, w, args. -/
structure Fs (w W : World) (bx bn bm : Nat) (mt : Bs) (mc : Int) (nop : Bs) (vn vm va : Value) (nar ls : List Bs) : Prop where
  bel : Below w.heap.size w W
  x : W.heap[bx]? = some (.cells #[.string ⟨mt.toArray⟩, .int .i64 mc] 27 (0, 0))
  n : W.heap[bn]? = some (.cells #[.string ⟨nop.toArray⟩, vn] 31 (0, 0))
  m : W.heap[bm]? = some (.cells #[.string ⟨nop.toArray⟩, vm] 31 (0, 0))
  rn : Rds W vn nar
  rm : Rds W vm nar
  ra : Rds W va ls
theorem Fs.step {w W W' : World} {bx bn bm : Nat} {mt nop : Bs} {mc : Int} {vn vm va : Value} {nar ls : List Bs} (h : Fs w W bx bn bm mt mc nop vn vm va nar ls) (k : Below W.heap.size W W') : Fs w W' bx bn bm mt mc nop vn vm va nar ls :=
  ⟨h.bel.trans (k.mono h.bel.size), keep h.x k, keep h.n k, keep h.m k, Rds.below h.rn k, Rds.below h.rm k, Rds.below h.ra k⟩
theorem Fs.alloc {w W : World} {bx bn bm : Nat} {mt nop : Bs} {mc : Int} {vn vm va : Value} {nar ls : List Bs} (h : Fs w W bx bn bm mt mc nop vn vm va nar ls) (o : Obj) : Fs w (W.alloc o) bx bn bm mt mc nop vn vm va nar ls :=
  h.step ((Below.refl _ _).alloc (Nat.le_refl _) _)

set_option maxHeartbeats 16000000 in
set_option maxRecDepth 100000 in
theorem fnTerm_calls (a0 : Option Addr) (len0 cap0 : Nat) (a1 : Option Addr) (len1 cap1 : Nat) (w : World) (r0 : len0 ≤ 9223372036854775807 → Rd w w.heap.size a0 len0) (r1 : len1 ≤ 9223372036854775807 → Rd w w.heap.size a1 len1) :
    Calls Tryz.prog 3 #[.slice a0 len0 cap0, .slice a1 len1 cap1] w fun e w' => e = .returned (.bool true) ∧ Below w.heap.size w w' := by
  by_cases hc0 : 1048576 < len0
  · have d0 : decide ((1048576 : Int) < len0) = true := by simp; omega
    go_enter Tryz.func3, Tryz.ntmps3
    go_wp2_with fail
    all_goals go_ret
    all_goals exact ⟨rfl, Below.refl _ _⟩
  by_cases hc1 : 1048576 < len1
  · have d0 : decide ((1048576 : Int) < len0) = false := by simp; omega
    have d1 : decide ((1048576 : Int) < len1) = true := by simp; omega
    go_enter Tryz.func3, Tryz.ntmps3
    go_wp2_with fail
    all_goals go_ret
    all_goals exact ⟨rfl, Below.refl _ _⟩
  have d0 : decide ((1048576 : Int) < len0) = false := by simp; omega
  have d1 : decide ((1048576 : Int) < len1) = false := by simp; omega
  have R0 := Lib.hid (r0 (by omega))
  have R1 := Lib.hid (r1 (by omega))
  clear r0 r1
  go_enter Tryz.func3, Tryz.ntmps3
  go_wp2_with fail
  refine (dmk.drawMake a0 len0 cap0 _ R0.out).mono ?_
  rintro e wA ⟨⟨op, v, ls, hop, hls, hfew, rfl, hrd⟩, hbA⟩
  obtain ⟨ad, c, rfl⟩ : ∃ a c, v = .slice a ls.length c := by
    rcases hrd with ⟨rfl, a, c, e⟩ | ⟨g, off, cap, e, _⟩
    · exact ⟨a, c, e⟩
    · exact ⟨_, _, e⟩
  have RA := Lib.hid hrd
  have BA := Lib.hid hbA
  have FEW := Lib.hid hfew
  clear hrd hbA hfew
  have ci := fun (w : World) h => imk.implMake_calls op ad ls.length c ls w rfl h (by omega) (by omega) (fun x hx => Nat.le_trans (FEW.out x hx) (by omega))
  have cs := fun (w : World) h => smk.specMake_calls op ad ls.length c ls w rfl h (by omega) (by omega) (fun x hx => Nat.le_trans (FEW.out x hx) (by omega))
  rcases hR : makeR op ls with ⟨mt, mcode⟩
  rw [hR] at ci cs
  unfold outVal at ci cs
  have CI := Lib.hid ci
  have CS := Lib.hid cs
  have HR := Lib.hid hR
  clear ci cs hR
  go_wp2_with fail
  refine (CI.out wA RA.out).mono ?_
  rintro e wB ⟨rfl, hbB⟩
  have BB := Lib.hid (BA.out.trans (hbB.mono BA.out.size))
  have RB := Lib.hid (Rds.below RA.out hbB)
  clear hbB BA RA
  go_wp2_with fail
  have BX := Lib.hid (BB.out.alloc BB.out.size (.cells #[.string ⟨mt.toArray⟩, .int .i64 mcode] 27))
  have X0 := Lib.hid (heap_alloc_new wB (.cells #[.string ⟨mt.toArray⟩, .int .i64 mcode] 27))
  have RX := Lib.hid (Rds.below RB.out ((Below.refl _ _).alloc (Nat.le_refl _) (.cells #[.string ⟨mt.toArray⟩, .int .i64 mcode] 27)))
  clear BB RB
  refine (dro.drawNodeOf a1 len1 cap1 _ ((R1.out.below BX.out).mono BX.out.size)).mono ?_
  rintro e wC ⟨⟨t, ht, rfl⟩, hbC⟩
  have BC := Lib.hid (BX.out.trans (hbC.mono BX.out.size))
  have XC := Lib.hid (keep X0.out hbC)
  have RC := Lib.hid (Rds.below RX.out hbC)
  clear hbC BX X0 RX
  have cni := fun w => ndo.implNodeOf_calls ⟨t.toArray⟩ (szt t ht) w
  have cns := fun w => ndo.specNodeOf_calls ⟨t.toArray⟩ (szt t ht) w
  have hal := argsR_le t
  change ∀ w, Calls _ _ _ _ (fun e w' => ∃ v, e = .returned (.agg #[str (ndo.opR t), v]) ∧ _ ∧ Wrs w' _ v (ndo.argsR t)) at cni
  change ∀ w, Calls _ _ _ _ (fun e w' => ∃ v, e = .returned (.agg #[str (ndo.opR t), v]) ∧ _ ∧ Rds w' v (ndo.argsR t)) at cns
  obtain ⟨nop, hnop⟩ : ∃ x, x = ndo.opR t := ⟨_, rfl⟩
  obtain ⟨nar, hnar⟩ : ∃ x, x = ndo.argsR t := ⟨_, rfl⟩
  rw [← hnop, ← hnar] at cni cns
  rw [← hnar] at hal
  have CNI := Lib.hid cni
  have CNS := Lib.hid cns
  clear cni cns hnop hnar
  go_wp2_with fail
  refine (CNI.out _).mono ?_
  rintro e wD ⟨vD, rfl, hbD, hwD⟩
  obtain ⟨aD, cD, rfl⟩ := rds_len hwD.rds
  have BD := Lib.hid (BC.out.trans (hbD.mono BC.out.size))
  have XD := Lib.hid (keep XC.out hbD)
  have RD := Lib.hid (Rds.below RC.out hbD)
  have ND := Lib.hid hwD.rds
  clear hbD hwD BC XC RC CNI
  go_wp2_with fail
  refine (CNS.out _).mono ?_
  rintro e wE ⟨vE, rfl, hbE, hwE⟩
  obtain ⟨aE, cE, rfl⟩ := rds_len hwE
  have BE := Lib.hid (BD.out.trans (hbE.mono BD.out.size))
  have XE := Lib.hid (keep XD.out hbE)
  have RE := Lib.hid (Rds.below RD.out hbE)
  have NE := Lib.hid (Rds.below ND.out hbE)
  have ME := Lib.hid hwE
  clear hbE hwE BD XD RD ND CNS
  go_wp2_with fail
  have k1 : Below wE.heap.size wE ((wE.alloc (.cells #[.string ⟨nop.toArray⟩, .slice aD nar.length cD] 31)).alloc (.cells #[.string ⟨nop.toArray⟩, .slice aE nar.length cE] 31)) := ((Below.refl _ _).alloc (Nat.le_refl _) _).alloc (by simp) _
  have F := Lib.hid (⟨BE.out.trans (k1.mono BE.out.size), keep XE.out k1, keep (heap_alloc_new wE _) ((Below.refl _ _).alloc (Nat.le_refl _) _), by have := heap_alloc_new (wE.alloc (.cells #[.string ⟨nop.toArray⟩, .slice aD nar.length cD] 31)) (.cells #[.string ⟨nop.toArray⟩, .slice aE nar.length cE] 31); simpa using this, Rds.below NE.out k1, Rds.below ME.out k1, Rds.below RE.out k1⟩ : Fs w _ wB.heap.size wE.heap.size (wE.heap.size + 1) mt mcode nop (.slice aD nar.length cD) (.slice aE nar.length cE) (.slice ad ls.length c) nar ls)
  clear BE XE NE ME RE k1
  refine (dro.drawDh a0 len0 cap0 _ ((R0.out.below F.out.bel).mono F.out.bel.size)).mono ?_
  rintro e wF ⟨⟨s, p, hs, hp, rfl⟩, hb⟩
  have FF := Lib.hid (F.out.step hb)
  clear F hb
  obtain ⟨dr, dc, hdh⟩ := dhs.dh_total s p
  have ds := dhs.specDh_calls _ _ dr dc hdh (by omega) (by omega)
  have di := dhs.implDh_calls _ _ dr dc hdh (by omega) (by omega)
  unfold sop.outVal at ds di
  have DS := Lib.hid ds
  have DI := Lib.hid di
  have HD := Lib.hid hdh
  clear ds di hdh
  go_wp2_with fail
  refine (dro.drawOpen a1 len1 cap1 _ ((R1.out.below FF.out.bel).mono FF.out.bel.size)).mono ?_
  rintro e wG ⟨⟨key, u, hkey, hu, rfl⟩, hb⟩
  have FG := Lib.hid (FF.out.step hb)
  clear FF hb
  obtain ⟨or, oc, hop'⟩ := sop.open_total key u
  have os := sop.open_calls _ _ or oc hop' (by omega) (by omega)
  have oi := iop.implOpen_calls _ _ or oc hop' (by omega) (by omega)
  unfold sop.outVal at os oi
  have OS := Lib.hid os
  have OI := Lib.hid oi
  have HO := Lib.hid hop'
  clear os oi hop'
  go_wp2_with fail
  refine (OI.out _).mono ?_
  rintro e wH ⟨rfl, hb⟩
  have FH := Lib.hid ((FG.out.step hb).alloc (.cells #[.string ⟨or.toArray⟩, .int .i64 oc] 27))
  clear FG hb
  have YH := Lib.hid (heap_alloc_new wH (.cells #[.string ⟨or.toArray⟩, .int .i64 oc] 27))
  go_wp2_with fail
  refine (dro.drawAtomRight a1 len1 cap1 _ ((R1.out.below FH.out.bel).mono FH.out.bel.size)).mono ?_
  rintro e wI ⟨⟨a, ha, rfl⟩, hb⟩
  have FI := Lib.hid (FH.out.step hb)
  have YI := Lib.hid (keep YH.out hb)
  clear FH YH hb
  obtain ⟨x0, x1, _, _, xl⟩ := two FI.out.x
  obtain ⟨n0, n1, _, _, nl⟩ := two FI.out.n
  obtain ⟨m0, m1, _, _, ml⟩ := two FI.out.m
  obtain ⟨y0, y1, _, _, yl⟩ := two YI.out
  go_wp2_with fail
  have q0 := fun (d : Nat) (os : Array Obj) => cell_regrown (d := d) (os := os) x0
  have q1 := fun (d : Nat) (os : Array Obj) => cell_regrown (d := d) (os := os) x1
  have q2 := fun (d : Nat) (os : Array Obj) => cell_regrown (d := d) (os := os) n0
  have q3 := fun (d : Nat) (os : Array Obj) => cell_regrown (d := d) (os := os) n1
  have q4 := fun (d : Nat) (os : Array Obj) => cell_regrown (d := d) (os := os) m0
  have q5 := fun (d : Nat) (os : Array Obj) => cell_regrown (d := d) (os := os) m1
  have q6 := fun (d : Nat) (os : Array Obj) => cell_regrown (d := d) (os := os) y0
  have q7 := fun (d : Nat) (os : Array Obj) => cell_regrown (d := d) (os := os) y1
  have KS := Lib.hid (fun (w' : World) (k : Below wI.heap.size wI w') => CS.out w' (Rds.below FI.out.ra k))
  have KN := Lib.hid (fun (w' : World) (k : Below wI.heap.size wI w') => (lwt.lwTexts_calls _ _ nar w' (Rds.below FI.out.rn k) (Rds.below FI.out.rm k) (by omega)).mono fun e w'' h => (⟨h.1, h.2.below _⟩ : e = .returned (.bool true) ∧ Below w'.heap.size w' w''))
  have AI := Lib.hid (fun (w' : World) => (atm.implAtom_calls ⟨a.toArray⟩ (szt a ha) w').mono fun e w'' h => (⟨h.1, h.2 ▸ Below.refl _ _⟩ : e = .returned (.bool (atomR a)) ∧ Below w'.heap.size w' w''))
  have AS := Lib.hid (fun (w' : World) => (atm.specAtom_calls ⟨a.toArray⟩ (szt a ha) w').mono fun e w'' h => (⟨h.1, h.2 ▸ Below.refl _ _⟩ : e = .returned (.bool (atomR a)) ∧ Below w'.heap.size w' w''))
  have TI := Lib.hid (fun (w' : World) => grd.implTermRight_calls ⟨t.toArray⟩ (szt t ht) w')
  have TS := Lib.hid (fun (w' : World) => srt.specTermRight_calls ⟨t.toArray⟩ (szt t ht) w')
  have pin := fun (w' : World) => dpt.implDeepOf_calls ⟨t.toArray⟩ (szt t ht) w'
  have psn := fun (w' : World) => srt.specDeepOf_calls ⟨t.toArray⟩ (szt t ht) w'
  change ∀ w', Calls _ _ _ w' (fun e w'' => e = .returned (.int .i64 ((srt.deepT t : Nat) : Int)) ∧ Below w'.heap.size w' w'') at pin
  change ∀ w', Calls _ _ _ w' (fun e w'' => e = .returned (.int .i64 ((srt.deepT t : Nat) : Int)) ∧ Below w'.heap.size w' w'') at psn
  obtain ⟨D, hD⟩ : ∃ D : Int, D = ((srt.deepT t : Nat) : Int) := ⟨_, rfl⟩
  rw [← hD] at pin psn
  have PI := Lib.hid pin
  have PS := Lib.hid psn
  clear pin psn hD
  clear x0 x1 n0 n1 m0 m1 y0 y1
  refine rbc.wp_region_below_cut 58 7 (rbc.mark 65 58) (by kernel_rfl) (by kernel_rfl) (by kernel_rfl) (by kernel_rfl) ?_
  simp only [List.append, List.take_succ_cons, List.take_zero]
  (with_reducible refine wpQuiet_step (fun K hK => ?_); go_simp; (try rw [if_neg (by decide)]); with_reducible refine hK _ ?_; clear hK K)
  (with_reducible refine wpQuiet_step (fun K hK => ?_); go_simp; (try rw [if_neg (by decide)]); with_reducible refine hK _ ?_; clear hK K)
  (with_reducible refine wpQuiet_step (fun K hK => ?_); go_simp; (try rw [if_neg (by decide)]); with_reducible refine hK _ ?_; clear hK K)
  (with_reducible refine wpQuiet_step (fun K hK => ?_); go_simp; apply Exists.intro; with_reducible refine ⟨fun _ => ?_, hK _ ?_⟩; (exact Calls.regrown_of (KS.out _ (below_regrown _ _ _))); clear hK K)
  (with_reducible refine wpQuiet_step (fun K hK => ?_); go_simp; (try rw [if_neg (by decide)]); with_reducible refine hK _ ?_; clear hK K)
  (with_reducible refine wpQuiet_step (fun K hK => ?_); go_simp; (try rw [if_neg (by decide)]); with_reducible refine hK _ ?_; clear hK K)
  (with_reducible refine wpQuiet_step (fun K hK => ?_); go_simp; (try rw [if_neg (by decide)]); with_reducible refine hK _ ?_; clear hK K)
  (with_reducible refine wpQuiet_step (fun K hK => ?_); go_simp; (try rw [if_neg (by decide)]); with_reducible refine hK _ ?_; clear hK K)
  (with_reducible refine wpQuiet_step (fun K hK => ?_); go_simp; (try rw [if_neg (by decide)]); with_reducible refine hK _ ?_; clear hK K)
  (with_reducible refine wpQuiet_step (fun K hK => ?_); go_simp; (try rw [if_neg (by decide)]); with_reducible refine hK _ ?_; clear hK K)
  (with_reducible refine wpQuiet_step (fun K hK => ?_); go_simp; (try rw [if_neg (by decide)]); with_reducible refine hK _ ?_; clear hK K)
  (with_reducible refine wpQuiet_step (fun K hK => ?_); go_simp; (try rw [if_neg (by decide)]); with_reducible refine hK _ ?_; clear hK K)
  (with_reducible refine wpQuiet_step (fun K hK => ?_); go_simp; (try rw [if_neg (by decide)]); with_reducible refine hK _ ?_; clear hK K)
  (with_reducible refine wpQuiet_step (fun K hK => ?_); go_simp; (try rw [if_neg (by decide)]); with_reducible refine hK _ ?_; clear hK K)
  (with_reducible refine wpQuiet_step (fun K hK => ?_); go_simp; (try rw [if_neg (by decide)]); with_reducible refine hK _ ?_; clear hK K)
  (with_reducible refine wpQuiet_step (fun K hK => ?_); go_simp; (try rw [if_neg (by decide)]); with_reducible refine hK _ ?_; clear hK K)
  (with_reducible refine wpQuiet_step (fun K hK => ?_); go_simp; (try rw [if_neg (by decide)]); with_reducible refine hK _ ?_; clear hK K)
  (with_reducible refine wpQuiet_step (fun K hK => ?_); go_simp; apply Exists.intro; with_reducible refine ⟨fun _ => ?_, hK _ ?_⟩; (exact Calls.regrown_of (KN.out _ (below_regrown _ _ _))); clear hK K)
  (with_reducible refine wpQuiet_step (fun K hK => ?_); go_simp; (try rw [if_neg (by decide)]); with_reducible refine hK _ ?_; clear hK K)
  (with_reducible refine wpQuiet_step (fun K hK => ?_); go_simp; (try rw [if_neg (by decide)]); with_reducible refine hK _ ?_; clear hK K)
  (with_reducible refine wpQuiet_step (fun K hK => ?_); go_simp; (try rw [if_neg (by decide)]); with_reducible refine hK _ ?_; clear hK K)
  (with_reducible refine wpQuiet_step (fun K hK => ?_); go_simp; (try rw [if_neg (by decide)]); with_reducible refine hK _ ?_; clear hK K)
  (with_reducible refine wpQuiet_step (fun K hK => ?_); go_simp; (try rw [if_neg (by decide)]); with_reducible refine hK _ ?_; clear hK K)
  (with_reducible refine wpQuiet_step (fun K hK => ?_); go_simp; apply Exists.intro; with_reducible refine ⟨fun _ => ?_, hK _ ?_⟩; (exact Calls.regrown_of (DI.out _)); clear hK K)
  (with_reducible refine wpQuiet_step (fun K hK => ?_); go_simp; (try rw [if_neg (by decide)]); with_reducible refine hK _ ?_; clear hK K)
  (with_reducible refine wpQuiet_step (fun K hK => ?_); go_simp; (try rw [if_neg (by decide)]); with_reducible refine hK _ ?_; clear hK K)
  (with_reducible refine wpQuiet_step (fun K hK => ?_); go_simp; apply Exists.intro; with_reducible refine ⟨fun _ => ?_, hK _ ?_⟩; (exact Calls.regrown_of (DS.out _)); clear hK K)
  (with_reducible refine wpQuiet_step (fun K hK => ?_); go_simp; (try rw [if_neg (by decide)]); with_reducible refine hK _ ?_; clear hK K)
  (with_reducible refine wpQuiet_step (fun K hK => ?_); go_simp; (try rw [if_neg (by decide)]); with_reducible refine hK _ ?_; clear hK K)
  (with_reducible refine wpQuiet_step (fun K hK => ?_); go_simp; (try rw [if_neg (by decide)]); with_reducible refine hK _ ?_; clear hK K)
  (with_reducible refine wpQuiet_step (fun K hK => ?_); go_simp; (try rw [if_neg (by decide)]); with_reducible refine hK _ ?_; clear hK K)
  (with_reducible refine wpQuiet_step (fun K hK => ?_); go_simp; (try rw [if_neg (by decide)]); with_reducible refine hK _ ?_; clear hK K)
  (with_reducible refine wpQuiet_step (fun K hK => ?_); go_simp; (try rw [if_neg (by decide)]); with_reducible refine hK _ ?_; clear hK K)
  (with_reducible refine wpQuiet_step (fun K hK => ?_); go_simp; apply Exists.intro; with_reducible refine ⟨fun _ => ?_, hK _ ?_⟩; (exact Calls.regrown_of (OS.out _)); clear hK K)
  (with_reducible refine wpQuiet_step (fun K hK => ?_); go_simp; (try rw [if_neg (by decide)]); with_reducible refine hK _ ?_; clear hK K)
  (with_reducible refine wpQuiet_step (fun K hK => ?_); go_simp; (try rw [if_neg (by decide)]); with_reducible refine hK _ ?_; clear hK K)
  (with_reducible refine wpQuiet_step (fun K hK => ?_); go_simp; (try rw [if_neg (by decide)]); with_reducible refine hK _ ?_; clear hK K)
  (with_reducible refine wpQuiet_step (fun K hK => ?_); go_simp; (try rw [if_neg (by decide)]); with_reducible refine hK _ ?_; clear hK K)
  (with_reducible refine wpQuiet_step (fun K hK => ?_); go_simp; apply Exists.intro; with_reducible refine ⟨fun _ => ?_, hK _ ?_⟩; (exact Calls.regrown_of (AI.out _)); clear hK K)
  (with_reducible refine wpQuiet_step (fun K hK => ?_); go_simp; (try rw [if_neg (by decide)]); with_reducible refine hK _ ?_; clear hK K)
  (with_reducible refine wpQuiet_step (fun K hK => ?_); go_simp; apply Exists.intro; with_reducible refine ⟨fun _ => ?_, hK _ ?_⟩; (exact Calls.regrown_of (AS.out _)); clear hK K)
  (with_reducible refine wpQuiet_step (fun K hK => ?_); go_simp; (try rw [if_neg (by decide)]); with_reducible refine hK _ ?_; clear hK K)
  (with_reducible refine wpQuiet_step (fun K hK => ?_); go_simp; (try rw [if_neg (by decide)]); with_reducible refine hK _ ?_; clear hK K)
  (with_reducible refine wpQuiet_step (fun K hK => ?_); go_simp; (try rw [if_neg (by decide)]); with_reducible refine hK _ ?_; clear hK K)
  (with_reducible refine wpQuiet_step (fun K hK => ?_); go_simp; (try rw [if_neg (by decide)]); with_reducible refine hK _ ?_; clear hK K)
  (with_reducible refine wpQuiet_step (fun K hK => ?_); go_simp; apply Exists.intro; with_reducible refine ⟨fun _ => ?_, hK _ ?_⟩; (exact Calls.regrown_of (TI.out _)); clear hK K)
  (with_reducible refine wpQuiet_step (fun K hK => ?_); go_simp; (try rw [if_neg (by decide)]); with_reducible refine hK _ ?_; clear hK K)
  (with_reducible refine wpQuiet_step (fun K hK => ?_); go_simp; apply Exists.intro; with_reducible refine ⟨fun _ => ?_, hK _ ?_⟩; (exact Calls.regrown_of (TS.out _)); clear hK K)
  (with_reducible refine wpQuiet_step (fun K hK => ?_); go_simp; (try rw [if_neg (by decide)]); with_reducible refine hK _ ?_; clear hK K)
  (with_reducible refine wpQuiet_step (fun K hK => ?_); go_simp; (try rw [if_neg (by decide)]); with_reducible refine hK _ ?_; clear hK K)
  (with_reducible refine wpQuiet_step (fun K hK => ?_); go_simp; (try rw [if_neg (by decide)]); with_reducible refine hK _ ?_; clear hK K)
  (with_reducible refine wpQuiet_step (fun K hK => ?_); go_simp; (try rw [if_neg (by decide)]); with_reducible refine hK _ ?_; clear hK K)
  (with_reducible refine wpQuiet_step (fun K hK => ?_); go_simp; apply Exists.intro; with_reducible refine ⟨fun _ => ?_, hK _ ?_⟩; (exact Calls.regrown_of (PI.out _)); clear hK K)
  (with_reducible refine wpQuiet_step (fun K hK => ?_); go_simp; (try rw [if_neg (by decide)]); with_reducible refine hK _ ?_; clear hK K)
  (with_reducible refine wpQuiet_step (fun K hK => ?_); go_simp; apply Exists.intro; with_reducible refine ⟨fun _ => ?_, hK _ ?_⟩; (exact Calls.regrown_of (PS.out _)); clear hK K)
  (with_reducible refine wpQuiet_step (fun K hK => ?_); go_simp; (try rw [if_neg (by decide)]); with_reducible refine hK _ ?_; clear hK K)
  (with_reducible refine wpQuiet_step (fun K hK => ?_); go_simp; (try rw [if_neg (by decide)]); with_reducible refine hK _ ?_; clear hK K)
  (with_reducible refine wpQuiet_step (fun K hK => ?_); go_simp; (try rw [if_neg (by decide)]); with_reducible refine hK _ ?_; clear hK K)
  with_reducible refine wpQuiet_nil ?_
  rintro w2 hb2
  have F2 := Lib.hid (FI.out.step hb2)
  have Y2 := Lib.hid (keep YI.out hb2)
  clear q0 q1 q2 q3 q4 q5 q6 q7 KS KN AI AS TI TS PI PS FI YI hb2
  refine wpAny_take (i := 58) (v := ?_) rfl (by kernel_rfl) (by kernel_rfl) (by kernel_rfl) (fun _ _ _ h => h) (Or.inl ⟨by rfl, ?_⟩) ?_
  rotate_left
  · intro w; go_simp; first | done | with_reducible rfl
  refine wpAny_take (i := 60) (v := ?_) rfl (by kernel_rfl) (by kernel_rfl) (by kernel_rfl) (fun _ _ _ h => h) (Or.inl ⟨by rfl, ?_⟩) ?_
  rotate_left
  · intro w; go_simp; first | done | with_reducible rfl
  refine wpAny_ready (rs := [59]) (by kernel_rfl) (by simp) ?_
  refine AllReady.cons rfl (fun K hK => ?_) AllReady.nil
  go_simp
  refine (addt.implAtomsOf_calls ⟨t.toArray⟩ (szt t ht) _).mono ?_
  rintro e w3 ⟨v3, rfl, hb3, hv3⟩
  refine hK _ _ ?_
  clear hK K
  refine wpAny_ready (rs := [61]) (by kernel_rfl) (by simp) ?_
  refine AllReady.cons rfl (fun K hK => ?_) AllReady.nil
  go_simp
  refine (atl.specAtomsOf_calls ⟨t.toArray⟩ (szt t ht) _).mono ?_
  rintro e w4 ⟨v4, rfl, hb4, hv4⟩
  refine hK _ _ ?_
  clear hK K
  refine wpAny_ready (rs := [62]) (by kernel_rfl) (by simp) ?_
  refine AllReady.cons rfl (fun K hK => ?_) AllReady.nil
  go_simp
  refine (lwt.lwTexts_calls _ _ _ _ (Rds.below hv3.rds hb4) hv4 (Nat.le_trans (atl.atomsR_len t) (by omega))).mono ?_
  rintro e w5 ⟨rfl, hs5⟩
  refine hK _ _ ?_
  clear hK K
  have F5 := Lib.hid (((F2.out.step hb3).step hb4).step (hs5.below _))
  have Y5 := Lib.hid (keep (keep (keep Y2.out hb3) hb4) (hs5.below _))
  clear F2 Y2 hb3 hb4 hs5 hv3 hv4
  refine wpAny_take (i := 63) (v := ?_) rfl (by kernel_rfl) (by kernel_rfl) (by kernel_rfl) (fun _ _ _ h => h) (Or.inl ⟨by rfl, ?_⟩) ?_
  rotate_left
  · intro w; go_simp; first | done | with_reducible rfl
  refine wpAny_take (i := 64) (v := ?_) rfl (by kernel_rfl) (by kernel_rfl) (by kernel_rfl) (fun _ _ _ h => h) (Or.inl ⟨by rfl, ?_⟩) ?_
  rotate_left
  · intro w; go_simp; first | done | with_reducible rfl
  refine wpAny_done (by kernel_rfl) ?_ _
  obtain ⟨x0, x1, _, _, xl⟩ := two F5.out.x
  clear xl nl ml yl
  go_simp
  go_upto_region 13 with fail
  go_cut [129] (fun s129 wx => ∃ b : Bool, s129 = .bool b ∧ (b = true → mcode = 0 ∧ (!op == [100, 104]) = true) ∧ wx = w5)
  case first =>
    by_cases hm0 : mcode = 0
    · cases hq : (!op == [100, 104]) with
      | true =>
        go_wp2_with fail
        go_meet
        exact ⟨true, rfl, fun _ => ⟨hm0, hq⟩, rfl⟩
      | false =>
        go_wp2_with fail
        go_meet
        exact ⟨false, rfl, fun h => (by cases h), rfl⟩
    · go_wp2_with fail
      go_meet
      exact ⟨false, rfl, fun h => (by cases h), rfl⟩
  case rest =>
  obtain ⟨b, rfl, hb, rfl⟩ := hcut
  have HBB := Lib.hid hb
  clear hb
  go_upto_if 129 with (fail)
  go_cut [] (fun wx => Below w.heap.size w wx)
  case first =>
    cases b with
    | false =>
      go_wp2_with fail
      go_meet
      exact F5.out.bel
    | true =>
      as_aux_lemma =>
      obtain ⟨hm0, hq⟩ := HBB.out rfl
      subst hm0
      have hop2 : op ≠ oDh := fun e => by rw [e] at hq; exact absurd hq (by decide)
      obtain ⟨T, hT, hTo, hTa⟩ := trp.made_back HR.out
      have hsl : sortedR op ls = ls := by unfold sortedR; rw [if_neg hop2]
      rw [hsl] at hTa
      have hml := (term_some.1 hT).1
      have cn := fun w => ndo.implNodeOf_calls ⟨mt.toArray⟩ (szt mt hml) w
      change ∀ w, Calls _ _ _ _ (fun e w' => ∃ v, e = .returned (.agg #[str (ndo.opR mt), v]) ∧ _ ∧ Wrs w' _ v (ndo.argsR mt)) at cn
      have e1 : ndo.opR mt = op := by rw [opR_some hT]; exact hTo
      have e2 : ndo.argsR mt = ls := by rw [argsR_some hT]; exact hTa
      rw [e1, e2] at cn
      have ct := fun w => grd.implTermRight_calls ⟨mt.toArray⟩ (szt mt hml) w
      change ∀ w, Calls _ _ _ _ (fun e w' => e = .returned (.bool (term mt).isSome) ∧ Below w.heap.size w w') at ct
      rw [hT] at ct
      have CN := Lib.hid cn
      have CT := Lib.hid ct
      clear cn ct e1 e2 hsl hTa hTo hT hop2 hml
      go_wp2_with fail
      refine (CN.out _).mono ?_
      rintro e w6 ⟨v6, rfl, hb6, hw6⟩
      obtain ⟨a6, c6, rfl⟩ := rds_len hw6.rds
      have F6 := Lib.hid ((F5.out.step hb6).alloc (.cells #[.string ⟨op.toArray⟩, .slice a6 ls.length c6] 31))
      have M6 := Lib.hid (heap_alloc_new w6 (.cells #[.string ⟨op.toArray⟩, .slice a6 ls.length c6] 31))
      have R6 := Lib.hid (Rds.below hw6.rds ((Below.refl w6.heap.size w6).alloc (Nat.le_refl _) (.cells #[.string ⟨op.toArray⟩, .slice a6 ls.length c6] 31)))
      clear F5 Y5 x0 x1 hb6 hw6 CN
      obtain ⟨x0, x1, _, _, _⟩ := two F6.out.x
      obtain ⟨m0, m1, _, _, _⟩ := two M6.out
      go_wp2_with fail
      refine (lwt.lwTexts_calls _ _ ls _ R6.out F6.out.ra (by omega)).mono ?_
      rintro e w7 ⟨rfl, hs7⟩
      have F7 := Lib.hid (F6.out.step (hs7.below _))
      clear F6 M6 R6 x0 x1 m0 m1 hs7
      obtain ⟨x0, x1, _, _, _⟩ := two F7.out.x
      go_wp2_with fail
      refine (CT.out _).mono ?_
      rintro e w8 ⟨rfl, hb8⟩
      have F8 := Lib.hid (F7.out.step hb8)
      clear F7 hb8 x0 x1 CT
      go_wp2_with fail
      go_meet
      exact F8.out.bel
  case rest =>
  as_aux_lemma =>
  have B5 := Lib.hid hcut
  clear hcut
  go_wp2_with fail
  refine (DI.out _).mono ?_
  rintro e w9 ⟨rfl, hb9⟩
  have B9 := Lib.hid ((B5.out.trans (hb9.mono B5.out.size)).alloc (B5.out.trans (hb9.mono B5.out.size)).size (.cells #[.string ⟨dr.toArray⟩, .int .i64 dc] 27))
  have D9 := Lib.hid (heap_alloc_new w9 (.cells #[.string ⟨dr.toArray⟩, .int .i64 dc] 27))
  clear B5 hb9
  obtain ⟨d0, d1, _, _, _⟩ := two D9.out
  go_upto_if 155 with (fail)
  go_cut [] (fun wx => Below w.heap.size w wx)
  case first =>
    as_aux_lemma =>
    by_cases hd0 : dc = 0
    rotate_left
    · go_wp2_with fail
      go_meet
      exact B9.out
    subst hd0
    obtain ⟨y, hyT, hyD⟩ := trp.dh_round HD.out
    have hsA : atomR s = true := by cases HD.out with | pub _ _ h _ _ => exact h
    obtain ⟨hlm, hlt⟩ := trp.lock_of hsA
    have hpl := (term_some.1 hyT).1
    have hyl : y.length ≤ 8 := (atomR_len (show atomR y = true from (term_some.1 hyT).2.1)).2
    have hll := (term_some.1 hlt).1
    have cn := fun w => ndo.specNodeOf_calls ⟨p.toArray⟩ (szt p hpl) w
    change ∀ w, Calls _ _ _ _ (fun e w' => ∃ v, e = .returned (.agg #[str (ndo.opR p), v]) ∧ _ ∧ Rds w' v (ndo.argsR p)) at cn
    have e1 : ndo.opR p = oPub := by rw [opR_some hyT]; rfl
    have e2 : ndo.argsR p = [y] := by rw [argsR_some hyT]; rfl
    rw [e1, e2] at cn
    have cm := fun ad (w : World) h => smk.specMake_calls oPub ad 1 1 [s] w rfl h (by decide) (by simp) (by simp; omega)
    rw [hlm] at cm
    have cd := dhs.implDh_calls y (say oPub [s]) dr 0 hyD (by omega) (by omega)
    obtain ⟨lk, hlk⟩ : ∃ x, x = say oPub [s] := ⟨_, rfl⟩
    rw [← hlk] at cm cd
    unfold sop.outVal at cm cd
    have n1 := dhs.node_args oPub
    have t0 := tout0
    simp only [oPub] at cn n1
    have CN := Lib.hid cn
    have CM := Lib.hid cm
    have CD := Lib.hid cd
    clear cn cm cd hlk hll hlt hlm hsA hyD hyT e1 e2 hpl hyl
    go_wp2_with fail
    refine (CN.out _).mono ?_
    rintro e w10 ⟨v10, rfl, hb10, hr10⟩
    obtain ⟨g, off, cap, rfl, hg, hc⟩ : ∃ g off cap, v10 = .slice (some ⟨g, off, none⟩) 1 cap ∧ g < w10.heap.size ∧ ∀ j l, [y][j]? = some l → w10.cell? ⟨g, off + j, none⟩ = some (str l) := by
      rcases hr10 with ⟨h, _⟩ | h
      · cases h
      · exact h
    have k0 : w10.cell? ⟨g, off, none⟩ = some (str y) := by simpa using hc 0 y rfl
    have B10 := Lib.hid (B9.out.trans (hb10.mono B9.out.size))
    have D10 := Lib.hid (keep D9.out hb10)
    clear hc hb10 hr10 d0 d1 B9 D9
    go_upto_region 20 with fail
    refine wp_region_any (by kernel_rfl) ?_
    change wpAny _ _ _ _ _ _ _ (World.drew _)
    obtain ⟨w11, hw11⟩ : ∃ x, x = World.drew w10 := ⟨_, rfl⟩
    have B11 := Lib.hid (show Below w.heap.size w w11 by rw [hw11]; exact B10.out.trans ⟨rfl, rfl, rfl, Nat.le_refl _, fun _ _ => rfl⟩)
    have D11 := Lib.hid (show w11.heap[w9.heap.size]? = some (.cells #[.string ⟨dr.toArray⟩, .int .i64 0] 27 (0, 0)) by rw [hw11]; exact D10.out)
    rw [← hw11]
    clear hw11 B10 D10 k0
    refine wpAny_take (i := 0) (v := ?_) rfl (by kernel_rfl) (by kernel_rfl) (by kernel_rfl) (fun _ _ _ h => h) (Or.inl ⟨by rfl, ?_⟩) ?_
    rotate_left
    · intro w; go_simp; first | done | with_reducible rfl
    refine wpAny_take (i := 1) (v := ?_) rfl (by kernel_rfl) (by kernel_rfl) (by kernel_rfl) (fun _ _ _ h => h) (Or.inl ⟨by rfl, ?_⟩) ?_
    rotate_left
    · intro w; go_simp; first | done | with_reducible rfl
    refine wpAny_ready (rs := [2, 6]) (by kernel_rfl) (by simp) ?_
    refine AllReady.cons rfl (fun K hK => ?_) (AllReady.cons rfl (fun K hK => ?_) AllReady.nil)
    · go_simp
      refine hK _ _ ?_
      clear hK K
      have B12 := Lib.hid (B11.out.alloc B11.out.size (.cells #[str s] 9))
      have D12 := Lib.hid (keep D11.out ((Below.refl w11.heap.size w11).alloc (Nat.le_refl _) (.cells #[str s] 9)))
      have RSL := Lib.hid (rds_one w11 s)
      obtain ⟨w12, hw12⟩ : ∃ x, x = w11.alloc (.cells #[str s] 9) := ⟨_, rfl⟩
      rw [← hw12] at B12 D12 RSL ⊢
      clear hw12 B11 D11
      refine wpAny_ready (rs := [3, 6]) (by kernel_rfl) (by simp) ?_
      refine AllReady.cons rfl (fun K hK => ?_) (AllReady.cons rfl (fun K hK => ?_) AllReady.nil)
      · go_simp
        refine (CM.out _ _ RSL.out).mono ?_
        rintro e w13 ⟨rfl, hb⟩
        refine hK _ _ ?_
        clear hK K
        have B13 := Lib.hid (B12.out.trans (hb.mono B12.out.size))
        have D13 := Lib.hid (keep D12.out hb)
        clear hb B12 D12
        refine wpAny_take (i := 4) (v := ?_) rfl (by kernel_rfl) (by kernel_rfl) (by kernel_rfl) (fun _ _ _ h => h) (Or.inl ⟨by rfl, ?_⟩) ?_
        rotate_left
        · intro w; go_simp; first | done | with_reducible rfl
        refine wpAny_ready (rs := [5, 6]) (by kernel_rfl) (by simp) ?_
        refine AllReady.cons rfl (fun K hK => ?_) (AllReady.cons rfl (fun K hK => ?_) AllReady.nil)
        · go_simp
          refine (CD.out _).mono ?_
          rintro e w14 ⟨rfl, hb⟩
          refine hK _ _ ?_
          clear hK K
          have B14 := Lib.hid (B13.out.trans (hb.mono B13.out.size))
          have D14 := Lib.hid (keep D13.out hb)
          clear hb B13 D13
          refine wpAny_ready (rs := [6]) (by kernel_rfl) (by simp) ?_
          refine AllReady.cons rfl (fun K hK => ?_) AllReady.nil
          · obtain ⟨d0, d1, _, _, _⟩ := two D14.out
            go_simp
            refine hK _ _ ?_
            clear hK K d0 d1
            refine wpAny_take (i := 7) (v := ?_) rfl (by kernel_rfl) (by kernel_rfl) (by kernel_rfl) (fun _ _ _ h => h) (Or.inl ⟨by rfl, ?_⟩) ?_
            rotate_left
            · intro w; go_simp; first | done | with_reducible rfl
            refine wpAny_done (by kernel_rfl) ?_ _
            go_simp
            go_wp2_with fail
            go_meet
            exact B14.out
        · obtain ⟨d0, d1, _, _, _⟩ := two D13.out
          go_simp
          refine hK _ _ ?_
          clear hK K d0 d1
          refine wpAny_ready (rs := [5]) (by kernel_rfl) (by simp) ?_
          refine AllReady.cons rfl (fun K hK => ?_) AllReady.nil
          · go_simp
            refine (CD.out _).mono ?_
            rintro e w15 ⟨rfl, hb⟩
            refine hK _ _ ?_
            clear hK K
            have B15 := Lib.hid (B13.out.trans (hb.mono B13.out.size))
            have D15 := Lib.hid (keep D13.out hb)
            clear hb B13 D13
            refine wpAny_take (i := 7) (v := ?_) rfl (by kernel_rfl) (by kernel_rfl) (by kernel_rfl) (fun _ _ _ h => h) (Or.inl ⟨by rfl, ?_⟩) ?_
            rotate_left
            · intro w; go_simp; first | done | with_reducible rfl
            refine wpAny_done (by kernel_rfl) ?_ _
            go_simp
            go_wp2_with fail
            go_meet
            exact B15.out
      · obtain ⟨d0, d1, _, _, _⟩ := two D12.out
        go_simp
        refine hK _ _ ?_
        clear hK K d0 d1
        refine wpAny_ready (rs := [3]) (by kernel_rfl) (by simp) ?_
        refine AllReady.cons rfl (fun K hK => ?_) AllReady.nil
        · go_simp
          refine (CM.out _ _ RSL.out).mono ?_
          rintro e w14 ⟨rfl, hb⟩
          refine hK _ _ ?_
          clear hK K
          have B14 := Lib.hid (B12.out.trans (hb.mono B12.out.size))
          have D14 := Lib.hid (keep D12.out hb)
          clear hb B12 D12
          refine wpAny_take (i := 4) (v := ?_) rfl (by kernel_rfl) (by kernel_rfl) (by kernel_rfl) (fun _ _ _ h => h) (Or.inl ⟨by rfl, ?_⟩) ?_
          rotate_left
          · intro w; go_simp; first | done | with_reducible rfl
          refine wpAny_ready (rs := [5]) (by kernel_rfl) (by simp) ?_
          refine AllReady.cons rfl (fun K hK => ?_) AllReady.nil
          · go_simp
            refine (CD.out _).mono ?_
            rintro e w15 ⟨rfl, hb⟩
            refine hK _ _ ?_
            clear hK K
            have B15 := Lib.hid (B14.out.trans (hb.mono B14.out.size))
            have D15 := Lib.hid (keep D14.out hb)
            clear hb B14 D14
            refine wpAny_take (i := 7) (v := ?_) rfl (by kernel_rfl) (by kernel_rfl) (by kernel_rfl) (fun _ _ _ h => h) (Or.inl ⟨by rfl, ?_⟩) ?_
            rotate_left
            · intro w; go_simp; first | done | with_reducible rfl
            refine wpAny_done (by kernel_rfl) ?_ _
            go_simp
            go_wp2_with fail
            go_meet
            exact B15.out
    · obtain ⟨d0, d1, _, _, _⟩ := two D11.out
      go_simp
      refine hK _ _ ?_
      clear hK K d0 d1
      refine wpAny_ready (rs := [2]) (by kernel_rfl) (by simp) ?_
      refine AllReady.cons rfl (fun K hK => ?_) AllReady.nil
      · go_simp
        refine hK _ _ ?_
        clear hK K
        have B13 := Lib.hid (B11.out.alloc B11.out.size (.cells #[str s] 9))
        have D13 := Lib.hid (keep D11.out ((Below.refl w11.heap.size w11).alloc (Nat.le_refl _) (.cells #[str s] 9)))
        have RSL := Lib.hid (rds_one w11 s)
        obtain ⟨w13, hw13⟩ : ∃ x, x = w11.alloc (.cells #[str s] 9) := ⟨_, rfl⟩
        rw [← hw13] at B13 D13 RSL ⊢
        clear hw13 B11 D11
        refine wpAny_ready (rs := [3]) (by kernel_rfl) (by simp) ?_
        refine AllReady.cons rfl (fun K hK => ?_) AllReady.nil
        · go_simp
          refine (CM.out _ _ RSL.out).mono ?_
          rintro e w14 ⟨rfl, hb⟩
          refine hK _ _ ?_
          clear hK K
          have B14 := Lib.hid (B13.out.trans (hb.mono B13.out.size))
          have D14 := Lib.hid (keep D13.out hb)
          clear hb B13 D13
          refine wpAny_take (i := 4) (v := ?_) rfl (by kernel_rfl) (by kernel_rfl) (by kernel_rfl) (fun _ _ _ h => h) (Or.inl ⟨by rfl, ?_⟩) ?_
          rotate_left
          · intro w; go_simp; first | done | with_reducible rfl
          refine wpAny_ready (rs := [5]) (by kernel_rfl) (by simp) ?_
          refine AllReady.cons rfl (fun K hK => ?_) AllReady.nil
          · go_simp
            refine (CD.out _).mono ?_
            rintro e w15 ⟨rfl, hb⟩
            refine hK _ _ ?_
            clear hK K
            have B15 := Lib.hid (B14.out.trans (hb.mono B14.out.size))
            have D15 := Lib.hid (keep D14.out hb)
            clear hb B14 D14
            refine wpAny_take (i := 7) (v := ?_) rfl (by kernel_rfl) (by kernel_rfl) (by kernel_rfl) (fun _ _ _ h => h) (Or.inl ⟨by rfl, ?_⟩) ?_
            rotate_left
            · intro w; go_simp; first | done | with_reducible rfl
            refine wpAny_done (by kernel_rfl) ?_ _
            go_simp
            go_wp2_with fail
            go_meet
            exact B15.out
  case rest =>
  as_aux_lemma =>
  have B20 := Lib.hid hcut
  clear hcut
  have t0 := tout0
  have t1 := tout1
  have tk := fun w => srt.specTermRight_calls ⟨key.toArray⟩ (szt key hkey) w
  have ta := fun w => srt.specTermRight_calls ⟨a.toArray⟩ (szt a ha) w
  change ∀ w, Calls _ _ _ _ (fun e w' => e = .returned (.bool (term key).isSome) ∧ Below w.heap.size w w') at tk
  change ∀ w, Calls _ _ _ _ (fun e w' => e = .returned (.bool (term a).isSome) ∧ Below w.heap.size w w') at ta
  rcases hkT : term key with _ | KT
  · rw [hkT] at tk
    have TK := Lib.hid tk
    clear tk ta hkT
    go_wp2_with fail
    refine (TK.out _).mono ?_
    rintro e w21 ⟨rfl, hb21⟩
    have B21 := Lib.hid (B20.out.trans (hb21.mono B20.out.size))
    clear hb21
    go_wp2_with fail
    go_ret
    exact ⟨rfl, B21.out⟩
  rw [hkT] at tk
  rcases haT : term a with _ | AT
  · rw [haT] at ta
    have TK := Lib.hid tk
    have TA := Lib.hid ta
    clear tk ta hkT haT
    go_wp2_with fail
    refine (TK.out _).mono ?_
    rintro e w21 ⟨rfl, hb21⟩
    have B21 := Lib.hid (B20.out.trans (hb21.mono B20.out.size))
    clear hb21
    go_wp2_with fail
    refine (TA.out _).mono ?_
    rintro e w22 ⟨rfl, hb22⟩
    have B22 := Lib.hid (B21.out.trans (hb22.mono B21.out.size))
    clear hb22
    go_wp2_with fail
    go_ret
    exact ⟨rfl, B22.out⟩
  rw [haT] at ta
  have cm := fun ad (w : World) h => smk.specMake_calls oShut ad 2 2 [key, a] w rfl h (by decide) (by simp) (by simp; omega)
  rcases hM : makeR oShut [key, a] with ⟨ct, cc⟩
  rw [hM] at cm
  unfold sop.outVal at cm
  have TK := Lib.hid tk
  have TA := Lib.hid ta
  have CM := Lib.hid cm
  have HM := Lib.hid hM
  clear tk ta hkT haT cm hM
  go_wp2_with fail
  refine (TK.out _).mono ?_
  rintro e w21 ⟨rfl, hb21⟩
  have B21 := Lib.hid (B20.out.trans (hb21.mono B20.out.size))
  clear hb21
  go_wp2_with fail
  refine (TA.out _).mono ?_
  rintro e w22 ⟨rfl, hb22⟩
  have B22 := Lib.hid (B21.out.trans (hb22.mono B21.out.size))
  clear hb22
  go_wp2_with fail
  refine (CM.out _ _ (dhs.rds_two _ _ key a (by simp))).mono ?_
  rintro e w23 ⟨rfl, hb23⟩
  have B23 := Lib.hid ((B22.out.alloc B22.out.size (.cells #[str key, str a] 9)).trans (hb23.mono (B22.out.alloc B22.out.size (.cells #[str key, str a] 9)).size))
  clear hb23
  obtain ⟨w24, hw24⟩ : ∃ x, x = w23.alloc (.cells #[.string ⟨ct.toArray⟩, .int .i64 cc] 27) := ⟨_, rfl⟩
  have B24 := Lib.hid (show Below w.heap.size w w24 by rw [hw24]; exact B23.out.alloc B23.out.size _)
  have X24 := Lib.hid (show w24.heap[w23.heap.size]? = some (.cells #[.string ⟨ct.toArray⟩, .int .i64 cc] 27 (0, 0)) by rw [hw24]; exact heap_alloc_new w23 _)
  go_upto_region 25 with fail
  rw [← hw24]
  clear hw24 B23
  obtain ⟨c0, c1, _, _, _⟩ := two X24.out
  have q0 := fun (d : Nat) (os : Array Obj) => cell_regrown (d := d) (os := os) c0
  have q1 := fun (d : Nat) (os : Array Obj) => cell_regrown (d := d) (os := os) c1
  clear c0 c1
  by_cases hc0 : cc = 0
  rotate_left
  · refine wp_region_quiet_below (by kernel_rfl) (by kernel_rfl) ?_
    iterate 26 (with_reducible refine wpQuiet_step (fun K hK => ?_); go_simp; first | (rw [if_neg (by decide)]; with_reducible refine hK _ ?_; clear hK K) | (with_reducible refine hK _ ?_; clear hK K))
    with_reducible refine wpQuiet_nil ?_
    rintro w2 ⟨⟨dq, osq⟩, hw2⟩
    have HB2 := Lib.hid (B24.out.trans ((show Below w24.heap.size w24 w2 by rw [hw2]; exact below_regrown _ _ _).mono B24.out.size))
    clear hw2 q0 q1
    go_wp2_with fail
    go_ret
    exact ⟨rfl, HB2.out⟩
  subst hc0
  have hO := trp.shut_back HM.out
  obtain ⟨_, hTM, _, _⟩ := trp.made_back HM.out
  have hcl := (term_some.1 hTM).1
  have o1 := iop.implOpen_calls _ _ _ _ hO (by omega) (by omega)
  obtain ⟨or2, oc2, hO2⟩ := sop.open_total a ct
  have o2 := iop.implOpen_calls _ _ or2 oc2 hO2 (by omega) (by omega)
  have o3 := sop.open_calls _ _ or2 oc2 hO2 (by omega) (by omega)
  unfold sop.outVal at o1 o2 o3
  have O1 := Lib.hid o1
  have O2 := Lib.hid o2
  have O3 := Lib.hid o3
  clear o1 o2 o3 hO hO2 hTM hcl
  as_aux_lemma =>
  refine wp_region_quiet_below (by kernel_rfl) (by kernel_rfl) ?_
  (with_reducible refine wpQuiet_step (fun K hK => ?_); go_simp; first | (rw [if_neg (by decide)]; with_reducible refine hK _ ?_; clear hK K) | (with_reducible refine hK _ ?_; clear hK K))
  (with_reducible refine wpQuiet_step (fun K hK => ?_); go_simp; first | (rw [if_neg (by decide)]; with_reducible refine hK _ ?_; clear hK K) | (with_reducible refine hK _ ?_; clear hK K))
  (with_reducible refine wpQuiet_step (fun K hK => ?_); go_simp; first | (rw [if_neg (by decide)]; with_reducible refine hK _ ?_; clear hK K) | (with_reducible refine hK _ ?_; clear hK K))
  (with_reducible refine wpQuiet_step (fun K hK => ?_); go_simp; first | (rw [if_neg (by decide)]; with_reducible refine hK _ ?_; clear hK K) | (with_reducible refine hK _ ?_; clear hK K))
  (with_reducible refine wpQuiet_step (fun K hK => ?_); go_simp; first | (rw [if_neg (by decide)]; with_reducible refine hK _ ?_; clear hK K) | (with_reducible refine hK _ ?_; clear hK K))
  (with_reducible refine wpQuiet_step (fun K hK => ?_); go_simp; first | (rw [if_neg (by decide)]; with_reducible refine hK _ ?_; clear hK K) | (with_reducible refine hK _ ?_; clear hK K))
  (with_reducible refine wpQuiet_step (fun K hK => ?_); go_simp; first | (rw [if_neg (by decide)]; with_reducible refine hK _ ?_; clear hK K) | (with_reducible refine hK _ ?_; clear hK K))
  (with_reducible refine wpQuiet_step (fun K hK => ?_); go_simp; apply Exists.intro; with_reducible refine ⟨fun _ => ?_, hK _ ?_⟩; (exact Calls.regrown_of (O1.out _)); clear hK K)
  (with_reducible refine wpQuiet_step (fun K hK => ?_); go_simp; first | (rw [if_neg (by decide)]; with_reducible refine hK _ ?_; clear hK K) | (with_reducible refine hK _ ?_; clear hK K))
  (with_reducible refine wpQuiet_step (fun K hK => ?_); go_simp; first | (rw [if_neg (by decide)]; with_reducible refine hK _ ?_; clear hK K) | (with_reducible refine hK _ ?_; clear hK K))
  (with_reducible refine wpQuiet_step (fun K hK => ?_); go_simp; first | (rw [if_neg (by decide)]; with_reducible refine hK _ ?_; clear hK K) | (with_reducible refine hK _ ?_; clear hK K))
  (with_reducible refine wpQuiet_step (fun K hK => ?_); go_simp; first | (rw [if_neg (by decide)]; with_reducible refine hK _ ?_; clear hK K) | (with_reducible refine hK _ ?_; clear hK K))
  (with_reducible refine wpQuiet_step (fun K hK => ?_); go_simp; first | (rw [if_neg (by decide)]; with_reducible refine hK _ ?_; clear hK K) | (with_reducible refine hK _ ?_; clear hK K))
  (with_reducible refine wpQuiet_step (fun K hK => ?_); go_simp; first | (rw [if_neg (by decide)]; with_reducible refine hK _ ?_; clear hK K) | (with_reducible refine hK _ ?_; clear hK K))
  (with_reducible refine wpQuiet_step (fun K hK => ?_); go_simp; first | (rw [if_neg (by decide)]; with_reducible refine hK _ ?_; clear hK K) | (with_reducible refine hK _ ?_; clear hK K))
  (with_reducible refine wpQuiet_step (fun K hK => ?_); go_simp; apply Exists.intro; with_reducible refine ⟨fun _ => ?_, hK _ ?_⟩; (exact Calls.regrown_of (O2.out _)); clear hK K)
  (with_reducible refine wpQuiet_step (fun K hK => ?_); go_simp; first | (rw [if_neg (by decide)]; with_reducible refine hK _ ?_; clear hK K) | (with_reducible refine hK _ ?_; clear hK K))
  (with_reducible refine wpQuiet_step (fun K hK => ?_); go_simp; first | (rw [if_neg (by decide)]; with_reducible refine hK _ ?_; clear hK K) | (with_reducible refine hK _ ?_; clear hK K))
  (with_reducible refine wpQuiet_step (fun K hK => ?_); go_simp; first | (rw [if_neg (by decide)]; with_reducible refine hK _ ?_; clear hK K) | (with_reducible refine hK _ ?_; clear hK K))
  (with_reducible refine wpQuiet_step (fun K hK => ?_); go_simp; first | (rw [if_neg (by decide)]; with_reducible refine hK _ ?_; clear hK K) | (with_reducible refine hK _ ?_; clear hK K))
  (with_reducible refine wpQuiet_step (fun K hK => ?_); go_simp; apply Exists.intro; with_reducible refine ⟨fun _ => ?_, hK _ ?_⟩; (exact Calls.regrown_of (O3.out _)); clear hK K)
  (with_reducible refine wpQuiet_step (fun K hK => ?_); go_simp; first | (rw [if_neg (by decide)]; with_reducible refine hK _ ?_; clear hK K) | (with_reducible refine hK _ ?_; clear hK K))
  (with_reducible refine wpQuiet_step (fun K hK => ?_); go_simp; first | (rw [if_neg (by decide)]; with_reducible refine hK _ ?_; clear hK K) | (with_reducible refine hK _ ?_; clear hK K))
  (with_reducible refine wpQuiet_step (fun K hK => ?_); go_simp; first | (rw [if_neg (by decide)]; with_reducible refine hK _ ?_; clear hK K) | (with_reducible refine hK _ ?_; clear hK K))
  (with_reducible refine wpQuiet_step (fun K hK => ?_); go_simp; first | (rw [if_neg (by decide)]; with_reducible refine hK _ ?_; clear hK K) | (with_reducible refine hK _ ?_; clear hK K))
  (with_reducible refine wpQuiet_step (fun K hK => ?_); go_simp; first | (rw [if_neg (by decide)]; with_reducible refine hK _ ?_; clear hK K) | (with_reducible refine hK _ ?_; clear hK K))
  with_reducible refine wpQuiet_nil ?_
  rintro w2 ⟨⟨dq, osq⟩, hw2⟩
  have HB2 := Lib.hid (B24.out.trans ((show Below w24.heap.size w24 w2 by rw [hw2]; exact below_regrown _ _ _).mono B24.out.size))
  clear hw2 q0 q1
  go_wp2_with fail
  go_ret
  exact ⟨rfl, HB2.out⟩
end Go.Proofs.YtnlinlodgpbnlaaGreat.tlw
