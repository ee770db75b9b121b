/- Several small texts, one behind the other. -/
import Derived.Test.YtdikjmhnjlalbabGreatQa
import Derived.Test.YtdikjmhnjlalbabGreatChecked
import Derived.WalkKit
import Derived.BigGuardPart
import Derived.Lib.Hide
import Derived.Laws.BytesArg
import Derived.Laws.BitsLemmas
import Derived.Laws.Bits64
import Derived.Below
import Derived.BigQuiet
import Derived.Deep.QuietTactic
import Derived.Outline
import Derived.WalkLawsBesides

/- What FnKnow leans on, as plain mathematics: what is taken is taken no further; who knows more makes no less; what can be made adds nothing to what can be made. -/
namespace Go.Proofs.YtdikjmhnjlalbabGreat.knm
open Go Go.Proofs.YtdikjmhnjlalbabGreat.tm Go.Proofs.YtdikjmhnjlalbabGreat.ato Go.Proofs.YtdikjmhnjlalbabGreat.kmp
set_option linter.unusedVariables false

theorem least_mono {l l' R R' : List Bs} (h : Least l R) (h' : Least l' R') (s : ∀ x ∈ l, x ∈ l') (x : Bs) (hx : x ∈ R) : x ∈ R' :=
  inn_iff.1 (h.min (inn R') (fun y hy => inn_iff.2 (h'.has y (s y hy))) h'.closed x hx)

/-- What is taken is taken no further. -/
theorem least_idem {l R : List Bs} (h : Least l R) : Least R R :=
  ⟨fun x hx => hx, h.closed, fun X hX _ x hx => hX x hx⟩

/-- Who knows more makes no less. -/
theorem more {l l' R R' : List Bs} (h : Least l R) (h' : Least l' R') (s : ∀ x ∈ l, x ∈ l') (T : Tm) (hb : bld (inn R) T = true) : bld (inn R') T = true :=
  bld_mono (fun x hx => inn_iff.2 (least_mono h h' s x (inn_iff.1 hx))) T hb

open Classical in
/-- Is it the text of a thing that is built from R? -/
noncomputable def can (R : List Bs) (x : Bs) : Bool := decide (∃ U : Tm, U.ok ∧ U.tx = x ∧ bld (inn R) U = true)

theorem can_tm {R : List Bs} {T : Tm} (hT : T.ok) : can R T.tx = true ↔ bld (inn R) T = true := by
  unfold can
  refine Iff.trans (@decide_eq_true_iff _ (Classical.propDecidable _)) ?_
  constructor
  · rintro ⟨U, hU, e, hb⟩
    rw [← tx_inj hU hT e]
    exact hb
  · exact fun h => ⟨T, hT, rfl, h⟩

theorem can_atom {R : List Bs} {a : Bs} (ha : (Tm.atom a).ok) (h : can R a = true) : inn R a = true := (can_tm (T := .atom a) ha).1 h

/-- What is built from what is built is built. -/
theorem cut (R : List Bs) : ∀ V : Tm, V.ok → bld (can R) V = true → bld (inn R) V = true
  | .atom a, hV, h => (can_tm hV).1 h
  | .pub a, hV, h => by
    simp only [bld, Bool.or_eq_true] at h
    rcases h with h | h
    · exact (can_tm (T := .pub a) hV).1 h
    · simp only [bld, Bool.or_eq_true]
      exact .inr (can_atom (kid_ok hV (k := .atom a) (by simp [Tm.kids])) h)
  | .dh a b, hV, h => by
    have ha : (Tm.atom a).ok := kid_ok hV (by simp [Tm.kids])
    have hb : (Tm.atom b).ok := kid_ok hV (by simp [Tm.kids])
    have pub : ∀ c, (Tm.atom c).ok → (can R (Tm.tx (.pub c)) = true ∨ can R c = true) → (inn R (Tm.tx (.pub c)) = true ∨ inn R c = true) := by
      intro c hc h
      rcases h with h | h
      · have := (can_tm (T := .pub c) hc).1 h
        simpa only [bld, Bool.or_eq_true] using this
      · exact .inr (can_atom hc h)
    simp only [bld, Bool.or_eq_true, Bool.and_eq_true] at h
    rcases h with h | ⟨h1, h2⟩ | ⟨h1, h2⟩
    · exact (can_tm (T := .dh a b) hV).1 h
    · simp only [bld, Bool.or_eq_true, Bool.and_eq_true]
      exact .inr (.inl ⟨can_atom ha h1, pub b hb h2⟩)
    · simp only [bld, Bool.or_eq_true, Bool.and_eq_true]
      exact .inr (.inr ⟨can_atom hb h1, pub a ha h2⟩)
  | .pair l r, hV, h => by
    simp only [bld, Bool.or_eq_true, Bool.and_eq_true] at h
    rcases h with h | ⟨h1, h2⟩
    · exact (can_tm (T := .pair l r) hV).1 h
    · simp only [bld, Bool.or_eq_true, Bool.and_eq_true]
      exact .inr ⟨cut R l (kid_ok hV (by simp [Tm.kids])) h1, cut R r (kid_ok hV (by simp [Tm.kids])) h2⟩
  | .hash x, hV, h => by
    simp only [bld, Bool.or_eq_true] at h
    rcases h with h | h1
    · exact (can_tm (T := .hash x) hV).1 h
    · simp only [bld, Bool.or_eq_true]
      exact .inr (cut R x (kid_ok hV (by simp [Tm.kids])) h1)
  | .mac k x, hV, h => by
    simp only [bld, Bool.or_eq_true, Bool.and_eq_true] at h
    rcases h with h | ⟨h1, h2⟩
    · exact (can_tm (T := .mac k x) hV).1 h
    · simp only [bld, Bool.or_eq_true, Bool.and_eq_true]
      exact .inr ⟨cut R k (kid_ok hV (by simp [Tm.kids])) h1, cut R x (kid_ok hV (by simp [Tm.kids])) h2⟩
  | .shut k x, hV, h => by
    simp only [bld, Bool.or_eq_true, Bool.and_eq_true] at h
    rcases h with h | ⟨h1, h2⟩
    · exact (can_tm (T := .shut k x) hV).1 h
    · simp only [bld, Bool.or_eq_true, Bool.and_eq_true]
      exact .inr ⟨cut R k (kid_ok hV (by simp [Tm.kids])) h1, cut R x (kid_ok hV (by simp [Tm.kids])) h2⟩

theorem closed_can {R : List Bs} (hR : Closed (inn R)) : Closed (can R) := by
  intro T hT h
  have hb := (can_tm hT).1 h
  cases T with
  | pair l r =>
    have hl : l.ok := kid_ok hT (by simp [Tm.kids])
    have hr : r.ok := kid_ok hT (by simp [Tm.kids])
    simp only [bld, Bool.or_eq_true, Bool.and_eq_true] at hb
    rcases hb with hb | ⟨h1, h2⟩
    · obtain ⟨h1, h2⟩ := hR (.pair l r) hT hb
      exact ⟨(can_tm hl).2 (bld_here h1), (can_tm hr).2 (bld_here h2)⟩
    · exact ⟨(can_tm hl).2 h1, (can_tm hr).2 h2⟩
  | shut k x =>
    have hk : k.ok := kid_ok hT (by simp [Tm.kids])
    have hx : x.ok := kid_ok hT (by simp [Tm.kids])
    intro hc
    simp only [bld, Bool.or_eq_true, Bool.and_eq_true] at hb
    rcases hb with hb | ⟨_, h2⟩
    · have ho : opens (inn R) (.shut k x) := hR (.shut k x) hT hb
      exact (can_tm hx).2 (bld_here (ho (cut R k hk hc)))
    · exact (can_tm hx).2 h2
  | _ => trivial

/-- What can be made adds nothing to what can be made. -/
theorem adds_none {l l2 R R2 : List Bs} {T : Tm} (h : Least l R) (h2 : Least l2 R2) (hT : T.ok) (hb : bld (inn R) T = true) (hl : ∀ x ∈ l, ∃ U : Tm, U.ok ∧ U.tx = x) (hl2 : ∀ x ∈ l2, x ∈ l ∨ x = T.tx)
    (U : Tm) (hU : U.ok) (hc : bld (inn R2) U = true) : bld (inn R) U = true := by
  refine cut R U hU (bld_mono (fun x hx => ?_) U hc)
  refine h2.min (can R) (fun y hy => ?_) (closed_can h.closed) x (inn_iff.1 hx)
  rcases hl2 y hy with hy | rfl
  · obtain ⟨V, hV, rfl⟩ := hl y hy
    exact (can_tm hV).2 (bld_here (inn_iff.2 (h.has _ hy)))
  · exact (can_tm hT).2 hb
end Go.Proofs.YtdikjmhnjlalbabGreat.knm

/- Small laws of my own: rows of bytes that a call makes itself; strings made of them; a bool or a number handed back. -/
namespace Go.Proofs.YtdikjmhnjlalbabGreat.lib
open Go.RowKit
set_option linter.unusedVariables false

theorem ret_bool {a b : Bool} (h : a = b) : Ending.returned (.bool a) = .returned (.bool b) := by rw [h]
theorem ret_int {k : IntKind} {a b : Int} (h : a = b) : Ending.returned (.int k a) = .returned (.int k b) := by rw [h]
theorem ret_str {a b : ByteArray} (h : a = b) : Ending.returned (.string a) = .returned (.string b) := by rw [h]

theorem isEmpty_eq (s : ByteArray) : s.toList.isEmpty = decide (s.size < 1) := by
  rw [ByteArray.toList_eq]
  rcases s with ⟨⟨l⟩⟩
  cases l with
  | nil => rfl
  | cons a l => simp [ByteArray.size]

theorem getD_at (s : ByteArray) (k : Nat) (h : k < s.size) : s.data.toList.getD k 0 = s[k] := by
  have h' : k < s.data.toList.length := by simpa using h
  rw [List.getD_eq_getElem?_getD, List.getElem?_eq_getElem h']; rfl

/-- s[q:q+m], as an equation. -/
theorem run_cut (s : ByteArray) (q m : Nat) (h : q + m ≤ s.size) (w : World) :
    (Instr.slice 9 (.string s) (some (.int .i64 (q : Int))) (some (.int .i64 ((q : Int) + (m : Int)))) none).run Tryz.prog w = .ok (.string (s.extract q (q + m))) w := by
  have := run_slice_string (P := Tryz.prog) (w := w) 9 s .i64 .i64 (q : Int) ((q : Int) + (m : Int)) Tryz.underlying9 (by omega) (by omega) (by omega)
  rw [this, show ((q : Int) + (m : Int)).toNat = q + m from by omega, Int.toNat_natCast]

theorem infoE : (Tryz.prog.info? 5).map (fun i => (i.zero, i.size, i.bytes)) = some (some (.int .u8 0), 1, 1) := by kernel_rfl

/-- The slice value v holds the bytes l, in a row that the call itself made (from block B on). -/
def B8 (w : World) (B : Nat) (v : Value) (l : List UInt8) : Prop :=
  w.ownsRow B 5 1 v l.length (l.map fun b => Value.int .u8 b.toNat)

theorem B8.nil (w : World) (B : Nat) : B8 w B (.slice none 0 0) [] := World.ownsRow_nil _ _ _ _
theorem B8.alloc {w : World} {B : Nat} {v : Value} {l : List UInt8} (h : B8 w B v l) (o : Obj) : B8 (w.alloc o) B v l := World.ownsRow.alloc h o
theorem B8.drew {w : World} {B : Nat} {v : Value} {l : List UInt8} (h : B8 w B v l) : B8 w.drew B v l := h
/-- An empty slice literal: a new row of no cells. -/
theorem B8.empty (w : World) (B : Nat) (h : B ≤ w.heap.size) : B8 (w.alloc (.cells #[] 5)) B (.slice (some ⟨w.heap.size, 0, none⟩) 0 0) [] :=
  World.ownsRow_made (size := 1) w #[] 0 h (by decide) (by simp)

theorem below_cell {B : Nat} {w : World} : Below B w w := Below.refl _ _

section
variable {w : World} {ops : Array Oper} {rest : List Oper} {o : Oper} {a : Act} {Q : Exit → Act → World → Prop}

set_option maxRecDepth 100000 in
/-- append of a row of new bytes to a row of the call's own. -/
theorem wp_put (s x : Operand) (ad : Addr) (m c : Nat) (new : List UInt8) (B : Nat) (v : Value) (l : List UInt8) (hgd : o.guard = none)
    (ho : o.op = .call { callee := .builtin .append, args := #[s, x], argTypes := #[22, 22] })
    (hs : a.eval s = v) (hown : B8 w B v l)
    (hx : a.eval x = .slice (some ad) m c) (hm : new.length = m) (hnews : ∀ j u, (new.map fun b => Value.int .u8 b.toNat)[j]? = some u → w.cell? (ad.add j) = some u)
    (hl : l.length + m ≤ 140737488355328) (hB : B ≤ w.heap.size)
    (h : ∀ v' w', B8 w' B v' (l ++ new) → Below B w w' → wpList Tryz.prog ops Q rest (a.put o.dst v') w') : wpList Tryz.prog ops Q (o :: rest) a w := by
  obtain ⟨i0, hi, hz0, hz1, hz2⟩ := info_parts infoE
  refine wpList_append_own w hgd s x 22 ho B 5 i0 (.int .u8 0) 1 1 Tryz.underlying22 hi hz0 hz1 hz2 rfl (by decide) v l.length _ hs hown ad m c (new.map fun b => Value.int .u8 b.toNat) hx (by simpa using hm) hnews ?_ ?_ ?_ hB ?_
  · intro u hu
    obtain ⟨b, _, rfl⟩ := List.mem_map.1 hu
    rfl
  · unfold maxLen; omega
  · omega
  · intro v' w' h1 h2 _
    refine h v' w' ?_ ((Below.refl B w).grown h2 hB fun k hk => (World.ownsRow.lt hown k hk).1)
    unfold B8
    rw [List.map_append, List.length_append, hm]
    exact h1

set_option maxRecDepth 100000 in
/-- append of one new byte: the walk has laid it in a block of one cell, the newest one. -/
theorem wp_put1 (s x : Operand) (X : Int) (b : UInt8) (B : Nat) (v : Value) (l : List UInt8) (hgd : o.guard = none)
    (ho : o.op = .call { callee := .builtin .append, args := #[s, x], argTypes := #[22, 22] })
    (hs : a.eval s = v) (hown : B8 w B v l)
    (hx : a.eval x = .slice (some ⟨w.heap.size, 0, none⟩) 1 1) (hX : X = (b.toNat : Int))
    (hl : l.length + 1 ≤ 140737488355328) (hB : B ≤ w.heap.size)
    (h : ∀ v' w', B8 w' B v' (l ++ [b]) → Below B w w' → wpList Tryz.prog ops Q rest (a.put o.dst v') w') :
    wpList Tryz.prog ops Q (o :: rest) a (w.alloc (.cells #[.int .u8 X] 5)) := by
  refine wp_put s x ⟨w.heap.size, 0, none⟩ 1 1 [b] B v l hgd ho hs (hown.alloc _) hx rfl ?_ hl (by simp; omega) fun v' w' h1 h2 => h v' w' h1 (((Below.refl B w).alloc hB _).trans h2)
  intro j u hj
  match j, hj with
  | 0, hj =>
    simp at hj
    subst hj
    rw [hX]
    simp [Addr.add]
  | j + 1, hj => simp at hj

set_option maxRecDepth 100000 in
/-- string(b) of a row of the call's own. -/
theorem wp_str (x : Operand) (B : Nat) (v : Value) (l : List UInt8) (hgd : o.guard = none) (ho : o.op = .convert 22 9 x) (hs : a.eval x = v) (hown : B8 w B v l)
    (h : wpList Tryz.prog ops Q rest (a.put o.dst (.string ⟨l.toArray⟩)) w) : wpList Tryz.prog ops Q (o :: rest) a w := by
  refine wpList_plain hgd fun K hK => ?_
  have hrun : (convert 22 9 v).run Tryz.prog w = .ok (.string ⟨l.toArray⟩) w := by
    rcases hown.2 with ⟨rfl, hn⟩ | ⟨g, cap, cur, rfl, hb, hg, hc⟩
    · have : l = [] := List.eq_nil_of_length_eq_zero hn
      subst this
      exact run_convert_bytes_nil w 22 5 Tryz.underlying22 Tryz.underlying5 0 0 _ Tryz.underlying9
    · have := run_convert_bytes_arg (P := Tryz.prog) w 22 5 Tryz.underlying22 Tryz.underlying5 g 0 l.length cap (l.map fun b => (b.toNat : Int)) (by simp) (fun i hi => by
        have := World.ownsRow.cells hown (g := g) rfl i (.int .u8 (l[i].toNat)) (by simp [hi])
        have e : (⟨g, 0, none⟩ : Addr).add i = ⟨g, 0 + i, none⟩ := by rw [Addr.add_lit]
        rw [e] at this
        simpa [List.getD, hi] using this) 9 Tryz.underlying9
      rw [this]
      congr 3
      simp [strOfNums, Function.comp_def]
  unfold Oper.wp
  simp [execOp, ho, hs, hrun, Result.andThen]
  exact hK _ _ h

/-- The same as an equation, for a guarded operation. -/
theorem run_strAt {w : World} (g off n cap : Nat) (l : List UInt8) (hn : l.length = n) (hcell : ∀ i (h : i < l.length), w.cell? ⟨g, off + i, none⟩ = some (.int .u8 (l[i].toNat))) :
    (convert 22 9 (.slice (some ⟨g, off, none⟩) n cap)).run Tryz.prog w = .ok (.string ⟨l.toArray⟩) w := by
  have hrun := run_convert_bytes_arg (P := Tryz.prog) w 22 5 Tryz.underlying22 Tryz.underlying5 g off n cap (l.map fun b => (b.toNat : Int)) (by simpa using hn) (fun i hi => by
    have := hcell i (by omega)
    simpa [List.getD, show i < l.length by omega] using this) 9 Tryz.underlying9
  have e : strOfNums (l.map fun b => (b.toNat : Int)) = ⟨l.toArray⟩ := by simp [strOfNums, Function.comp_def]
  rw [e] at hrun
  exact hrun

set_option maxRecDepth 100000 in
/-- string(x[..]) of bytes that lie somewhere. -/
theorem wp_strAt (x : Operand) (g off n cap : Nat) (l : List UInt8) (hgd : o.guard = none) (ho : o.op = .convert 22 9 x) (hs : a.eval x = .slice (some ⟨g, off, none⟩) n cap)
    (hn : l.length = n) (hcell : ∀ i (h : i < l.length), w.cell? ⟨g, off + i, none⟩ = some (.int .u8 (l[i].toNat)))
    (h : wpList Tryz.prog ops Q rest (a.put o.dst (.string ⟨l.toArray⟩)) w) : wpList Tryz.prog ops Q (o :: rest) a w := by
  refine wpList_plain hgd fun K hK => ?_
  have hrun := run_convert_bytes_arg (P := Tryz.prog) w 22 5 Tryz.underlying22 Tryz.underlying5 g off n cap (l.map fun b => (b.toNat : Int)) (by simpa using hn) (fun i hi => by
    have := hcell i (by omega)
    simpa [List.getD, show i < l.length by omega] using this) 9 Tryz.underlying9
  have e : strOfNums (l.map fun b => (b.toNat : Int)) = ⟨l.toArray⟩ := by simp [strOfNums, Function.comp_def]
  rw [e] at hrun
  unfold Oper.wp
  simp [execOp, ho, hs, hrun, Result.andThen]
  exact hK _ _ h
end
end Go.Proofs.YtdikjmhnjlalbabGreat.lib

/- Worlds that are as they were, but for draws, or for one block; the bytes of atoms. -/
namespace Go.Proofs.YtdikjmhnjlalbabGreat.rdr
open Go.RowKit Go.Proofs.YtdikjmhnjlalbabGreat.tm Go.Proofs.YtdikjmhnjlalbabGreat.lib
set_option linter.unusedVariables false

/-- All is as it was, but for the draws. -/
structure Still (w w' : World) : Prop where
  os : w'.os = w.os
  tape : w'.tape = w.tape
  output : w'.output = w.output
  heap : w'.heap = w.heap

/-- All blocks that were there are as they were, but for block b. -/
structure Only (b : Nat) (w w' : World) : Prop where
  os : w'.os = w.os
  tape : w'.tape = w.tape
  output : w'.output = w.output
  size : w.heap.size ≤ w'.heap.size
  block : ∀ k, k < w.heap.size → k ≠ b → w'.heap[k]? = w.heap[k]?

theorem Still.refl (w : World) : Still w w := ⟨rfl, rfl, rfl, rfl⟩
theorem Still.trans {a b c : World} (h : Still a b) (k : Still b c) : Still a c := ⟨k.os.trans h.os, k.tape.trans h.tape, k.output.trans h.output, k.heap.trans h.heap⟩
theorem Still.only {w w' : World} (h : Still w w') (b : Nat) : Only b w w' := ⟨h.os, h.tape, h.output, by rw [h.heap]; exact Nat.le_refl _, fun k _ _ => by rw [h.heap]⟩
theorem Still.drewN (w : World) (n : Nat) : Still w (w.drewN n) := ⟨rfl, rfl, rfl, rfl⟩
theorem Still.below {w w' : World} (h : Still w w') (B : Nat) : Below B w w' := ⟨h.os, h.tape, h.output, by rw [h.heap]; exact Nat.le_refl _, fun k _ => by rw [h.heap]⟩

theorem Only.refl (b : Nat) (w : World) : Only b w w := (Still.refl w).only b
theorem Only.trans {b : Nat} {x y z : World} (h : Only b x y) (k : Only b y z) : Only b x z :=
  ⟨k.os.trans h.os, k.tape.trans h.tape, k.output.trans h.output, Nat.le_trans h.size k.size, fun i hi hb => (k.block i (Nat.lt_of_lt_of_le hi h.size) hb).trans (h.block i hi hb)⟩
theorem Only.of_below {b : Nat} {w w' : World} (h : Below w.heap.size w w') : Only b w w' := ⟨h.os, h.tape, h.output, h.size, fun k hk _ => h.block k hk⟩
theorem Only.setCell {b : Nat} {w : World} (o : Nat) (v : Value) : Only b w (w.setCell ⟨b, o, none⟩ v) :=
  ⟨rfl, rfl, rfl, by simp [World.setCell], fun k _ hb => Below.heap_setCell _ _ _ _ hb⟩
theorem Only.below {b B : Nat} {w w' : World} (h : Only b w w') (hb : B ≤ b) (hB : B ≤ w.heap.size) : Below B w w' :=
  ⟨h.os, h.tape, h.output, h.size, fun k hk => h.block k (by omega) (by omega)⟩

theorem let_eq (c : UInt8) : (97 ≤ c && c ≤ 122 : Bool) = (decide (97 ≤ (c.toNat : Int)) && decide ((c.toNat : Int) ≤ 122)) := by
  rw [Bool.eq_iff_iff]; simp [UInt8.le_iff_toNat_le]; omega
theorem dig_eq (c : UInt8) : (48 ≤ c && c ≤ 57 : Bool) = (decide (48 ≤ (c.toNat : Int)) && decide ((c.toNat : Int) ≤ 57)) := by
  rw [Bool.eq_iff_iff]; simp [UInt8.le_iff_toNat_le]; omega

theorem isLetter_calls (c : UInt8) (w : World) :
    Calls Tryz.prog 115 #[.int .u8 (c.toNat : Int)] w fun e w' => e = .returned (.bool (97 ≤ c && c ≤ 122)) ∧ w = w' := by
  go_enter Tryz.func115, Tryz.ntmps115
  go_wp2
  all_goals go_ret
  all_goals exact ⟨by rw [let_eq]; congr 2; simp [*] <;> omega, rfl⟩

theorem isDigit_calls (c : UInt8) (w : World) :
    Calls Tryz.prog 116 #[.int .u8 (c.toNat : Int)] w fun e w' => e = .returned (.bool (48 ≤ c && c ≤ 57)) ∧ w = w' := by
  go_enter Tryz.func116, Tryz.ntmps116
  go_wp2
  all_goals go_ret
  all_goals exact ⟨by rw [dig_eq]; congr 2; simp [*] <;> omega, rfl⟩

theorem isAtomByte_calls (c : UInt8) (w : World) :
    Calls Tryz.prog 109 #[.int .u8 (c.toNat : Int)] w fun e w' => e = .returned (.bool (isAt c)) ∧ w = w' := by
  cases h1 : (97 ≤ c && c ≤ 122 : Bool) <;> cases h2 : (48 ≤ c && c ≤ 57 : Bool)
  all_goals
    have HI : Hid (isAt c = _) := show isAt c = ((97 ≤ c && c ≤ 122 : Bool) || (48 ≤ c && c ≤ 57 : Bool)) from rfl
    rw [h1, h2] at HI
    have a1 := isLetter_calls c
    have a2 := isDigit_calls c
    rw [h1] at a1
    rw [h2] at a2
    clear h1 h2
    go_enter Tryz.func109, Tryz.ntmps109
    go_wp2_with (first | (go_at_call 115; refine (a1 _).mono ?_; rintro e w' ⟨rfl, rfl⟩) | (go_at_call 116; refine (a2 _).mono ?_; rintro e w' ⟨rfl, rfl⟩))
    go_ret
    exact ⟨ret_bool HI.out.symm, rfl⟩

end Go.Proofs.YtdikjmhnjlalbabGreat.rdr
