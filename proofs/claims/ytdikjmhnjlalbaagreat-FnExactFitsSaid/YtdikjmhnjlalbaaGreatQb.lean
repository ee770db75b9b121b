/- Several small texts, one behind the other. -/
import Derived.Test.YtdikjmhnjlalbaaGreatQa
import Derived.ProofKit
import Derived.OpenShut
import Derived.ShutString
import Derived.SliceStrings
import Derived.ChangeOld
import Derived.Below
import Derived.Lib.SlicesCompact
import Derived.Sort.EncStr
import Derived.Sort.Walk0

/- For the frames of laws: the knob, the layout, a text's cells. -/
namespace Go.Proofs.YtdikjmhnjlalbaaGreat.frm
open Go.ChangeShapes Go.WideShapes Go.ChangeAt Go.RowKit
open Go.ChangeMaps (open_string shut_string)
open Go.Proofs.YtdikjmhnjlalbaaGreat.tm Go.Proofs.YtdikjmhnjlalbaaGreat.bld
set_option linter.unusedVariables false

theorem own : ownKnob Tryz.prog.godebug = none := by kernel_rfl
theorem laidOut : laidOutB Tryz.prog = true := by kernel_rfl
theorem cellsS : Tryz.prog.cellsOf 9 = 1 := by kernel_rfl
end Go.Proofs.YtdikjmhnjlalbaaGreat.frm

/- The numbers of letters: ends and times. -/
namespace Go.Proofs.YtdikjmhnjlalbaaGreat.ltp
def endR (n : Int) : Bool := decide (1 ≤ n) && decide (n ≤ 999)
def timeR (n : Int) : Bool := decide (0 ≤ n) && decide (n ≤ 1000000)
end Go.Proofs.YtdikjmhnjlalbaaGreat.ltp

/- The atoms of a term: rising, no two alike: what sorting and compacting gives is what putting one after the other gives. Plain mathematics. -/
namespace Go.Proofs.YtdikjmhnjlalbaaGreat.ato
open Go Go.Proofs.YtdikjmhnjlalbaaGreat.tm
set_option linter.unusedVariables false

def aL : Tm → List Bs
  | .atom a => [a]
  | .pair l r => aL l ++ aL r
  | .hash x => aL x
  | .mac k x => aL k ++ aL x
  | .shut k x => aL k ++ aL x
  | .pub a => [a]
  | .dh a b => [a, b]

theorem aL_kids (T : Tm) (h : T.isAtom = false) : aL T = T.kids.flatMap aL := by
  cases T <;> first | (simp [Tm.isAtom] at h; done) | simp [aL, Tm.kids]

theorem kids_node (T : Tm) (h : T.isAtom = false) : (∃ x, T.kids = [x]) ∨ (∃ x y, T.kids = [x, y]) := by
  cases T with
  | atom a => cases h
  | pair x y => exact .inr ⟨x, y, rfl⟩
  | hash x => exact .inl ⟨x, rfl⟩
  | mac x y => exact .inr ⟨x, y, rfl⟩
  | shut x y => exact .inr ⟨x, y, rfl⟩
  | pub a => exact .inl ⟨.atom a, rfl⟩
  | dh a b => exact .inr ⟨.atom a, .atom b, rfl⟩

def put (l : List Bs) (t : Bs) : List Bs :=
  if l[(l.takeWhile (fun x => decide (x < t))).length]? = some t then l
  else l.take (l.takeWhile (fun x => decide (x < t))).length ++ t :: l.drop (l.takeWhile (fun x => decide (x < t))).length

theorem lt_or (x y : Bs) : x < y ∨ x = y ∨ y < x := by
  by_cases h1 : x < y
  · exact .inl h1
  by_cases h2 : y < x
  · exact .inr (.inr h2)
  · exact .inr (.inl (List.le_antisymm h2 h1))

abbrev Rise (l : List Bs) : Prop := l.Pairwise (· < ·)

theorem takeWhile_split (l : List Bs) (t : Bs) (h : Rise l) : ∃ a b, l = a ++ b ∧ (l.takeWhile (fun x => decide (x < t))).length = a.length ∧ (∀ x ∈ a, x < t) ∧ (∀ x ∈ b, ¬ x < t) := by
  induction l with
  | nil => exact ⟨[], [], rfl, rfl, by simp, by simp⟩
  | cons c l ih =>
    have h := List.pairwise_cons.1 h
    by_cases hc : c < t
    · obtain ⟨a, b, e, e2, h1, h2⟩ := ih h.2
      refine ⟨c :: a, b, by rw [e]; rfl, by simp [hc, e2], ?_, h2⟩
      intro x hx
      rcases List.mem_cons.1 hx with rfl | hx
      · exact hc
      · exact h1 x hx
    · refine ⟨[], c :: l, rfl, by simp [hc], by simp, ?_⟩
      intro x hx hxt
      rcases List.mem_cons.1 hx with rfl | hx
      · exact hc hxt
      · exact hc (List.lt_trans (h.1 x hx) hxt)

theorem put_rise (l : List Bs) (t : Bs) (h : Rise l) : Rise (put l t) ∧ ∀ x, x ∈ put l t ↔ x ∈ l ∨ x = t := by
  obtain ⟨a, b, e, e2, h1, h2⟩ := takeWhile_split l t h
  unfold put
  rw [e2]
  have hd : l[a.length]? = b[0]? := by rw [e, List.getElem?_append_right (Nat.le_refl _), Nat.sub_self]
  have ht : l.take a.length = a := by rw [e, List.take_left]
  have hr : l.drop a.length = b := by rw [e, List.drop_left]
  rw [hd, ht, hr]
  split
  · rename_i hb
    refine ⟨h, fun x => ⟨.inl, ?_⟩⟩
    rintro (hx | rfl)
    · exact hx
    · rw [e]; exact List.mem_append_right _ (List.mem_of_getElem? hb)
  · rename_i hb
    have hbt : ∀ x ∈ b, t < x := by
      intro x hx
      rcases lt_or x t with h3 | rfl | h3
      · exact absurd h3 (h2 x hx)
      · cases b with
        | nil => cases hx
        | cons c b =>
          rw [e] at h
          have hc := (List.pairwise_append.1 h).2.1
          rw [List.pairwise_cons] at hc
          rcases List.mem_cons.1 hx with rfl | hx'
          · exact absurd rfl hb
          · exact absurd (hc.1 x hx') (h2 c (by simp))
      · exact h3
    refine ⟨?_, fun x => ?_⟩
    · rw [e] at h
      obtain ⟨p1, p2, p3⟩ := List.pairwise_append.1 h
      refine List.pairwise_append.2 ⟨p1, List.pairwise_cons.2 ⟨hbt, p2⟩, ?_⟩
      intro x hx y hy
      rcases List.mem_cons.1 hy with rfl | hy
      · exact h1 x hx
      · exact p3 x hx y hy
    · rw [e]
      simp only [List.mem_append, List.mem_cons]
      constructor
      · rintro (h | h | h)
        · exact .inl (.inl h)
        · exact .inr h
        · exact .inl (.inr h)
      · rintro ((h | h) | h)
        · exact .inl h
        · exact .inr (.inr h)
        · exact .inr (.inl h)

/-- Two rising lists of the same members are one. -/
theorem rise_ext : ∀ (l m : List Bs), Rise l → Rise m → (∀ x, x ∈ l ↔ x ∈ m) → l = m
  | [], [], _, _, _ => rfl
  | [], b :: m, _, _, h => by have := (h b).2 (by simp); cases this
  | a :: l, [], _, _, h => by have := (h a).1 (by simp); cases this
  | a :: l, b :: m, hl, hm, h => by
    rw [Rise, List.pairwise_cons] at hl hm
    have hab : a = b := by
      rcases List.mem_cons.1 ((h a).1 (by simp)) with e | h1
      · exact e
      rcases List.mem_cons.1 ((h b).2 (by simp)) with e | h2
      · exact e.symm
      exact absurd (List.lt_trans (hl.1 b h2) (hm.1 a h1)) (List.lt_irrefl a)
    subst hab
    congr 1
    refine rise_ext l m hl.2 hm.2 fun x => ?_
    constructor
    · intro hx
      rcases List.mem_cons.1 ((h x).1 (by simp [hx])) with e | h1
      · subst e; exact absurd (hl.1 x hx) (List.lt_irrefl x)
      · exact h1
    · intro hx
      rcases List.mem_cons.1 ((h x).2 (by simp [hx])) with e | h1
      · subst e; exact absurd (hm.1 x hx) (List.lt_irrefl x)
      · exact h1

def puts (l : List Bs) (ts : List Bs) : List Bs := ts.foldl put l

theorem puts_rise : ∀ (ts l : List Bs), Rise l → Rise (puts l ts) ∧ ∀ x, x ∈ puts l ts ↔ x ∈ l ∨ x ∈ ts
  | [], l, h => ⟨h, by simp [puts]⟩
  | t :: ts, l, h => by
    obtain ⟨h1, h2⟩ := put_rise l t h
    obtain ⟨h3, h4⟩ := puts_rise ts (put l t) h1
    refine ⟨h3, fun x => ?_⟩
    show x ∈ puts (put l t) ts ↔ _
    rw [h4, h2, List.mem_cons, or_assoc]

theorem compact_rise (zs : List Bs) (h : zs.Pairwise (· ≤ ·)) : Rise (Lib.compact zs) ∧ ∀ x, x ∈ Lib.compact zs ↔ x ∈ zs := by
  have hg : ∀ i, i < zs.length → zs.toArray[i]! = zs[i]! := fun i hi => by simp [hi]
  have hle : ∀ i j, i ≤ j → j < zs.length → zs[i]! ≤ zs[j]! := by
    intro i j hij hj
    rcases Nat.lt_or_ge i j with h1 | h1
    · have := List.pairwise_iff_getElem.1 h i j (by omega) hj h1
      simpa [show i < zs.length by omega, hj] using this
    · obtain rfl : i = j := by omega
      exact List.le_refl _
  unfold Lib.compact Lib.compactUpTo
  refine ⟨?_, fun x => ?_⟩
  · rw [Rise, List.pairwise_map]
    refine (List.Pairwise.filter _ List.pairwise_lt_range).imp_of_mem ?_
    intro i j hi hj hij
    simp only [List.mem_filter, List.mem_range] at hi hj
    rw [hg i hi.1, hg j hj.1]
    have hk := hj.2
    unfold Lib.keeps at hk
    simp only [decide_eq_true_eq] at hk
    rcases hk with hk | hk
    · omega
    · rw [hg j hj.1, hg (j - 1) (by omega)] at hk
      have a1 := hle i (j - 1) (by omega) (by omega)
      have a2 := hle (j - 1) j (by omega) hj.1
      rcases lt_or zs[i]! zs[j]! with h1 | h1 | h1
      · exact h1
      · exfalso
        apply hk
        exact List.le_antisymm (h1 ▸ a1) a2
      · exact absurd h1 (List.le_trans a1 a2)
  · simp only [List.mem_map, List.mem_filter, List.mem_range]
    constructor
    · rintro ⟨i, ⟨hi, _⟩, rfl⟩
      rw [hg i hi]
      simp [hi]
    · intro hx
      obtain ⟨i, hi, rfl⟩ := List.mem_iff_getElem.1 hx
      -- the least place that holds it
      have : ∃ j, j ≤ i ∧ zs[j]! = zs[i]! ∧ Lib.keeps zs.toArray j = true := by
        have key : ∀ n, n ≤ i → zs[n]! = zs[i]! → ∃ j, j ≤ n ∧ zs[j]! = zs[i]! ∧ Lib.keeps zs.toArray j = true := by
          intro n
          induction n with
          | zero => exact fun _ e => ⟨0, Nat.le_refl _, e, by simp [Lib.keeps]⟩
          | succ n ih =>
            intro hn e
            by_cases e2 : zs[n]! = zs[i]!
            · obtain ⟨j, h1, h2, h3⟩ := ih (by omega) e2
              exact ⟨j, by omega, h2, h3⟩
            · refine ⟨n + 1, Nat.le_refl _, e, ?_⟩
              unfold Lib.keeps
              simp only [decide_eq_true_eq]
              right
              rw [hg (n + 1) (by omega), hg (n + 1 - 1) (by omega), e]
              exact fun e3 => e2 e3.symm
        exact key i (Nat.le_refl _) rfl
      obtain ⟨j, h1, h2, h3⟩ := this
      exact ⟨j, ⟨by omega, h3⟩, by rw [hg j (by omega), h2]; simp [hi]⟩

theorem sorted (zs : List Bs) : (zs.mergeSort fun x y => decide (x ≤ y)).Pairwise (· ≤ ·) := by
  have := List.pairwise_mergeSort (le := fun (x y : Bs) => decide (x ≤ y)) (fun a b c h1 h2 => by simp only [decide_eq_true_eq] at *; exact List.le_trans h1 h2)
    (fun a b => by simp only [Bool.or_eq_true, decide_eq_true_eq]; exact List.le_total a b) zs
  exact this.imp fun h => by simpa using h

/-- Sorted and compacted is put one by one. -/
theorem same (zs : List Bs) : Lib.compact (zs.mergeSort fun x y => decide (x ≤ y)) = puts [] zs := by
  obtain ⟨h1, h2⟩ := compact_rise _ (sorted zs)
  obtain ⟨h3, h4⟩ := puts_rise zs [] List.Pairwise.nil
  refine rise_ext _ _ h1 h3 fun x => ?_
  rw [h2, h4, List.mem_mergeSort]
  simp
end Go.Proofs.YtdikjmhnjlalbaaGreat.ato

/- Who may knock, as plain data: addresses, jars, buckets, limits; what is right of them. Nothing here speaks of the program. -/
namespace Go.Proofs.YtdikjmhnjlalbaaGreat.gdp
open Go Go.RowKit Go.Proofs.YtdikjmhnjlalbaaGreat.tm Go.Proofs.YtdikjmhnjlalbaaGreat.ltp Go.Proofs.YtdikjmhnjlalbaaGreat.ato
set_option linter.unusedVariables false

structure Ad where
  st : Bs
  hs : Bs
structure Jr where
  now : Bs
  was : Bs
  at_ : Int
  next : Int
structure Bk where
  st : Bs
  left : Int
  at_ : Int

def adR (a : Ad) : Bool := atomR a.st && atomR a.hs
def jarR (j : Jr) : Bool := atomR j.now && (decide (j.was = []) || atomR j.was) && decide (j.was ≠ j.now) && timeR j.at_ && timeR j.next
/-- One bucket is right. -/
def bkR (burst : Int) (b : Bk) : Bool := atomR b.st && (decide (0 ≤ b.left) && decide (b.left ≤ burst)) && timeR b.at_
def riseR : List Bk → Bool
  | [] => true
  | [_] => true
  | a :: b :: l => decide (a.st < b.st) && riseR (b :: l)
/-- The numbers of a limit. -/
def hdR (rate burst : Int) : Bool := (decide (1 ≤ rate) && decide (rate ≤ 10)) && (decide (1 ≤ burst) && decide (burst ≤ 100))
def limR (rate burst : Int) (l : List Bk) : Bool := hdR rate burst && decide (l.length ≤ 6) && l.all (bkR burst) && riseR l

theorem jar_impl (j : Jr) : (atomR j.now && (decide (j.was = []) || (atomR j.was && decide (j.was ≠ j.now))) && timeR j.at_ && timeR j.next) = jarR j := by
  unfold jarR
  congr 1
  congr 1
  by_cases h : j.was = []
  · by_cases h2 : j.was = j.now
    · have : atomR j.now = false := by rw [← h2, h]; rfl
      rw [this]
      simp
    · simp [h]
      intro _ h3
      exact h2 (by rw [h]; exact h3.symm)
  · cases atomR j.now <;> cases atomR j.was <;> simp [h]

/-! ### rising -/
theorem rise_iff : ∀ (l : List Bk), riseR l = true ↔ Rise (l.map (·.st))
  | [] => by simp [riseR, Rise]
  | [a] => by simp [riseR, Rise]
  | a :: b :: l => by
    have ih := rise_iff (b :: l)
    unfold riseR
    rw [Bool.and_eq_true, decide_eq_true_eq, ih]
    unfold Rise
    simp only [List.map_cons]
    rw [List.pairwise_cons (a := a.st)]
    constructor
    · rintro ⟨h1, h2⟩
      refine ⟨fun x hx => ?_, h2⟩
      rcases List.mem_cons.1 hx with rfl | hx
      · exact h1
      · exact List.lt_trans h1 ((List.pairwise_cons.1 h2).1 x hx)
    · rintro ⟨h1, h2⟩
      exact ⟨h1 _ (by simp), h2⟩

/-- What holds of the buckets ahead of place i. -/
def okTo (burst : Int) (l : List Bk) (i : Nat) : Prop := ∀ j b, j < i → l[j]? = some b → bkR burst b = true ∧ ∀ a, 0 < j → l[j - 1]? = some a → a.st < b.st

theorem okTo_zero (burst : Int) (l : List Bk) : okTo burst l 0 := fun j b hj _ => by omega
theorem okTo_step {burst : Int} {l : List Bk} {i : Nat} {b : Bk} (h : okTo burst l i) (hb : l[i]? = some b) (h1 : bkR burst b = true) (h2 : ∀ a, 0 < i → l[i - 1]? = some a → a.st < b.st) : okTo burst l (i + 1) := by
  intro j c hj hc
  by_cases e : j = i
  · subst e
    rw [hb] at hc; cases hc
    exact ⟨h1, h2⟩
  · exact h j c (by omega) hc

theorem riseR_of : ∀ (l : List Bk), (∀ j a b, l[j]? = some a → l[j + 1]? = some b → a.st < b.st) → riseR l = true
  | [], _ => rfl
  | [_], _ => rfl
  | a :: b :: l, h => by
    unfold riseR
    rw [Bool.and_eq_true, decide_eq_true_eq]
    exact ⟨h 0 a b rfl rfl, riseR_of (b :: l) fun j x y h1 h2 => h (j + 1) x y (by simpa using h1) (by simpa using h2)⟩
theorem riseR_at : ∀ (l : List Bk), riseR l = true → ∀ j a b, l[j]? = some a → l[j + 1]? = some b → a.st < b.st
  | [], _, j, a, b, h, _ => by simp at h
  | [_], _, j, a, b, _, h => by simp at h
  | x :: y :: l, hr, j, a, b, h1, h2 => by
    unfold riseR at hr
    rw [Bool.and_eq_true, decide_eq_true_eq] at hr
    cases j with
    | zero => simp at h1 h2; rw [← h1, ← h2]; exact hr.1
    | succ j => exact riseR_at (y :: l) hr.2 j a b (by simpa using h1) (by simpa using h2)

theorem limR_all {rate burst : Int} {l : List Bk} (h0 : hdR rate burst = true) (h1 : l.length ≤ 6) (h : okTo burst l l.length) : limR rate burst l = true := by
  unfold limR
  rw [h0, decide_eq_true h1]
  simp only [Bool.true_and, Bool.and_eq_true, List.all_eq_true]
  refine ⟨fun b hb => ?_, riseR_of l fun j a b ha hb => ?_⟩
  · obtain ⟨i, hi, e⟩ := List.getElem_of_mem hb
    exact (h i b hi (by rw [← e]; exact List.getElem?_eq_getElem hi)).1
  · have hj : j + 1 < l.length := (List.getElem?_eq_some_iff.1 hb).1
    exact (h (j + 1) b hj hb).2 a (by omega) (by simpa using ha)
theorem limR_no_b {rate burst : Int} {l : List Bk} {i : Nat} {b : Bk} (hb : l[i]? = some b) (h : bkR burst b = false) : limR rate burst l = false := by
  cases e : limR rate burst l with
  | false => rfl
  | true =>
    unfold limR at e
    simp only [Bool.and_eq_true, List.all_eq_true] at e
    rw [e.1.2 b (List.mem_of_getElem? hb)] at h; cases h
theorem limR_no_r {rate burst : Int} {l : List Bk} {i : Nat} {a b : Bk} (ha : l[i]? = some a) (hb : l[i + 1]? = some b) (h : ¬ a.st < b.st) : limR rate burst l = false := by
  cases e : limR rate burst l with
  | false => rfl
  | true =>
    unfold limR at e
    simp only [Bool.and_eq_true] at e
    exact absurd (riseR_at l e.2 i a b ha hb) h
theorem limR_no_len {rate burst : Int} {l : List Bk} (h : 6 < l.length) : limR rate burst l = false := by
  unfold limR
  rw [show decide (l.length ≤ 6) = false by simp; omega]
  simp
theorem limR_no_hd {rate burst : Int} {l : List Bk} (h : hdR rate burst = false) : limR rate burst l = false := by
  unfold limR
  rw [h]
  simp

/-! ### a jar, turned -/
structure LimOk (rate burst : Int) (l : List Bk) : Prop where
  r1 : 1 ≤ rate
  r2 : rate ≤ 10
  b1 : 1 ≤ burst
  b2 : burst ≤ 100
  few : l.length ≤ 6
  each : ∀ b ∈ l, atomR b.st = true ∧ 0 ≤ b.left ∧ b.left ≤ burst ∧ 0 ≤ b.at_ ∧ b.at_ ≤ 1000000
  rise : Rise (l.map (·.st))
theorem limOk {rate burst : Int} {l : List Bk} (h : limR rate burst l = true) : LimOk rate burst l := by
  unfold limR hdR at h
  simp only [Bool.and_eq_true, decide_eq_true_eq, List.all_eq_true] at h
  obtain ⟨⟨⟨⟨⟨h1, h2⟩, h3, h4⟩, h5⟩, h6⟩, h7⟩ := h
  refine ⟨h1, h2, h3, h4, h5, fun b hb => ?_, (rise_iff l).1 h7⟩
  have := h6 b hb
  unfold bkR timeR at this
  simp only [Bool.and_eq_true, decide_eq_true_eq] at this
  obtain ⟨⟨q1, q2, q3⟩, q4, q5⟩ := this
  exact ⟨q1, q2, q3, q4, q5⟩
end Go.Proofs.YtdikjmhnjlalbaaGreat.gdp

/- Buckets, as they lie in memory. -/
namespace Go.Proofs.YtdikjmhnjlalbaaGreat.rbk
open Go.RowKit Go.Proofs.YtdikjmhnjlalbaaGreat.tm Go.Proofs.YtdikjmhnjlalbaaGreat.bld Go.Proofs.YtdikjmhnjlalbaaGreat.gdp Go.Proofs.YtdikjmhnjlalbaaGreat.rdr
set_option linter.unusedVariables false

def adA (a : Ad) : Array Value := #[str a.st, str a.hs]
def jrA (j : Jr) : Array Value := #[str j.now, str j.was, .int .i64 j.at_, .int .i64 j.next]
def bkA (b : Bk) : Array Value := #[str b.st, .int .i64 b.left, .int .i64 b.at_]
def bkV (b : Bk) : Value := .agg (bkA b)
def lmA (rate burst : Int) (v : Value) : Array Value := #[.int .i64 rate, .int .i64 burst, v]

/-- A bucket lies in block g from place off on. -/
def LiesB (w : World) (g off : Nat) (b : Bk) : Prop :=
  w.cell? ⟨g, off, none⟩ = some (str b.st) ∧ w.cell? ⟨g, off + 1, none⟩ = some (.int .i64 b.left) ∧ w.cell? ⟨g, off + 2, none⟩ = some (.int .i64 b.at_)
theorem LiesB.same {w w' : World} {g off : Nat} {b : Bk} (h : LiesB w g off b) (hb : w'.heap[g]? = w.heap[g]?) : LiesB w' g off b :=
  ⟨(World.cell?_of_block hb).trans h.1, (World.cell?_of_block hb).trans h.2.1, (World.cell?_of_block hb).trans h.2.2⟩

/-- A slice of buckets. -/
def Rbk (w : World) (v : Value) (l : List Bk) : Prop :=
  (l = [] ∧ ∃ ad cap, v = .slice ad 0 cap) ∨ ∃ g off cap, v = .slice (some ⟨g, off, none⟩) l.length cap ∧ g < w.heap.size ∧ ∀ j b, l[j]? = some b → LiesB w g (off + j * 3) b

theorem Rbk.below {w w' : World} {v : Value} {l : List Bk} (h : Rbk w v l) (k : Below w.heap.size w w') : Rbk w' v l := by
  rcases h with h | ⟨g, off, cap, e, hg, hc⟩
  · exact .inl h
  · exact .inr ⟨g, off, cap, e, Nat.lt_of_lt_of_le hg k.size, fun j b hj => (hc j b hj).same (k.block g hg)⟩
theorem Rbk.still {w w' : World} {v : Value} {l : List Bk} (h : Rbk w v l) (k : Still w w') : Rbk w' v l := by
  rcases h with h | ⟨g, off, cap, e, hg, hc⟩
  · exact .inl h
  · exact .inr ⟨g, off, cap, e, by rw [k.heap]; exact hg, fun j b hj => (hc j b hj).same (by rw [k.heap])⟩
theorem Rbk.form {w : World} {v : Value} {l : List Bk} (h : Rbk w v l) : ∃ a c, v = .slice a l.length c := by
  rcases h with ⟨rfl, a, c, e⟩ | ⟨g, off, cap, e, _⟩
  · exact ⟨a, c, e⟩
  · exact ⟨_, _, e⟩
/-- The same, parted ahead of a walk: nothing, or a block. -/
theorem Rbk.part {w : World} {v : Value} {l : List Bk} (h : Rbk w v l) : (l = [] ∧ ∃ ad cap, v = .slice ad 0 cap) ∨ (∃ g off cap, v = .slice (some ⟨g, off, none⟩) l.length cap ∧ g < w.heap.size ∧ ∀ j b, l[j]? = some b → LiesB w g (off + j * 3) b) := h

/-- A slice of buckets that lies from block B on, below block C. -/
structure Rkb (w : World) (B C : Nat) (v : Value) (l : List Bk) : Prop where
  rbk : Rbk w v l
  blk : l ≠ [] → ∀ g, v.ownBlock = some g → B ≤ g ∧ g < C

/-- A slice of buckets that may be written, from block B on. -/
def Wbk (w : World) (B : Nat) (v : Value) (l : List Bk) : Prop :=
  (l = [] ∧ ∃ ad cap, v = .slice ad 0 cap) ∨ ∃ g off cap, v = .slice (some ⟨g, off, none⟩) l.length cap ∧ B ≤ g ∧ g < w.heap.size ∧ (∀ j b, l[j]? = some b → LiesB w g (off + j * 3) b) ∧ ∀ j, j < l.length * 3 → w.frozen? ⟨g, off + j, none⟩ = false
theorem Wbk.rbk {w : World} {B : Nat} {v : Value} {l : List Bk} (h : Wbk w B v l) : Rbk w v l := by
  rcases h with h | ⟨g, off, cap, e, _, hg, hc, _⟩
  · exact .inl h
  · exact .inr ⟨g, off, cap, e, hg, hc⟩
end Go.Proofs.YtdikjmhnjlalbaaGreat.rbk
