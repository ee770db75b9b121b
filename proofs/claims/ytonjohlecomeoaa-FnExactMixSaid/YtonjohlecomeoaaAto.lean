/- The atoms of a term: rising, no two alike: what sorting and compacting gives is what putting one after the other gives. Plain mathematics. -/
import Derived.Test.YtonjohlecomeoaaTm
import Derived.Lib.SlicesCompact
import Derived.Sort.EncStr
import Derived.Sort.Walk0
namespace Go.Proofs.Ytonjohlecomeoaa.ato
open Go Go.Proofs.Ytonjohlecomeoaa.tm
set_option linter.unusedVariables false

def aL : Tm → List Bs
  | .atom a => [a]
  | .pair l r => aL l ++ aL r
  | .hash x => aL x
  | .mac k x => aL k ++ aL x
  | .shut k x => aL k ++ aL x
  | .pub a => [a]
  | .dh a b => [a, b]

theorem aL_kids (T : Tm) (h : T.isAtom = false) : aL T = T.kids.flatMap aL := by
  cases T <;> first | (simp [Tm.isAtom] at h; done) | simp [aL, Tm.kids]

theorem kids_node (T : Tm) (h : T.isAtom = false) : (∃ x, T.kids = [x]) ∨ (∃ x y, T.kids = [x, y]) := by
  cases T with
  | atom a => cases h
  | pair x y => exact .inr ⟨x, y, rfl⟩
  | hash x => exact .inl ⟨x, rfl⟩
  | mac x y => exact .inr ⟨x, y, rfl⟩
  | shut x y => exact .inr ⟨x, y, rfl⟩
  | pub a => exact .inl ⟨.atom a, rfl⟩
  | dh a b => exact .inr ⟨.atom a, .atom b, rfl⟩

def put (l : List Bs) (t : Bs) : List Bs :=
  if l[(l.takeWhile (fun x => decide (x < t))).length]? = some t then l
  else l.take (l.takeWhile (fun x => decide (x < t))).length ++ t :: l.drop (l.takeWhile (fun x => decide (x < t))).length

theorem lt_or (x y : Bs) : x < y ∨ x = y ∨ y < x := by
  by_cases h1 : x < y
  · exact .inl h1
  by_cases h2 : y < x
  · exact .inr (.inr h2)
  · exact .inr (.inl (List.le_antisymm h2 h1))

abbrev Rise (l : List Bs) : Prop := l.Pairwise (· < ·)

theorem takeWhile_split (l : List Bs) (t : Bs) (h : Rise l) : ∃ a b, l = a ++ b ∧ (l.takeWhile (fun x => decide (x < t))).length = a.length ∧ (∀ x ∈ a, x < t) ∧ (∀ x ∈ b, ¬ x < t) := by
  induction l with
  | nil => exact ⟨[], [], rfl, rfl, by simp, by simp⟩
  | cons c l ih =>
    have h := List.pairwise_cons.1 h
    by_cases hc : c < t
    · obtain ⟨a, b, e, e2, h1, h2⟩ := ih h.2
      refine ⟨c :: a, b, by rw [e]; rfl, by simp [hc, e2], ?_, h2⟩
      intro x hx
      rcases List.mem_cons.1 hx with rfl | hx
      · exact hc
      · exact h1 x hx
    · refine ⟨[], c :: l, rfl, by simp [hc], by simp, ?_⟩
      intro x hx hxt
      rcases List.mem_cons.1 hx with rfl | hx
      · exact hc hxt
      · exact hc (List.lt_trans (h.1 x hx) hxt)

theorem put_rise (l : List Bs) (t : Bs) (h : Rise l) : Rise (put l t) ∧ ∀ x, x ∈ put l t ↔ x ∈ l ∨ x = t := by
  obtain ⟨a, b, e, e2, h1, h2⟩ := takeWhile_split l t h
  unfold put
  rw [e2]
  have hd : l[a.length]? = b[0]? := by rw [e, List.getElem?_append_right (Nat.le_refl _), Nat.sub_self]
  have ht : l.take a.length = a := by rw [e, List.take_left]
  have hr : l.drop a.length = b := by rw [e, List.drop_left]
  rw [hd, ht, hr]
  split
  · rename_i hb
    refine ⟨h, fun x => ⟨.inl, ?_⟩⟩
    rintro (hx | rfl)
    · exact hx
    · rw [e]; exact List.mem_append_right _ (List.mem_of_getElem? hb)
  · rename_i hb
    have hbt : ∀ x ∈ b, t < x := by
      intro x hx
      rcases lt_or x t with h3 | rfl | h3
      · exact absurd h3 (h2 x hx)
      · cases b with
        | nil => cases hx
        | cons c b =>
          rw [e] at h
          have hc := (List.pairwise_append.1 h).2.1
          rw [List.pairwise_cons] at hc
          rcases List.mem_cons.1 hx with rfl | hx'
          · exact absurd rfl hb
          · exact absurd (hc.1 x hx') (h2 c (by simp))
      · exact h3
    refine ⟨?_, fun x => ?_⟩
    · rw [e] at h
      obtain ⟨p1, p2, p3⟩ := List.pairwise_append.1 h
      refine List.pairwise_append.2 ⟨p1, List.pairwise_cons.2 ⟨hbt, p2⟩, ?_⟩
      intro x hx y hy
      rcases List.mem_cons.1 hy with rfl | hy
      · exact h1 x hx
      · exact p3 x hx y hy
    · rw [e]
      simp only [List.mem_append, List.mem_cons]
      constructor
      · rintro (h | h | h)
        · exact .inl (.inl h)
        · exact .inr h
        · exact .inl (.inr h)
      · rintro ((h | h) | h)
        · exact .inl h
        · exact .inr (.inr h)
        · exact .inr (.inl h)

/-- Two rising lists of the same members are one. -/
theorem rise_ext : ∀ (l m : List Bs), Rise l → Rise m → (∀ x, x ∈ l ↔ x ∈ m) → l = m
  | [], [], _, _, _ => rfl
  | [], b :: m, _, _, h => by have := (h b).2 (by simp); cases this
  | a :: l, [], _, _, h => by have := (h a).1 (by simp); cases this
  | a :: l, b :: m, hl, hm, h => by
    rw [Rise, List.pairwise_cons] at hl hm
    have hab : a = b := by
      rcases List.mem_cons.1 ((h a).1 (by simp)) with e | h1
      · exact e
      rcases List.mem_cons.1 ((h b).2 (by simp)) with e | h2
      · exact e.symm
      exact absurd (List.lt_trans (hl.1 b h2) (hm.1 a h1)) (List.lt_irrefl a)
    subst hab
    congr 1
    refine rise_ext l m hl.2 hm.2 fun x => ?_
    constructor
    · intro hx
      rcases List.mem_cons.1 ((h x).1 (by simp [hx])) with e | h1
      · subst e; exact absurd (hl.1 x hx) (List.lt_irrefl x)
      · exact h1
    · intro hx
      rcases List.mem_cons.1 ((h x).2 (by simp [hx])) with e | h1
      · subst e; exact absurd (hm.1 x hx) (List.lt_irrefl x)
      · exact h1

def puts (l : List Bs) (ts : List Bs) : List Bs := ts.foldl put l

theorem puts_rise : ∀ (ts l : List Bs), Rise l → Rise (puts l ts) ∧ ∀ x, x ∈ puts l ts ↔ x ∈ l ∨ x ∈ ts
  | [], l, h => ⟨h, by simp [puts]⟩
  | t :: ts, l, h => by
    obtain ⟨h1, h2⟩ := put_rise l t h
    obtain ⟨h3, h4⟩ := puts_rise ts (put l t) h1
    refine ⟨h3, fun x => ?_⟩
    show x ∈ puts (put l t) ts ↔ _
    rw [h4, h2, List.mem_cons, or_assoc]

theorem compact_rise (zs : List Bs) (h : zs.Pairwise (· ≤ ·)) : Rise (Lib.compact zs) ∧ ∀ x, x ∈ Lib.compact zs ↔ x ∈ zs := by
  have hg : ∀ i, i < zs.length → zs.toArray[i]! = zs[i]! := fun i hi => by simp [hi]
  have hle : ∀ i j, i ≤ j → j < zs.length → zs[i]! ≤ zs[j]! := by
    intro i j hij hj
    rcases Nat.lt_or_ge i j with h1 | h1
    · have := List.pairwise_iff_getElem.1 h i j (by omega) hj h1
      simpa [show i < zs.length by omega, hj] using this
    · obtain rfl : i = j := by omega
      exact List.le_refl _
  unfold Lib.compact Lib.compactUpTo
  refine ⟨?_, fun x => ?_⟩
  · rw [Rise, List.pairwise_map]
    refine (List.Pairwise.filter _ List.pairwise_lt_range).imp_of_mem ?_
    intro i j hi hj hij
    simp only [List.mem_filter, List.mem_range] at hi hj
    rw [hg i hi.1, hg j hj.1]
    have hk := hj.2
    unfold Lib.keeps at hk
    simp only [decide_eq_true_eq] at hk
    rcases hk with hk | hk
    · omega
    · rw [hg j hj.1, hg (j - 1) (by omega)] at hk
      have a1 := hle i (j - 1) (by omega) (by omega)
      have a2 := hle (j - 1) j (by omega) hj.1
      rcases lt_or zs[i]! zs[j]! with h1 | h1 | h1
      · exact h1
      · exfalso
        apply hk
        exact List.le_antisymm (h1 ▸ a1) a2
      · exact absurd h1 (List.le_trans a1 a2)
  · simp only [List.mem_map, List.mem_filter, List.mem_range]
    constructor
    · rintro ⟨i, ⟨hi, _⟩, rfl⟩
      rw [hg i hi]
      simp [hi]
    · intro hx
      obtain ⟨i, hi, rfl⟩ := List.mem_iff_getElem.1 hx
      -- the least place that holds it
      have : ∃ j, j ≤ i ∧ zs[j]! = zs[i]! ∧ Lib.keeps zs.toArray j = true := by
        have key : ∀ n, n ≤ i → zs[n]! = zs[i]! → ∃ j, j ≤ n ∧ zs[j]! = zs[i]! ∧ Lib.keeps zs.toArray j = true := by
          intro n
          induction n with
          | zero => exact fun _ e => ⟨0, Nat.le_refl _, e, by simp [Lib.keeps]⟩
          | succ n ih =>
            intro hn e
            by_cases e2 : zs[n]! = zs[i]!
            · obtain ⟨j, h1, h2, h3⟩ := ih (by omega) e2
              exact ⟨j, by omega, h2, h3⟩
            · refine ⟨n + 1, Nat.le_refl _, e, ?_⟩
              unfold Lib.keeps
              simp only [decide_eq_true_eq]
              right
              rw [hg (n + 1) (by omega), hg (n + 1 - 1) (by omega), e]
              exact fun e3 => e2 e3.symm
        exact key i (Nat.le_refl _) rfl
      obtain ⟨j, h1, h2, h3⟩ := this
      exact ⟨j, ⟨by omega, h3⟩, by rw [hg j (by omega), h2]; simp [hi]⟩

theorem sorted (zs : List Bs) : (zs.mergeSort fun x y => decide (x ≤ y)).Pairwise (· ≤ ·) := by
  have := List.pairwise_mergeSort (le := fun (x y : Bs) => decide (x ≤ y)) (fun a b c h1 h2 => by simp only [decide_eq_true_eq] at *; exact List.le_trans h1 h2)
    (fun a b => by simp only [Bool.or_eq_true, decide_eq_true_eq]; exact List.le_total a b) zs
  exact this.imp fun h => by simpa using h

/-- Sorted and compacted is put one by one. -/
theorem same (zs : List Bs) : Lib.compact (zs.mergeSort fun x y => decide (x ≤ y)) = puts [] zs := by
  obtain ⟨h1, h2⟩ := compact_rise _ (sorted zs)
  obtain ⟨h3, h4⟩ := puts_rise zs [] List.Pairwise.nil
  refine rise_ext _ _ h1 h3 fun x => ?_
  rw [h2, h4, List.mem_mergeSort]
  simp
end Go.Proofs.Ytonjohlecomeoaa.ato
