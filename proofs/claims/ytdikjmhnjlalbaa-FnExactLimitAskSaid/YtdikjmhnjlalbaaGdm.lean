/- Buckets by their streets: what is asked, what is cleaned, what comes out in order. Plain mathematics. -/
import Derived.Test.YtdikjmhnjlalbaaGdp
namespace Go.Proofs.Ytdikjmhnjlalbaa.gdm
open Go Go.RowKit Go.Proofs.Ytdikjmhnjlalbaa.tm Go.Proofs.Ytdikjmhnjlalbaa.ltp Go.Proofs.Ytdikjmhnjlalbaa.ato Go.Proofs.Ytdikjmhnjlalbaa.gdp
set_option linter.unusedVariables false

theorem rise_nodup {l : List Bs} (h : Rise l) : l.Nodup := by
  refine List.Pairwise.imp (fun {a b} hlt e => ?_) h
  rw [e] at hlt
  exact List.lt_irrefl _ hlt

def sts (M : List Bk) : List Bs := M.map (·.st)
def look (M : List Bk) (x : Bs) : Option Bk := M.find? (fun b => decide (b.st = x))
def del (M : List Bk) (x : Bs) : List Bk := M.filter (fun b => decide (b.st ≠ x))
def set (M : List Bk) (b : Bk) : List Bk := del M b.st ++ [b]

theorem look_some {M : List Bk} {x : Bs} {b : Bk} (h : look M x = some b) : b ∈ M ∧ b.st = x := by
  unfold look at h
  exact ⟨List.mem_of_find?_eq_some h, by simpa using List.find?_some h⟩
theorem look_none {M : List Bk} {x : Bs} (h : look M x = none) : ∀ b ∈ M, b.st ≠ x := by
  unfold look at h
  intro b hb
  have := List.find?_eq_none.1 h b hb
  simpa using this
theorem one_of {M : List Bk} (hn : (sts M).Nodup) {b c : Bk} (hb : b ∈ M) (hc : c ∈ M) (h : b.st = c.st) : b = c := by
  induction M with
  | nil => cases hb
  | cons a M ih =>
    unfold sts at hn ih
    rw [List.map_cons, List.nodup_cons] at hn
    rcases List.mem_cons.1 hb with e1 | hb'
    · rcases List.mem_cons.1 hc with e2 | hc'
      · rw [e1, e2]
      · exact (hn.1 (List.mem_map.2 ⟨c, hc', by rw [← h, e1]⟩)).elim
    · rcases List.mem_cons.1 hc with e2 | hc'
      · exact (hn.1 (List.mem_map.2 ⟨b, hb', by rw [h, e2]⟩)).elim
      · exact ih hn.2 hb' hc'
theorem look_mem {M : List Bk} (hn : (sts M).Nodup) {b : Bk} (hb : b ∈ M) : look M b.st = some b := by
  cases h : look M b.st with
  | none => exact absurd rfl (look_none h b hb)
  | some c => obtain ⟨h1, h2⟩ := look_some h; rw [one_of hn h1 hb h2]
theorem look_iff {M : List Bk} (hn : (sts M).Nodup) {x : Bs} {b : Bk} : look M x = some b ↔ b ∈ M ∧ b.st = x :=
  ⟨look_some, fun ⟨h1, h2⟩ => by rw [← h2]; exact look_mem hn h1⟩

theorem del_sts (M : List Bk) (x : Bs) (hn : (sts M).Nodup) : (sts (del M x)).Nodup := by
  unfold sts del at *
  exact hn.sublist (List.Sublist.map _ List.filter_sublist)
theorem mem_del {M : List Bk} {x : Bs} {b : Bk} : b ∈ del M x ↔ b ∈ M ∧ b.st ≠ x := by unfold del; simp
theorem mem_set {M : List Bk} {c b : Bk} : b ∈ set M c ↔ (b ∈ M ∧ b.st ≠ c.st) ∨ b = c := by unfold set; rw [List.mem_append, mem_del]; simp
theorem set_sts (M : List Bk) (c : Bk) (hn : (sts M).Nodup) : (sts (set M c)).Nodup := by
  unfold set sts
  rw [List.map_append, List.nodup_append]
  refine ⟨del_sts M c.st hn, by simp, ?_⟩
  intro a ha b hb e
  obtain ⟨d, hd, rfl⟩ := List.mem_map.1 ha
  simp at hb
  exact (mem_del.1 hd).2 (by rw [e, hb])
theorem look_set (M : List Bk) (c : Bk) (hn : (sts M).Nodup) (x : Bs) : look (set M c) x = if x = c.st then some c else look M x := by
  have hs := set_sts M c hn
  split
  · rename_i e
    rw [e]
    exact look_mem hs (mem_set.2 (.inr rfl))
  · rename_i e
    cases h : look M x with
    | none =>
      cases h2 : look (set M c) x with
      | none => rfl
      | some d =>
        obtain ⟨h3, h4⟩ := look_some h2
        rcases mem_set.1 h3 with ⟨h5, _⟩ | rfl
        · exact absurd h4 (look_none h d h5)
        · exact absurd h4.symm e
    | some d =>
      obtain ⟨h3, h4⟩ := look_some h
      rw [look_iff hs]
      exact ⟨mem_set.2 (.inl ⟨h3, by rw [h4]; exact e⟩), h4⟩
theorem look_del (M : List Bk) (y : Bs) (hn : (sts M).Nodup) (x : Bs) : look (del M y) x = if x = y then none else look M x := by
  have hs := del_sts M y hn
  split
  · rename_i e
    cases h : look (del M y) x with
    | none => rfl
    | some d =>
      obtain ⟨h3, h4⟩ := look_some h
      exact absurd (h4.trans e) (mem_del.1 h3).2
  · rename_i e
    cases h : look M x with
    | none =>
      cases h2 : look (del M y) x with
      | none => rfl
      | some d =>
        obtain ⟨h3, h4⟩ := look_some h2
        exact absurd h4 (look_none h d (mem_del.1 h3).1)
    | some d =>
      obtain ⟨h3, h4⟩ := look_some h
      rw [look_iff hs]
      exact ⟨mem_del.2 ⟨h3, by rw [h4]; exact e⟩, h4⟩
theorem set_len (M : List Bk) (c : Bk) : (set M c).length ≤ M.length + 1 := by
  unfold set del
  rw [List.length_append]
  have := List.length_filter_le (fun b : Bk => decide (b.st ≠ c.st)) M
  simp at this ⊢
  omega

/-- Two rows that rise, of the same buckets, are one. -/
theorem rows_one {R R' : List Bk} (h : Rise (sts R)) (h' : Rise (sts R')) (hm : ∀ b, b ∈ R ↔ b ∈ R') : R = R' := by
  have e : sts R = sts R' := rise_ext _ _ h h' fun x => by
    unfold sts
    simp only [List.mem_map]
    exact ⟨fun ⟨b, hb, e⟩ => ⟨b, (hm b).1 hb, e⟩, fun ⟨b, hb, e⟩ => ⟨b, (hm b).2 hb, e⟩⟩
  have hn : (sts R').Nodup := rise_nodup h'
  have hl : R.length = R'.length := by have := congrArg List.length e; simpa [sts] using this
  refine List.ext_getElem hl fun i h1 h2 => ?_
  refine one_of hn ((hm _).1 (List.getElem_mem h1)) (List.getElem_mem h2) ?_
  have := congrArg (fun l : List Bs => l[i]?) e
  simp [sts, h1, h2] at this
  exact this

/-! ### what is asked -/
def nowR (rate burst : Int) (b : Bk) (now : Int) : Int := min burst (b.left + rate * (now - b.at_))
/-- The bucket behind one that is asked: what it had by now, less one, if there was one. -/
def less (n : Int) : Int := if 1 ≤ n then n - 1 else n

inductive AskR (rate burst : Int) (l : List Bk) (st : Bs) (now : Int) : List Bk → Bool → Int → Prop
  | late (b : Bk) (h : look l st = some b) (h2 : now < b.at_) : AskR rate burst l st now [] false 8
  | full (h : look l st = none) (h2 : l.length = 6) : AskR rate burst l st now [] false 9
  | there (b : Bk) (R : List Bk) (h : look l st = some b) (h2 : b.at_ ≤ now) (hr : Rise (sts R)) (hm : ∀ c, c ∈ R ↔ c ∈ set l ⟨st, less (nowR rate burst b now), now⟩) :
      AskR rate burst l st now R (decide (1 ≤ nowR rate burst b now)) 0
  | new (R : List Bk) (h : look l st = none) (h2 : l.length ≠ 6) (hr : Rise (sts R)) (hm : ∀ c, c ∈ R ↔ c ∈ set l ⟨st, less burst, now⟩) :
      AskR rate burst l st now R (decide (1 ≤ burst)) 0

theorem AskR.one {rate burst : Int} {l : List Bk} {st : Bs} {now : Int} {R R' : List Bk} {y y' : Bool} {c c' : Int} (h : AskR rate burst l st now R y c) (h' : AskR rate burst l st now R' y' c') : R = R' ∧ y = y' ∧ c = c' := by
  cases h with
  | late b h h2 =>
    cases h' with
    | late => exact ⟨rfl, rfl, rfl⟩
    | full k => rw [h] at k; cases k
    | there b' R' k k2 => rw [h] at k; cases k; omega
    | new R' k => rw [h] at k; cases k
  | full h h2 =>
    cases h' with
    | late b' k => rw [h] at k; cases k
    | full => exact ⟨rfl, rfl, rfl⟩
    | there b' R' k k2 => rw [h] at k; cases k
    | new R' k k2 => exact absurd h2 k2
  | there b R h h2 hr hm =>
    cases h' with
    | late b' k k2 => rw [h] at k; cases k; omega
    | full k => rw [h] at k; cases k
    | there b' R' k k2 kr km =>
      rw [h] at k; cases k
      exact ⟨rows_one hr kr fun c => (hm c).trans (km c).symm, rfl, rfl⟩
    | new R' k => rw [h] at k; cases k
  | new R h h2 hr hm =>
    cases h' with
    | late b' k => rw [h] at k; cases k
    | full k k2 => exact absurd k2 h2
    | there b' R' k => rw [h] at k; cases k
    | new R' k k2 kr km => exact ⟨rows_one hr kr fun c => (hm c).trans (km c).symm, rfl, rfl⟩

/-! ### the model's way: a place in the row -/
/-- k is the place of st in l: what stands ahead is below it, what stands there is not. -/
structure Place (l : List Bk) (st : Bs) (k : Nat) : Prop where
  le : k ≤ l.length
  lo : ∀ j b, j < k → l[j]? = some b → b.st < st
  hi : ∀ b, l[k]? = some b → ¬ b.st < st

theorem place_there {l : List Bk} {st : Bs} {k : Nat} (h : Place l st k) (hr : Rise (sts l)) {b : Bk} (hb : l[k]? = some b) (e : b.st = st) : look l st = some b :=
  (look_iff (rise_nodup hr)).2 ⟨List.mem_of_getElem? hb, e⟩
theorem place_above {l : List Bk} {st : Bs} {k : Nat} (h : Place l st k) (hr : Rise (sts l)) {j : Nat} {b : Bk} (hj : k ≤ j) (hb : l[j]? = some b) : ¬ b.st < st := by
  have hk : k < l.length := by have := (List.getElem?_eq_some_iff.1 hb).1; omega
  have h1 := h.hi l[k] (List.getElem?_eq_getElem hk)
  by_cases e : j = k
  · subst e; rw [List.getElem?_eq_getElem hk] at hb; cases hb; exact h1
  · intro h2
    have hjl := (List.getElem?_eq_some_iff.1 hb).1
    have h3 := List.pairwise_iff_getElem.1 hr k j (by simpa [sts] using hk) (by simpa [sts] using hjl) (by omega)
    simp [sts] at h3
    have h4 := (List.getElem?_eq_some_iff.1 hb).2
    rw [h4] at h3
    exact h1 (List.lt_trans h3 h2)
theorem place_none {l : List Bk} {st : Bs} {k : Nat} (h : Place l st k) (hr : Rise (sts l)) (hb : ∀ b, l[k]? = some b → b.st ≠ st) : look l st = none := by
  cases e : look l st with
  | none => rfl
  | some c =>
    obtain ⟨h1, h2⟩ := look_some e
    obtain ⟨j, hj, e3⟩ := List.getElem_of_mem h1
    have hj' : l[j]? = some c := by rw [← e3]; exact List.getElem?_eq_getElem hj
    rcases Nat.lt_trichotomy j k with h4 | h4 | h4
    · have := h.lo j c h4 hj'
      rw [h2] at this
      exact absurd this (List.lt_irrefl _)
    · subst h4; exact absurd h2 (hb c hj')
    · have hk : k < l.length := by omega
      have h5 := h.hi l[k] (List.getElem?_eq_getElem hk)
      have h3 := List.pairwise_iff_getElem.1 hr k j (by simpa [sts] using hk) (by simpa [sts] using hj) h4
      simp [sts] at h3
      rw [e3, h2] at h3
      exact absurd h3 h5

/-- The row that the model makes. -/
def laid (l : List Bk) (k : Nat) (has : Bool) (b : Bk) : List Bk := l.take k ++ b :: l.drop (if has then k + 1 else k)

theorem laid_ok {l : List Bk} {st : Bs} {k : Nat} (h : Place l st k) (hr : Rise (sts l)) (has : Bool) (hh : has = true ↔ ∃ b, l[k]? = some b ∧ b.st = st) (b : Bk) (hb : b.st = st) :
    Rise (sts (laid l k has b)) ∧ ∀ c, c ∈ laid l k has b ↔ c ∈ set l b := by
  have hlo : ∀ c ∈ l.take k, c.st < st := by
    intro c hc
    obtain ⟨i, hi, e⟩ := List.getElem_of_mem hc
    have hi' : i < k := by simp at hi; omega
    refine h.lo i c hi' ?_
    rw [← e, List.getElem_take]
    exact List.getElem?_eq_getElem _
  have hhi : ∀ c ∈ l.drop (if has then k + 1 else k), st < c.st := by
    intro c hc
    obtain ⟨i, hi, e⟩ := List.getElem_of_mem hc
    rw [List.getElem_drop] at e
    have hl : (if has = true then k + 1 else k) + i < l.length := by simp at hi; omega
    have hc' : l[(if has = true then k + 1 else k) + i]? = some c := by rw [← e]; exact List.getElem?_eq_getElem hl
    have h1 := place_above h hr (by split <;> omega) hc'
    rcases lt_or c.st st with h2 | h2 | h2
    · exact absurd h2 h1
    · exfalso
      by_cases hk : (if has = true then k + 1 else k) + i = k
      · rw [hk] at hc'
        have : has = true := hh.2 ⟨c, hc', h2⟩
        rw [this] at hk; simp at hk; omega
      · have hkl : k < l.length := by split at hl <;> omega
        have hge : k ≤ (if has = true then k + 1 else k) + i := by split <;> omega
        have hlt : k < (if has = true then k + 1 else k) + i := by omega
        have h3 := List.pairwise_iff_getElem.1 hr k ((if has = true then k + 1 else k) + i) (by simpa [sts] using hkl) (by simpa [sts] using hl) hlt
        simp [sts] at h3
        rw [(List.getElem?_eq_some_iff.1 hc').2, h2] at h3
        exact h.hi l[k] (List.getElem?_eq_getElem hkl) h3
    · exact h2
  constructor
  · unfold laid sts
    rw [List.map_append, List.map_cons]
    unfold Rise at hr ⊢
    refine List.pairwise_append.2 ⟨?_, List.pairwise_cons.2 ⟨?_, ?_⟩, ?_⟩
    · exact hr.sublist (List.Sublist.map _ (List.take_sublist _ _))
    · intro x hx
      obtain ⟨c, hc, rfl⟩ := List.mem_map.1 hx
      rw [hb]; exact hhi c hc
    · exact hr.sublist (List.Sublist.map _ (List.drop_sublist _ _))
    · intro x hx y hy
      obtain ⟨c, hc, rfl⟩ := List.mem_map.1 hx
      rcases List.mem_cons.1 hy with rfl | hy
      · rw [hb]; exact hlo c hc
      · obtain ⟨d, hd, rfl⟩ := List.mem_map.1 hy
        exact List.lt_trans (hlo c hc) (hhi d hd)
  · intro c
    rw [mem_set]
    unfold laid
    rw [List.mem_append, List.mem_cons, hb]
    constructor
    · rintro (h1 | rfl | h1)
      · refine .inl ⟨List.mem_of_mem_take h1, fun e => ?_⟩
        have := hlo c h1
        rw [e] at this
        exact List.lt_irrefl _ this
      · exact .inr rfl
      · refine .inl ⟨List.mem_of_mem_drop h1, fun e => ?_⟩
        have := hhi c h1
        rw [e] at this
        exact List.lt_irrefl _ this
    · rintro (⟨h1, h2⟩ | rfl)
      · obtain ⟨j, hj, e⟩ := List.getElem_of_mem h1
        rcases Nat.lt_trichotomy j k with h4 | h4 | h4
        · left
          rw [← e]
          refine List.mem_iff_getElem.2 ⟨j, by simp; omega, by rw [List.getElem_take]⟩
        · right; right
          have hc' : l[k]? = some c := by subst h4; rw [← e]; exact List.getElem?_eq_getElem hj
          have : has = false := by
            cases hx : has with
            | false => rfl
            | true =>
              obtain ⟨b', h5, h6⟩ := hh.1 hx
              rw [hc'] at h5; cases h5
              exact absurd h6 h2
          rw [this]
          refine List.mem_iff_getElem.2 ⟨0, by simp; omega, by rw [List.getElem_drop]; subst h4; simpa using e⟩
        · right; right
          refine List.mem_iff_getElem.2 ⟨j - (if has = true then k + 1 else k), by simp; split <;> omega, ?_⟩
          rw [List.getElem_drop]
          have ej : (if has = true then k + 1 else k) + (j - (if has = true then k + 1 else k)) = j := by split <;> omega
          simp only [ej]
          exact e
      · exact .inr (.inl rfl)

/-! ### what is cleaned -/
/-- What stays: of a time above now, or not full by now. -/
def stays (rate burst now : Int) (b : Bk) : Bool := decide (now < b.at_) || decide (nowR rate burst b now < burst)
def cleanR (rate burst : Int) (l : List Bk) (now : Int) : List Bk := l.filter (stays rate burst now)
theorem clean_rise {rate burst now : Int} {l : List Bk} (h : Rise (sts l)) : Rise (sts (cleanR rate burst l now)) := by
  unfold sts cleanR Rise at *
  exact h.sublist (List.Sublist.map _ List.filter_sublist)
theorem clean_one {rate burst now : Int} {l R : List Bk} (h : Rise (sts l)) (hr : Rise (sts R)) (hm : ∀ b, b ∈ R ↔ b ∈ l ∧ stays rate burst now b = true) : R = cleanR rate burst l now :=
  rows_one hr (clean_rise h) fun b => by rw [hm b]; unfold cleanR; simp
end Go.Proofs.Ytdikjmhnjlalbaa.gdm
