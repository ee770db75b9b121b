/- What Make answers, as a plain function: as the model reckons it, and as the program does. -/
import Derived.Test.YtonjohlecomeoaaSpm
import Derived.Test.YtonjohlecomeoaaAto
import Derived.Test.YtonjohlecomeoaaSr0
namespace Go.Proofs.Ytonjohlecomeoaa.mkp
open Go Go.RowKit Go.Proofs.Ytonjohlecomeoaa.tm Go.Proofs.Ytonjohlecomeoaa.spm Go.Proofs.Ytonjohlecomeoaa.its
set_option linter.unusedVariables false

/-- the terms of some texts, if all are right. -/
def terms : List Bs → Option (List Tm)
  | [] => some []
  | a :: l => match term a with
    | none => none
    | some T => match terms l with
      | none => none
      | some Ts => some (T :: Ts)

theorem terms_cons (a : Bs) (l : List Bs) : terms (a :: l) = (match term a with | none => none | some T => match terms l with | none => none | some Ts => some (T :: Ts)) := rfl
theorem terms_len : ∀ (l : List Bs) (Ts : List Tm), terms l = some Ts → Ts.length = l.length
  | [], Ts, h => by simp [terms] at h; subst h; rfl
  | a :: l, Ts, h => by
    rw [terms_cons] at h
    cases ha : term a with
    | none => rw [ha] at h; cases h
    | some T =>
      rw [ha] at h
      cases hs : terms l with
      | none => rw [hs] at h; cases h
      | some Us =>
        rw [hs] at h
        cases h
        simp [terms_len l Us hs]

def rights (op x : Bs) : Bool := (term x).isSome && (!secret op || atomR x)
def dhS (x y : Bs) : Bs := if gt x y then say oDh [y, x] else say oDh [x, y]
def madeT (op : Bs) (args : List Bs) : Bs := if op = oDh then (match args with | [x, y] => dhS x y | _ => []) else say op args
def finR (t : Bs) : Bs × Int := if (term t).isSome then (t, 0) else ([], 9)
def makeR (op : Bs) (args : List Bs) : Bs × Int :=
  if 400 < args.length ∨ 8000 < op.length then ([], 2)
  else if many op = 0 ∨ args.length ≠ many op then ([], 1)
  else if args.all (rights op) then finR (madeT op args) else ([], 1)

/-- .. as the program goes about it, the list being sorted where that is due. -/
def implR (op : Bs) (args : List Bs) : Bs × Int :=
  match terms args with
  | none => ([], 1)
  | some Ts => match build op Ts with
    | none => ([], 1)
    | some T => if T.tx.length ≤ 3000 ∧ T.deep ≤ 24 then (T.tx, 0) else ([], 9)
def sortedR (op : Bs) (args : List Bs) : List Bs := if op = oDh then srt args else args

theorem sortedR_len (op : Bs) (args : List Bs) : (sortedR op args).length = args.length := by
  unfold sortedR; split
  · exact srt_len _
  · rfl

theorem term_tx {T : Tm} (h : T.ok) : (term T.tx).isSome = decide (T.tx.length ≤ 3000 ∧ T.deep ≤ 24) := by
  by_cases hc : T.tx.length ≤ 3000 ∧ T.deep ≤ 24
  · rw [term_some.2 ⟨hc.1, h, hc.2, rfl⟩]; simp [hc]
  · cases ht : term T.tx with
    | none => simp [hc]
    | some U =>
      obtain ⟨h1, h2, h3, h4⟩ := term_some.1 ht
      have := tx_inj h h2 h4.symm
      subst this
      exact absurd ⟨h1, h3⟩ hc

theorem finR_tx {T : Tm} (h : T.ok) : finR T.tx = if T.tx.length ≤ 3000 ∧ T.deep ≤ 24 then (T.tx, 0) else ([], 9) := by
  unfold finR
  rw [term_tx h]
  by_cases hc : T.tx.length ≤ 3000 ∧ T.deep ≤ 24 <;> simp [hc]

theorem term_atom {x : Bs} (h : atomR x = true) : term x = some (.atom x) := by
  have := atomR_len h
  exact term_some.2 ⟨by omega, h, by simp [Tm.deep], rfl⟩
theorem term_not_atom {x : Bs} {X : Tm} (h : term x = some X) (ha : atomR x = false) : X.isAtom = false := by
  obtain ⟨_, h2, _, h4⟩ := term_some.1 h
  cases X with
  | atom a =>
    have : a = x := h4
    subst this
    rw [show atomR a = true from h2] at ha
    cases ha
  | _ => rfl

theorem implR_shape {op : Bs} {args : List Bs} (h : many op = 0 ∨ args.length ≠ many op) : implR op args = ([], 1) := by
  unfold implR
  cases ht : terms args with
  | none => rfl
  | some Ts =>
    cases hb : build op Ts with
    | none => simp [hb]
    | some T =>
      have h1 := build_many hb
      have h2 := terms_len _ _ ht
      omega

theorem implR_one {op x : Bs} (hm : many op = 1) : implR op [x] = if rights op x then finR (say op [x]) else ([], 1) := by
  have hop : op = oHash ∨ op = oPub := by
    unfold many at hm
    split at hm
    · cases hm
    · split at hm
      · assumption
      · cases hm
  unfold implR rights
  rw [terms_cons]
  cases hx : term x with
  | none => simp
  | some X =>
    obtain ⟨_, hX, _, htx⟩ := term_some.1 hx
    rcases hop with rfl | rfl
    · have : build oHash [X] = some (.hash X) := by simp [build, oPair, oHash]
      have e : secret oHash = false := by decide
      simp only [terms, this, e]
      rw [← htx]
      have := finR_tx (T := .hash X) hX
      simp only [Option.isSome_some, Bool.not_false, Bool.true_or, Bool.and_self, if_true]
      exact this.symm
    · have e : secret oPub = true := by decide
      cases ha : atomR x with
      | true =>
        rw [term_atom ha] at hx
        cases hx
        have : build oPub [.atom x] = some (.pub x) := by simp [build, oPair, oHash, oMac, oShut, oPub]
        simp only [terms, this, e]
        have := finR_tx (T := .pub x) ha
        simp only [Option.isSome_some, Bool.or_true, Bool.and_self, if_true]
        exact this.symm
      | false =>
        have hn := term_not_atom hx ha
        have : build oPub [X] = none := by
          cases X <;> first | (simp [Tm.isAtom] at hn; done) | (simp [build, oPair, oHash, oMac, oShut, oPub])
        simp [terms, this, e]

theorem implR_two {op x y : Bs} (hm : many op = 2) (hd : op ≠ oDh) : implR op [x, y] = if rights op x && rights op y then finR (say op [x, y]) else ([], 1) := by
  have hop : op = oPair ∨ op = oMac ∨ op = oShut := by
    unfold many at hm
    split at hm
    · rename_i h; rcases h with h | h | h | h
      · exact .inl h
      · exact .inr (.inl h)
      · exact .inr (.inr h)
      · exact absurd h hd
    · split at hm <;> cases hm
  have e : secret op = false := by rcases hop with rfl | rfl | rfl <;> decide
  unfold implR rights
  rw [terms_cons, terms_cons, e]
  cases hx : term x with
  | none => simp
  | some X =>
    cases hy : term y with
    | none => simp
    | some Y =>
      obtain ⟨_, hX, _, htx⟩ := term_some.1 hx
      obtain ⟨_, hY, _, hty⟩ := term_some.1 hy
      obtain ⟨T, hT, hok, ht⟩ : ∃ T, build op [X, Y] = some T ∧ T.ok ∧ T.tx = say op [x, y] := by
        rcases hop with rfl | rfl | rfl
        · exact ⟨.pair X Y, by simp [build], ⟨hX, hY⟩, by rw [← htx, ← hty]; rfl⟩
        · exact ⟨.mac X Y, by simp [build, oPair, oHash, oMac], ⟨hX, hY⟩, by rw [← htx, ← hty]; rfl⟩
        · exact ⟨.shut X Y, by simp [build, oPair, oHash, oMac, oShut], ⟨hX, hY⟩, by rw [← htx, ← hty]; rfl⟩
      simp only [terms, hT]
      rw [← ht, finR_tx hok]
      simp

theorem dh_none {X Y : Tm} (h : X.isAtom = false ∨ Y.isAtom = false) : build oDh [X, Y] = none := by
  cases X <;> cases Y <;> first | (simp [Tm.isAtom] at h; done) | simp [build, oPair, oHash, oMac, oShut, oPub, oDh]
theorem dh_some {a b : Bs} (h : gt a b = false) : build oDh [.atom a, .atom b] = some (.dh a b) := by
  simp [build, oPair, oHash, oMac, oShut, oPub, oDh, h]

/-- two secrets in their order. -/
theorem implR_dh {x y : Bs} (h : gt x y = false) : implR oDh [x, y] = if rights oDh x && rights oDh y then finR (say oDh [x, y]) else ([], 1) := by
  have e : secret oDh = true := by decide
  unfold implR rights
  rw [terms_cons, terms_cons, e]
  cases hx : term x with
  | none => simp
  | some X =>
    cases hy : term y with
    | none => simp
    | some Y =>
      simp only [terms, Option.isSome_some, Bool.not_true, Bool.false_or, Bool.true_and]
      cases ha : atomR x with
      | false =>
        rw [dh_none (.inl (term_not_atom hx ha))]
        simp
      | true =>
        cases hb : atomR y with
        | false =>
          rw [dh_none (.inr (term_not_atom hy hb))]
          simp
        | true =>
          rw [term_atom ha] at hx
          rw [term_atom hb] at hy
          cases hx
          cases hy
          rw [dh_some h]
          have := finR_tx (T := .dh x y) ⟨ha, hb, h⟩
          simp only [Bool.and_self, if_true]
          exact this.symm

open Go.Sort in
theorem bless_eq (x y : Bs) : Op.bytesLess x y = decide (x < y) := bytesLess_eq x y

theorem gt_lt (x y : Bs) : gt x y = decide (y < x) := by
  unfold gt
  rw [bless_eq]
  rcases ato.lt_or x y with h | h | h
  · have : ¬ y < x := fun e => List.lt_irrefl _ (List.lt_trans e h)
    simp [h, this]
  · subst h
    simp
  · have h1 : ¬ x < y := fun e => List.lt_irrefl _ (List.lt_trans e h)
    have h2 : ¬ x = y := fun e => by subst e; exact absurd h (List.lt_irrefl _)
    simp [h, h1, h2]

theorem srt_two (x y : Bs) : srt [x, y] = if gt x y then [y, x] else [x, y] := by
  unfold srt
  rw [gt_lt]
  have : ∀ (p : Bs → Bs → Bool), List.mergeSort [x, y] p = if p x y then [x, y] else [y, x] := fun p => by
    simp [List.mergeSort, List.MergeSort.Internal.splitInTwo, List.splitAt, List.splitAt.go, List.merge]
  rw [this]
  by_cases h : y < x
  · have : ¬ x ≤ y := fun e => e h
    simp [h, this]
  · have : x ≤ y := List.not_lt.1 h
    simp [h, this]

theorem gt_back {x y : Bs} (h : gt x y = true) : gt y x = false := by
  rw [gt_lt] at h ⊢
  have h : y < x := by simpa using h
  simpa using (fun e => List.lt_irrefl _ (List.lt_trans e h) : ¬ x < y)

theorem make_eq (op : Bs) (args : List Bs) (h1 : args.length ≤ 400) (h2 : op.length ≤ 8000) : implR op (sortedR op args) = makeR op args := by
  have hns : ¬ (400 < args.length ∨ 8000 < op.length) := by omega
  unfold makeR
  rw [if_neg hns]
  by_cases hs : many op = 0 ∨ args.length ≠ many op
  · rw [if_pos hs]
    exact implR_shape (by rw [sortedR_len]; exact hs)
  · rw [if_neg hs]
    have hm : args.length = many op := by omega
    have hcase : many op = 1 ∨ many op = 2 := by
      have : many op ≤ 2 := by unfold many; split; omega; split <;> omega
      omega
    rcases hcase with h | h
    · rw [h] at hm
      obtain ⟨x, rfl⟩ := List.length_eq_one_iff.1 hm
      have hd : op ≠ oDh := by rintro rfl; revert h; decide
      unfold sortedR madeT
      rw [if_neg hd, if_neg hd, implR_one h]
      simp
    · rw [h] at hm
      obtain ⟨x, y, rfl⟩ : ∃ x y, args = [x, y] := by
        match args, hm with
        | [x, y], _ => exact ⟨x, y, rfl⟩
      by_cases hd : op = oDh
      · subst hd
        unfold sortedR madeT
        rw [if_pos rfl, if_pos rfl, srt_two]
        simp only [List.all_cons, List.all_nil, Bool.and_true]
        unfold dhS
        cases hg : gt x y with
        | false =>
          simp only [Bool.false_eq_true, if_false]
          exact implR_dh hg
        | true =>
          simp only [if_true]
          rw [implR_dh (gt_back hg), Bool.and_comm]
      · unfold sortedR madeT
        rw [if_neg hd, if_neg hd, implR_two h hd]
        simp
end Go.Proofs.Ytonjohlecomeoaa.mkp
