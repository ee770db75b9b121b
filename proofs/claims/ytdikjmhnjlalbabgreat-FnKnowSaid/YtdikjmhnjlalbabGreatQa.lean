/- Several small texts, one behind the other. -/
import Derived.WalkKit
import Derived.Lib.SlicesCompact
import Derived.Sort.EncStr
import Derived.Sort.Walk0

/- Terms as plain data: their text, what is right, how deep; a reader of texts as a plain function, sound and complete; the pieces between brackets. Nothing here speaks of the program. -/
namespace Go.Proofs.YtdikjmhnjlalbabGreat.tm
open Go
set_option linter.unusedVariables false

abbrev Bs := List UInt8

def isAt (c : UInt8) : Bool := (97 ≤ c && c ≤ 122) || (48 ≤ c && c ≤ 57)
def gt (a b : Bs) : Bool := !(Op.bytesLess a b || a == b)
def atomR (l : Bs) : Bool := decide (1 ≤ l.length) && decide (l.length ≤ 8) && l.all isAt

inductive Tm where
  | atom (a : Bs)
  | pair (l r : Tm)
  | hash (x : Tm)
  | mac (k x : Tm)
  | shut (k x : Tm)
  | pub (a : Bs)
  | dh (a b : Bs)

def oPair : Bs := [112, 97, 105, 114]
def oHash : Bs := [104, 97, 115, 104]
def oMac : Bs := [109, 97, 99]
def oShut : Bs := [115, 104, 117, 116]
def oPub : Bs := [112, 117, 98]
def oDh : Bs := [100, 104]

def Tm.op : Tm → Bs
  | .atom _ => []
  | .pair _ _ => oPair
  | .hash _ => oHash
  | .mac _ _ => oMac
  | .shut _ _ => oShut
  | .pub _ => oPub
  | .dh _ _ => oDh

def Tm.kids : Tm → List Tm
  | .atom _ => []
  | .pair l r => [l, r]
  | .hash x => [x]
  | .mac k x => [k, x]
  | .shut k x => [k, x]
  | .pub a => [.atom a]
  | .dh a b => [.atom a, .atom b]

def Tm.isAtom : Tm → Bool
  | .atom _ => true
  | _ => false

def Tm.deep : Tm → Nat
  | .atom _ => 1
  | .pair l r => max l.deep r.deep + 1
  | .hash x => x.deep + 1
  | .mac k x => max k.deep x.deep + 1
  | .shut k x => max k.deep x.deep + 1
  | .pub _ => 2
  | .dh _ _ => 2

def Tm.ok : Tm → Prop
  | .atom a => atomR a = true
  | .pair l r => l.ok ∧ r.ok
  | .hash x => x.ok
  | .mac k x => k.ok ∧ x.ok
  | .shut k x => k.ok ∧ x.ok
  | .pub a => atomR a = true
  | .dh a b => atomR a = true ∧ atomR b = true ∧ gt a b = false

def say (op : Bs) (ks : List Bs) : Bs := 91 :: (op ++ (ks.flatMap (32 :: ·) ++ [93]))

def Tm.tx : Tm → Bs
  | .atom a => a
  | .pair l r => say oPair [l.tx, r.tx]
  | .hash x => say oHash [x.tx]
  | .mac k x => say oMac [k.tx, x.tx]
  | .shut k x => say oShut [k.tx, x.tx]
  | .pub a => say oPub [a]
  | .dh a b => say oDh [a, b]

theorem tx_say (T : Tm) (h : T.isAtom = false) : T.tx = say T.op (T.kids.map Tm.tx) := by
  cases T <;> first | (simp [Tm.isAtom] at h; done) | simp [Tm.tx, Tm.op, Tm.kids]

theorem deep_pos (T : Tm) : 1 ≤ T.deep := by cases T <;> simp [Tm.deep]

theorem deep_kids (T : Tm) (h : T.isAtom = false) : T.deep = (T.kids.foldl (fun m k => max m k.deep) 0) + 1 := by
  cases T <;> first | (simp [Tm.isAtom] at h; done) | simp [Tm.deep, Tm.kids]

theorem kid_deep {T k : Tm} (h : k ∈ T.kids) : k.deep + 1 ≤ T.deep := by
  cases T <;> simp [Tm.kids] at h <;> (try rcases h with rfl | rfl) <;> (try subst h) <;> simp [Tm.deep] <;> omega

theorem kid_ok {T k : Tm} (hT : T.ok) (h : k ∈ T.kids) : k.ok := by
  cases T <;> simp [Tm.kids] at h <;> (try rcases h with rfl | rfl) <;> (try subst h) <;> simp_all [Tm.ok]

/-! ### the reader -/

def word (l : Bs) : Bs := l.takeWhile isAt
def past (l : Bs) : Bs := l.dropWhile isAt

def build (op : Bs) (ks : List Tm) : Option Tm :=
  if op = oPair then (match ks with | [a, b] => some (.pair a b) | _ => none)
  else if op = oHash then (match ks with | [a] => some (.hash a) | _ => none)
  else if op = oMac then (match ks with | [a, b] => some (.mac a b) | _ => none)
  else if op = oShut then (match ks with | [a, b] => some (.shut a b) | _ => none)
  else if op = oPub then (match ks with | [.atom a] => some (.pub a) | _ => none)
  else if op = oDh then (match ks with | [.atom a, .atom b] => if gt a b then none else some (.dh a b) | _ => none)
  else none

def ord : Tm → Prop
  | .dh a b => gt a b = false
  | _ => True

theorem build_some {op : Bs} {ks : List Tm} {T : Tm} (h : build op ks = some T) : T.isAtom = false ∧ T.op = op ∧ T.kids = ks ∧ ord T := by
  unfold build at h
  repeat' split at h
  all_goals first
    | (cases h; done)
    | (cases h; subst_vars; refine ⟨rfl, rfl, rfl, ?_⟩; first | trivial | (simp only [ord]; simpa using ‹¬ _ = true›))

theorem build_of (T : Tm) (h : T.isAtom = false) (ho : ord T) : build T.op T.kids = some T := by
  cases T <;> first | (simp [Tm.isAtom] at h; done) | (simp [build, Tm.op, Tm.kids, oPair, oHash, oMac, oShut, oPub, oDh]; done) | (simp [ord] at ho; simp [build, Tm.op, Tm.kids, oPair, oHash, oMac, oShut, oPub, oDh, ho])

theorem ok_iff (T : Tm) (h : T.isAtom = false) : T.ok ↔ (∀ k ∈ T.kids, k.ok) ∧ ord T := by
  cases T <;> first | (simp [Tm.isAtom] at h; done) | simp [Tm.ok, Tm.kids, ord, and_assoc]

def rdArgs (f : Bs → Option (Tm × Bs)) : Nat → Bs → Option (List Tm × Bs)
  | 0, l => some ([], l)
  | k + 1, l =>
    match l with
    | [] => some ([], [])
    | c :: l' =>
      if c = 32 then
        match f l' with
        | none => none
        | some (t, r) =>
          match rdArgs f k r with
          | none => none
          | some (ts, r') => some (t :: ts, r')
      else some ([], l)

def closed (op : Bs) : Option (List Tm × Bs) → Option (Tm × Bs)
  | some (ts, c :: r) => if c = 93 then (build op ts).map fun t => (t, r) else none
  | _ => none

def rd : Nat → Bs → Option (Tm × Bs)
  | 0, _ => none
  | n + 1, l =>
    if l.head? = some 91 then closed (word l.tail) (rdArgs (rd n) (past l.tail).length (past l.tail))
    else if atomR (word l) then some (.atom (word l), past l) else none

/-- what stands next is no byte of an atom. -/
def stop (r : Bs) : Prop := ∀ c, r.head? = some c → isAt c = false

theorem word_past (l : Bs) : word l ++ past l = l := List.takeWhile_append_dropWhile
theorem past_stop (l : Bs) : stop (past l) := by
  intro c hc
  induction l with
  | nil => simp [past] at hc
  | cons a l ih =>
    unfold past at hc ih
    rw [List.dropWhile_cons] at hc
    split at hc
    · exact ih hc
    · rename_i h
      simp at hc
      subst hc
      simpa using h
theorem word_of (a r : Bs) (ha : a.all isAt = true) (hr : stop r) : word (a ++ r) = a ∧ past (a ++ r) = r := by
  unfold word past
  induction a with
  | nil =>
    cases r with
    | nil => simp
    | cons c r => have := hr c rfl; simp [this]
  | cons c a ih =>
    simp only [List.all_cons, Bool.and_eq_true] at ha
    have := ih ha.2
    simp [ha.1, this]

theorem atomR_all {a : Bs} (h : atomR a = true) : a.all isAt = true := by simp [atomR] at h; simpa using h.2
theorem atomR_ne {a : Bs} (h : atomR a = true) : a ≠ [] := by rintro rfl; simp [atomR] at h
theorem atomR_len {a : Bs} (h : atomR a = true) : 1 ≤ a.length ∧ a.length ≤ 8 := by simp [atomR] at h; omega
theorem atomR_head {a : Bs} (h : atomR a = true) (r : Bs) : ∃ c, (a ++ r).head? = some c ∧ isAt c = true := by
  cases a with
  | nil => simp [atomR] at h
  | cons c a => exact ⟨c, rfl, by have := atomR_all h; simp at this; exact this.1⟩

theorem rdArgs_sound {f : Bs → Option (Tm × Bs)} {P : Tm → Prop} (hf : ∀ l t r, f l = some (t, r) → l = t.tx ++ r ∧ P t) :
    ∀ k l ts r, rdArgs f k l = some (ts, r) → l = (ts.map Tm.tx).flatMap (32 :: ·) ++ r ∧ ∀ t ∈ ts, P t
  | 0, l, ts, r, h => by simp [rdArgs] at h; obtain ⟨rfl, rfl⟩ := h; simp
  | k + 1, l, ts, r, h => by
    cases l with
    | nil => simp [rdArgs] at h; obtain ⟨rfl, rfl⟩ := h; simp
    | cons c l' =>
      rw [rdArgs] at h
      by_cases hc : c = 32
      · rw [if_pos hc] at h
        cases hq : f l' with
        | none => simp [hq] at h
        | some q =>
          obtain ⟨t, r1⟩ := q
          simp only [hq] at h
          cases hz : rdArgs f k r1 with
          | none => simp [hz] at h
          | some z =>
            obtain ⟨ts', r2⟩ := z
            simp only [hz, Option.some.injEq, Prod.mk.injEq] at h
            obtain ⟨rfl, rfl⟩ := h
            obtain ⟨e1, p1⟩ := hf _ _ _ hq
            obtain ⟨e2, p2⟩ := rdArgs_sound hf k r1 ts' r2 hz
            refine ⟨by rw [hc, e1, e2]; simp, ?_⟩
            intro t' ht'
            rcases List.mem_cons.1 ht' with rfl | ht'
            · exact p1
            · exact p2 _ ht'
      · rw [if_neg hc] at h
        simp at h
        obtain ⟨rfl, rfl⟩ := h
        simp

theorem rd_sound : ∀ n l T r, rd n l = some (T, r) → l = T.tx ++ r ∧ (T.ok ∧ T.deep ≤ n) ∧ (T.isAtom = true → stop r)
  | 0, l, T, r, h => by simp [rd] at h
  | n + 1, l, T, r, h => by
    rw [rd] at h
    by_cases hh : l.head? = some 91
    · rw [if_pos hh] at h
      obtain ⟨l', rfl⟩ : ∃ l', l = 91 :: l' := by cases l <;> simp at hh; subst hh; exact ⟨_, rfl⟩
      simp only [List.tail_cons] at h
      cases hz : rdArgs (rd n) (past l').length (past l') with
      | none => simp [hz, closed] at h
      | some z =>
        obtain ⟨ts, r1⟩ := z
        cases r1 with
        | nil => simp [hz, closed] at h
        | cons c r1 =>
          rw [hz, closed] at h
          by_cases hc : c = 93
          · rw [if_pos hc] at h
            cases hb : build (word l') ts with
            | none => simp [hb] at h
            | some t =>
              simp only [hb, Option.map_some, Option.some.injEq, Prod.mk.injEq] at h
              obtain ⟨rfl, rfl⟩ := h
              obtain ⟨b1, b2, b3, b4⟩ := build_some hb
              obtain ⟨e1, p1⟩ := rdArgs_sound (P := fun t => t.ok ∧ t.deep ≤ n) (fun l t r h => ⟨(rd_sound n l t r h).1, (rd_sound n l t r h).2.1⟩) _ _ _ _ hz
              refine ⟨?_, ⟨?_, ?_⟩, fun h => by rw [b1] at h; cases h⟩
              · rw [tx_say t b1, b2, b3]
                have := word_past l'
                rw [e1, hc] at this
                unfold say
                generalize word l' = W at this
                rw [← this]
                simp
              · exact (ok_iff t b1).2 ⟨fun k hk => (p1 k (b3 ▸ hk)).1, b4⟩
              · rw [deep_kids t b1, b3]
                have : ∀ (ks : List Tm) m, m ≤ n → (∀ k ∈ ks, k.deep ≤ n) → ks.foldl (fun m k => max m k.deep) m ≤ n := by
                  intro ks
                  induction ks with
                  | nil => intro m hm _; simpa using hm
                  | cons a ks ih => intro m hm hk; exact ih _ (by have := hk a (by simp); show max m a.deep ≤ n; omega) (fun k hk' => hk k (by simp [hk']))
                have := this ts 0 (Nat.zero_le _) (fun k hk => (p1 k hk).2)
                omega
          · rw [if_neg hc] at h
            cases h
    · rw [if_neg hh] at h
      split at h
      · rename_i ha
        simp only [Option.some.injEq, Prod.mk.injEq] at h
        obtain ⟨rfl, rfl⟩ := h
        exact ⟨(word_past l).symm, ⟨ha, by simp [Tm.deep]⟩, fun _ => past_stop l⟩
      · cases h

theorem rdArgs_complete {f : Bs → Option (Tm × Bs)} : ∀ (ts : List Tm), (∀ t ∈ ts, ∀ r, stop r → f (t.tx ++ r) = some (t, r)) →
    ∀ k r, ((ts.map Tm.tx).flatMap (32 :: ·) ++ r).length ≤ k → (∀ c, r.head? = some c → c ≠ 32) → stop r → rdArgs f k ((ts.map Tm.tx).flatMap (32 :: ·) ++ r) = some (ts, r)
  | [], _, k, r, hk, h32, hr => by
    cases k with
    | zero => simp [rdArgs]
    | succ k =>
      cases r with
      | nil => simp [rdArgs]
      | cons c r => have := h32 c rfl; simp [rdArgs, this]
  | t :: ts, hf, k, r, hk, h32, hr => by
    cases k with
    | zero => simp at hk
    | succ k =>
      have ih := rdArgs_complete ts (fun t' h' => hf t' (by simp [h'])) k r (by simp at hk ⊢; omega) h32 hr
      have hs : stop ((ts.map Tm.tx).flatMap (32 :: ·) ++ r) := by
        cases ts with
        | nil => simpa using hr
        | cons t' ts => intro c hc; simp at hc; subst hc; decide
      have h1 := hf t (by simp) _ hs
      simp only [List.map_cons, List.flatMap_cons, List.cons_append, List.append_assoc]
      rw [rdArgs, if_pos rfl, h1]
      simp only [ih]

theorem op_all (T : Tm) : T.op.all isAt = true := by cases T <;> rfl

theorem rd_complete : ∀ n T r, T.ok → T.deep ≤ n → (T.isAtom = true → stop r) → rd n (T.tx ++ r) = some (T, r)
  | 0, T, r, h, hd, _ => by have := deep_pos T; omega
  | n + 1, T, r, h, hd, hr => by
    rw [rd]
    by_cases ha : T.isAtom = true
    · cases T with
      | atom a =>
        obtain ⟨c, hc, hc2⟩ := atomR_head (show atomR a = true from h) r
        obtain ⟨e1, e2⟩ := word_of a r (atomR_all h) (hr rfl)
        rw [if_neg (by simp only [Tm.tx]; rw [hc]; intro e; cases e; revert hc2; decide)]
        simp only [Tm.tx, e1, e2]
        rw [if_pos (show atomR a = true from h)]
      | _ => simp [Tm.isAtom] at ha
    · have ha' : T.isAtom = false := by simpa using ha
      rw [tx_say T ha']
      unfold say
      have hst : stop (((T.kids.map Tm.tx).flatMap (32 :: ·)) ++ 93 :: r) := by
        intro c hc
        cases hk : T.kids with
        | nil => rw [hk] at hc; simp at hc; subst hc; decide
        | cons k ks => rw [hk] at hc; simp at hc; subst hc; decide
      obtain ⟨e1, e2⟩ := word_of T.op _ (op_all T) hst
      have hl : (91 :: (T.op ++ ((T.kids.map Tm.tx).flatMap (32 :: ·) ++ [93])) ++ r).tail = T.op ++ (((T.kids.map Tm.tx).flatMap (32 :: ·)) ++ 93 :: r) := by simp
      rw [if_pos (by simp), hl, e1, e2]
      rw [rdArgs_complete T.kids (fun t ht r hr => rd_complete n t r (kid_ok h ht) (by have := kid_deep ht; omega) (fun _ => hr)) _ (93 :: r) (Nat.le_refl _) (by simp) (by intro c hc; simp at hc; subst hc; decide)]
      rw [closed, if_pos rfl, build_of T ha' ((ok_iff T ha').1 h).2]
      rfl

/-- the whole text is a term, of at most such depth. -/
def pz (n : Nat) (l : Bs) : Option Tm :=
  match rd n l with
  | some (T, []) => some T
  | _ => none

theorem pz_some {n : Nat} {l : Bs} {T : Tm} : pz n l = some T ↔ T.ok ∧ T.deep ≤ n ∧ T.tx = l := by
  constructor
  · intro h
    unfold pz at h
    cases hr : rd n l with
    | none => simp [hr] at h
    | some q =>
      obtain ⟨t, r⟩ := q
      cases r with
      | nil =>
        simp only [hr, Option.some.injEq] at h
        subst h
        obtain ⟨e, ⟨a, b⟩, _⟩ := rd_sound n l _ _ hr
        exact ⟨a, b, by simpa using e.symm⟩
      | cons c r => simp [hr] at h
  · rintro ⟨a, b, rfl⟩
    have := rd_complete n T [] a b (fun _ c hc => by cases hc)
    rw [List.append_nil] at this
    unfold pz
    rw [this]

theorem tx_inj {T U : Tm} (hT : T.ok) (hU : U.ok) (h : T.tx = U.tx) : T = U := by
  have a := (pz_some (n := max T.deep U.deep) (l := T.tx)).2 ⟨hT, by omega, rfl⟩
  have b := (pz_some (n := max T.deep U.deep) (l := T.tx)).2 ⟨hU, by omega, h.symm⟩
  rw [a] at b
  exact Option.some.inj b

theorem pz_atom {n : Nat} {l : Bs} (hn : 1 ≤ n) (h : atomR l = true) : pz n l = some (.atom l) := pz_some.2 ⟨h, by simpa [Tm.deep] using hn, rfl⟩

/-- the term of a text handed in: at most 3000 bytes, 24 deep. -/
def term (l : Bs) : Option Tm := if l.length ≤ 3000 then pz 24 l else none

theorem term_some {l : Bs} {T : Tm} : term l = some T ↔ l.length ≤ 3000 ∧ T.ok ∧ T.deep ≤ 24 ∧ T.tx = l := by
  unfold term
  split
  · rename_i h; rw [pz_some]; simp [h]
  · rename_i h; simp [h]
end Go.Proofs.YtdikjmhnjlalbabGreat.tm

/- The atoms of a term: rising, no two alike: what sorting and compacting gives is what putting one after the other gives. Plain mathematics. -/
namespace Go.Proofs.YtdikjmhnjlalbabGreat.ato
open Go Go.Proofs.YtdikjmhnjlalbabGreat.tm
set_option linter.unusedVariables false

def aL : Tm → List Bs
  | .atom a => [a]
  | .pair l r => aL l ++ aL r
  | .hash x => aL x
  | .mac k x => aL k ++ aL x
  | .shut k x => aL k ++ aL x
  | .pub a => [a]
  | .dh a b => [a, b]

theorem aL_kids (T : Tm) (h : T.isAtom = false) : aL T = T.kids.flatMap aL := by
  cases T <;> first | (simp [Tm.isAtom] at h; done) | simp [aL, Tm.kids]

theorem kids_node (T : Tm) (h : T.isAtom = false) : (∃ x, T.kids = [x]) ∨ (∃ x y, T.kids = [x, y]) := by
  cases T with
  | atom a => cases h
  | pair x y => exact .inr ⟨x, y, rfl⟩
  | hash x => exact .inl ⟨x, rfl⟩
  | mac x y => exact .inr ⟨x, y, rfl⟩
  | shut x y => exact .inr ⟨x, y, rfl⟩
  | pub a => exact .inl ⟨.atom a, rfl⟩
  | dh a b => exact .inr ⟨.atom a, .atom b, rfl⟩

def put (l : List Bs) (t : Bs) : List Bs :=
  if l[(l.takeWhile (fun x => decide (x < t))).length]? = some t then l
  else l.take (l.takeWhile (fun x => decide (x < t))).length ++ t :: l.drop (l.takeWhile (fun x => decide (x < t))).length

theorem lt_or (x y : Bs) : x < y ∨ x = y ∨ y < x := by
  by_cases h1 : x < y
  · exact .inl h1
  by_cases h2 : y < x
  · exact .inr (.inr h2)
  · exact .inr (.inl (List.le_antisymm h2 h1))

abbrev Rise (l : List Bs) : Prop := l.Pairwise (· < ·)

theorem takeWhile_split (l : List Bs) (t : Bs) (h : Rise l) : ∃ a b, l = a ++ b ∧ (l.takeWhile (fun x => decide (x < t))).length = a.length ∧ (∀ x ∈ a, x < t) ∧ (∀ x ∈ b, ¬ x < t) := by
  induction l with
  | nil => exact ⟨[], [], rfl, rfl, by simp, by simp⟩
  | cons c l ih =>
    have h := List.pairwise_cons.1 h
    by_cases hc : c < t
    · obtain ⟨a, b, e, e2, h1, h2⟩ := ih h.2
      refine ⟨c :: a, b, by rw [e]; rfl, by simp [hc, e2], ?_, h2⟩
      intro x hx
      rcases List.mem_cons.1 hx with rfl | hx
      · exact hc
      · exact h1 x hx
    · refine ⟨[], c :: l, rfl, by simp [hc], by simp, ?_⟩
      intro x hx hxt
      rcases List.mem_cons.1 hx with rfl | hx
      · exact hc hxt
      · exact hc (List.lt_trans (h.1 x hx) hxt)

theorem put_rise (l : List Bs) (t : Bs) (h : Rise l) : Rise (put l t) ∧ ∀ x, x ∈ put l t ↔ x ∈ l ∨ x = t := by
  obtain ⟨a, b, e, e2, h1, h2⟩ := takeWhile_split l t h
  unfold put
  rw [e2]
  have hd : l[a.length]? = b[0]? := by rw [e, List.getElem?_append_right (Nat.le_refl _), Nat.sub_self]
  have ht : l.take a.length = a := by rw [e, List.take_left]
  have hr : l.drop a.length = b := by rw [e, List.drop_left]
  rw [hd, ht, hr]
  split
  · rename_i hb
    refine ⟨h, fun x => ⟨.inl, ?_⟩⟩
    rintro (hx | rfl)
    · exact hx
    · rw [e]; exact List.mem_append_right _ (List.mem_of_getElem? hb)
  · rename_i hb
    have hbt : ∀ x ∈ b, t < x := by
      intro x hx
      rcases lt_or x t with h3 | rfl | h3
      · exact absurd h3 (h2 x hx)
      · cases b with
        | nil => cases hx
        | cons c b =>
          rw [e] at h
          have hc := (List.pairwise_append.1 h).2.1
          rw [List.pairwise_cons] at hc
          rcases List.mem_cons.1 hx with rfl | hx'
          · exact absurd rfl hb
          · exact absurd (hc.1 x hx') (h2 c (by simp))
      · exact h3
    refine ⟨?_, fun x => ?_⟩
    · rw [e] at h
      obtain ⟨p1, p2, p3⟩ := List.pairwise_append.1 h
      refine List.pairwise_append.2 ⟨p1, List.pairwise_cons.2 ⟨hbt, p2⟩, ?_⟩
      intro x hx y hy
      rcases List.mem_cons.1 hy with rfl | hy
      · exact h1 x hx
      · exact p3 x hx y hy
    · rw [e]
      simp only [List.mem_append, List.mem_cons]
      constructor
      · rintro (h | h | h)
        · exact .inl (.inl h)
        · exact .inr h
        · exact .inl (.inr h)
      · rintro ((h | h) | h)
        · exact .inl h
        · exact .inr (.inr h)
        · exact .inr (.inl h)

/-- Two rising lists of the same members are one. -/
theorem rise_ext : ∀ (l m : List Bs), Rise l → Rise m → (∀ x, x ∈ l ↔ x ∈ m) → l = m
  | [], [], _, _, _ => rfl
  | [], b :: m, _, _, h => by have := (h b).2 (by simp); cases this
  | a :: l, [], _, _, h => by have := (h a).1 (by simp); cases this
  | a :: l, b :: m, hl, hm, h => by
    rw [Rise, List.pairwise_cons] at hl hm
    have hab : a = b := by
      rcases List.mem_cons.1 ((h a).1 (by simp)) with e | h1
      · exact e
      rcases List.mem_cons.1 ((h b).2 (by simp)) with e | h2
      · exact e.symm
      exact absurd (List.lt_trans (hl.1 b h2) (hm.1 a h1)) (List.lt_irrefl a)
    subst hab
    congr 1
    refine rise_ext l m hl.2 hm.2 fun x => ?_
    constructor
    · intro hx
      rcases List.mem_cons.1 ((h x).1 (by simp [hx])) with e | h1
      · subst e; exact absurd (hl.1 x hx) (List.lt_irrefl x)
      · exact h1
    · intro hx
      rcases List.mem_cons.1 ((h x).2 (by simp [hx])) with e | h1
      · subst e; exact absurd (hm.1 x hx) (List.lt_irrefl x)
      · exact h1

def puts (l : List Bs) (ts : List Bs) : List Bs := ts.foldl put l

theorem puts_rise : ∀ (ts l : List Bs), Rise l → Rise (puts l ts) ∧ ∀ x, x ∈ puts l ts ↔ x ∈ l ∨ x ∈ ts
  | [], l, h => ⟨h, by simp [puts]⟩
  | t :: ts, l, h => by
    obtain ⟨h1, h2⟩ := put_rise l t h
    obtain ⟨h3, h4⟩ := puts_rise ts (put l t) h1
    refine ⟨h3, fun x => ?_⟩
    show x ∈ puts (put l t) ts ↔ _
    rw [h4, h2, List.mem_cons, or_assoc]

theorem compact_rise (zs : List Bs) (h : zs.Pairwise (· ≤ ·)) : Rise (Lib.compact zs) ∧ ∀ x, x ∈ Lib.compact zs ↔ x ∈ zs := by
  have hg : ∀ i, i < zs.length → zs.toArray[i]! = zs[i]! := fun i hi => by simp [hi]
  have hle : ∀ i j, i ≤ j → j < zs.length → zs[i]! ≤ zs[j]! := by
    intro i j hij hj
    rcases Nat.lt_or_ge i j with h1 | h1
    · have := List.pairwise_iff_getElem.1 h i j (by omega) hj h1
      simpa [show i < zs.length by omega, hj] using this
    · obtain rfl : i = j := by omega
      exact List.le_refl _
  unfold Lib.compact Lib.compactUpTo
  refine ⟨?_, fun x => ?_⟩
  · rw [Rise, List.pairwise_map]
    refine (List.Pairwise.filter _ List.pairwise_lt_range).imp_of_mem ?_
    intro i j hi hj hij
    simp only [List.mem_filter, List.mem_range] at hi hj
    rw [hg i hi.1, hg j hj.1]
    have hk := hj.2
    unfold Lib.keeps at hk
    simp only [decide_eq_true_eq] at hk
    rcases hk with hk | hk
    · omega
    · rw [hg j hj.1, hg (j - 1) (by omega)] at hk
      have a1 := hle i (j - 1) (by omega) (by omega)
      have a2 := hle (j - 1) j (by omega) hj.1
      rcases lt_or zs[i]! zs[j]! with h1 | h1 | h1
      · exact h1
      · exfalso
        apply hk
        exact List.le_antisymm (h1 ▸ a1) a2
      · exact absurd h1 (List.le_trans a1 a2)
  · simp only [List.mem_map, List.mem_filter, List.mem_range]
    constructor
    · rintro ⟨i, ⟨hi, _⟩, rfl⟩
      rw [hg i hi]
      simp [hi]
    · intro hx
      obtain ⟨i, hi, rfl⟩ := List.mem_iff_getElem.1 hx
      -- the least place that holds it
      have : ∃ j, j ≤ i ∧ zs[j]! = zs[i]! ∧ Lib.keeps zs.toArray j = true := by
        have key : ∀ n, n ≤ i → zs[n]! = zs[i]! → ∃ j, j ≤ n ∧ zs[j]! = zs[i]! ∧ Lib.keeps zs.toArray j = true := by
          intro n
          induction n with
          | zero => exact fun _ e => ⟨0, Nat.le_refl _, e, by simp [Lib.keeps]⟩
          | succ n ih =>
            intro hn e
            by_cases e2 : zs[n]! = zs[i]!
            · obtain ⟨j, h1, h2, h3⟩ := ih (by omega) e2
              exact ⟨j, by omega, h2, h3⟩
            · refine ⟨n + 1, Nat.le_refl _, e, ?_⟩
              unfold Lib.keeps
              simp only [decide_eq_true_eq]
              right
              rw [hg (n + 1) (by omega), hg (n + 1 - 1) (by omega), e]
              exact fun e3 => e2 e3.symm
        exact key i (Nat.le_refl _) rfl
      obtain ⟨j, h1, h2, h3⟩ := this
      exact ⟨j, ⟨by omega, h3⟩, by rw [hg j (by omega), h2]; simp [hi]⟩

theorem sorted (zs : List Bs) : (zs.mergeSort fun x y => decide (x ≤ y)).Pairwise (· ≤ ·) := by
  have := List.pairwise_mergeSort (le := fun (x y : Bs) => decide (x ≤ y)) (fun a b c h1 h2 => by simp only [decide_eq_true_eq] at *; exact List.le_trans h1 h2)
    (fun a b => by simp only [Bool.or_eq_true, decide_eq_true_eq]; exact List.le_total a b) zs
  exact this.imp fun h => by simpa using h

/-- Sorted and compacted is put one by one. -/
theorem same (zs : List Bs) : Lib.compact (zs.mergeSort fun x y => decide (x ≤ y)) = puts [] zs := by
  obtain ⟨h1, h2⟩ := compact_rise _ (sorted zs)
  obtain ⟨h3, h4⟩ := puts_rise zs [] List.Pairwise.nil
  refine rise_ext _ _ h1 h3 fun x => ?_
  rw [h2, h4, List.mem_mergeSort]
  simp
end Go.Proofs.YtdikjmhnjlalbabGreat.ato

/- Known terms as plain data: what is built from what is there; what is taken: the least closed set; how the program takes, and how the model does. Plain mathematics. -/
namespace Go.Proofs.YtdikjmhnjlalbabGreat.kmp
open Go Go.Proofs.YtdikjmhnjlalbabGreat.tm Go.Proofs.YtdikjmhnjlalbabGreat.ato
set_option linter.unusedVariables false

/-- Is it built from what is there? -/
def bld (S : Bs → Bool) : Tm → Bool
  | .atom a => S a
  | .pub a => S (Tm.tx (.pub a)) || S a
  | .dh a b => S (Tm.tx (.dh a b)) || ((S a && (S (Tm.tx (.pub b)) || S b)) || (S b && (S (Tm.tx (.pub a)) || S a)))
  | .pair l r => S (Tm.tx (.pair l r)) || (bld S l && bld S r)
  | .hash x => S (Tm.tx (.hash x)) || bld S x
  | .mac k x => S (Tm.tx (.mac k x)) || (bld S k && bld S x)
  | .shut k x => S (Tm.tx (.shut k x)) || (bld S k && bld S x)

theorem bld_here {S : Bs → Bool} {T : Tm} (h : S T.tx = true) : bld S T = true := by
  cases T <;> simp only [bld, Tm.tx] at h ⊢ <;> simp [h]

theorem bld_mono {S S' : Bs → Bool} (h : ∀ x, S x = true → S' x = true) : ∀ T, bld S T = true → bld S' T = true
  | .atom a => h a
  | .pub a => by simp only [bld, Bool.or_eq_true]; exact Or.imp (h _) (h _)
  | .dh a b => by
    simp only [bld, Bool.or_eq_true, Bool.and_eq_true]
    rintro (h1 | ⟨h1, h2⟩ | ⟨h1, h2⟩)
    · exact .inl (h _ h1)
    · exact .inr (.inl ⟨h _ h1, h2.imp (h _) (h _)⟩)
    · exact .inr (.inr ⟨h _ h1, h2.imp (h _) (h _)⟩)
  | .pair l r => by
    simp only [bld, Bool.or_eq_true, Bool.and_eq_true]
    exact Or.imp (h _) (And.imp (bld_mono h l) (bld_mono h r))
  | .hash x => by
    simp only [bld, Bool.or_eq_true]
    exact Or.imp (h _) (bld_mono h x)
  | .mac k x => by
    simp only [bld, Bool.or_eq_true, Bool.and_eq_true]
    exact Or.imp (h _) (And.imp (bld_mono h k) (bld_mono h x))
  | .shut k x => by
    simp only [bld, Bool.or_eq_true, Bool.and_eq_true]
    exact Or.imp (h _) (And.imp (bld_mono h k) (bld_mono h x))

theorem bld_ext {S S' : Bs → Bool} (h : ∀ x, S x = S' x) (T : Tm) : bld S T = bld S' T := by
  rw [show S = S' from funext h]

/-- .. of one that is no atom, and no dh: all its kids are. -/
theorem bld_node (S : Bs → Bool) (T : Tm) (ha : T.isAtom = false) (hd : T.op ≠ oDh) : bld S T = (S T.tx || T.kids.all (bld S)) := by
  cases T <;> first | (simp [Tm.isAtom] at ha; done) | (simp [Tm.op] at hd; done) | simp [bld, Tm.kids]

def inn (L : List Bs) (x : Bs) : Bool := decide (x ∈ L)
theorem inn_iff {L : List Bs} {x : Bs} : inn L x = true ↔ x ∈ L := by simp [inn]
theorem inn_no {L : List Bs} {x : Bs} : inn L x = false ↔ ¬ x ∈ L := by simp [inn]

def opens (S : Bs → Bool) : Tm → Prop
  | .pair l r => S l.tx = true ∧ S r.tx = true
  | .shut k x => bld S k = true → S x.tx = true
  | _ => True

def Closed (S : Bs → Bool) : Prop := ∀ T : Tm, T.ok → S T.tx = true → opens S T

structure Least (l R : List Bs) : Prop where
  has : ∀ x ∈ l, x ∈ R
  closed : Closed (inn R)
  min : ∀ X : Bs → Bool, (∀ x ∈ l, X x = true) → Closed X → ∀ x ∈ R, X x = true

theorem least_ext {l R R' : List Bs} (h : Least l R) (h' : Least l R') (x : Bs) : x ∈ R ↔ x ∈ R' :=
  ⟨fun hx => inn_iff.1 (h.min (inn R') (fun y hy => inn_iff.2 (h'.has y hy)) h'.closed x hx), fun hx => inn_iff.1 (h'.min (inn R) (fun y hy => inn_iff.2 (h.has y hy)) h.closed x hx)⟩

/-! ### all that is taken is right -/
theorem kid_tx {T k : Tm} (h : k ∈ T.kids) : k.tx.length ≤ T.tx.length := by
  cases T <;> simp [Tm.kids] at h <;> (try rcases h with rfl | rfl) <;> (try subst h) <;> simp [Tm.tx, say] <;> omega

theorem term_kid {T k : Tm} (h : term T.tx = some T) (hk : k ∈ T.kids) : term k.tx = some k := by
  obtain ⟨h1, h2, h3, _⟩ := term_some.1 h
  have := kid_tx hk
  have := kid_deep hk
  exact term_some.2 ⟨by omega, kid_ok h2 hk, by omega, rfl⟩

theorem term_self {x : Bs} {T : Tm} (h : term x = some T) : term T.tx = some T := by
  rw [(term_some.1 h).2.2.2]; exact h

theorem closed_right : Closed fun x => (term x).isSome := by
  intro T hT h
  obtain ⟨U, hU⟩ := Option.isSome_iff_exists.1 h
  obtain ⟨_, hok, _, e⟩ := term_some.1 hU
  obtain rfl := tx_inj hok hT e
  cases U with
  | pair l r => exact ⟨by show (term l.tx).isSome = true; rw [term_kid hU (by simp [Tm.kids])]; rfl, by show (term r.tx).isSome = true; rw [term_kid hU (by simp [Tm.kids])]; rfl⟩
  | shut k x => exact fun _ => by show (term x.tx).isSome = true; rw [term_kid hU (by simp [Tm.kids])]; rfl
  | _ => trivial

/-! ### how many there can be -/
def subs : Tm → List Bs
  | .atom a => [a]
  | .pair l r => Tm.tx (.pair l r) :: (subs l ++ subs r)
  | .hash x => [Tm.tx (.hash x)]
  | .mac k x => [Tm.tx (.mac k x)]
  | .shut k x => Tm.tx (.shut k x) :: subs x
  | .pub a => [Tm.tx (.pub a)]
  | .dh a b => [Tm.tx (.dh a b)]

theorem subs_self (T : Tm) : T.tx ∈ subs T := by cases T <;> simp [subs, Tm.tx]

theorem tx_pos {T : Tm} (h : T.ok) : 1 ≤ T.tx.length := by
  cases T <;> simp [Tm.tx, say]
  have := (atomR_len h).1
  omega

theorem subs_len : ∀ T : Tm, T.ok → 3 * (subs T).length ≤ T.tx.length + 2
  | .atom a, h => by have := tx_pos h; simp [subs, Tm.tx] at this ⊢; omega
  | .pair l r, h => by
    have h1 := subs_len l h.1
    have h2 := subs_len r h.2
    simp [subs, Tm.tx, say, oPair]
    omega
  | .hash x, h => by simp [subs, Tm.tx, say]
  | .mac k x, h => by simp [subs, Tm.tx, say]
  | .shut k x, h => by
    have h2 := subs_len x h.2
    simp [subs, Tm.tx, say, oShut]
    omega
  | .pub a, h => by simp [subs, Tm.tx, say]
  | .dh a b, h => by simp [subs, Tm.tx, say]

theorem subs_open : ∀ T : Tm, T.ok → ∀ U : Tm, U.ok → U.tx ∈ subs T → match U with
    | .pair l r => l.tx ∈ subs T ∧ r.tx ∈ subs T
    | .shut k x => x.tx ∈ subs T
    | _ => True := by
  intro T
  induction T with
  | atom a =>
    intro hT U hU h
    simp only [subs, List.mem_singleton] at h
    obtain rfl := tx_inj hU (U := .atom a) hT h
    trivial
  | hash x =>
    intro hT U hU h
    simp only [subs, List.mem_singleton] at h
    obtain rfl := tx_inj hU hT h
    trivial
  | mac k x =>
    intro hT U hU h
    simp only [subs, List.mem_singleton] at h
    obtain rfl := tx_inj hU hT h
    trivial
  | pub a =>
    intro hT U hU h
    simp only [subs, List.mem_singleton] at h
    obtain rfl := tx_inj hU hT h
    trivial
  | dh a b =>
    intro hT U hU h
    simp only [subs, List.mem_singleton] at h
    obtain rfl := tx_inj hU hT h
    trivial
  | pair l r ihl ihr =>
    intro hT U hU h
    simp only [subs, List.mem_cons, List.mem_append] at h
    rcases h with h | h | h
    · obtain rfl := tx_inj hU hT h
      exact ⟨by simp [subs, subs_self], by simp [subs, subs_self]⟩
    · have := ihl hT.1 U hU h
      cases U with
      | pair a b => exact ⟨by simp [subs, this.1], by simp [subs, this.2]⟩
      | shut a b => show b.tx ∈ _; have : b.tx ∈ subs l := this; simp [subs, this]
      | _ => trivial
    · have := ihr hT.2 U hU h
      cases U with
      | pair a b => exact ⟨by simp [subs, this.1], by simp [subs, this.2]⟩
      | shut a b => show b.tx ∈ _; have : b.tx ∈ subs r := this; simp [subs, this]
      | _ => trivial
  | shut k x ihk ihx =>
    intro hT U hU h
    simp only [subs, List.mem_cons] at h
    rcases h with h | h
    · obtain rfl := tx_inj hU hT h
      show x.tx ∈ _
      simp [subs, subs_self]
    · have := ihx hT.2 U hU h
      cases U with
      | pair a b => exact ⟨by simp [subs, this.1], by simp [subs, this.2]⟩
      | shut a b => show b.tx ∈ _; have : b.tx ∈ subs x := this; simp [subs, this]
      | _ => trivial

theorem closed_subs (Ts : List Tm) (h : ∀ T ∈ Ts, T.ok) : Closed (inn (Ts.flatMap subs)) := by
  intro U hU hx
  obtain ⟨T, hT, hx⟩ := List.mem_flatMap.1 (inn_iff.1 hx)
  have := subs_open T (h T hT) U hU hx
  cases U with
  | pair a b => exact ⟨inn_iff.2 (List.mem_flatMap.2 ⟨T, hT, this.1⟩), inn_iff.2 (List.mem_flatMap.2 ⟨T, hT, this.2⟩)⟩
  | shut a b => exact fun _ => inn_iff.2 (List.mem_flatMap.2 ⟨T, hT, this⟩)
  | _ => trivial

theorem subs_all : ∀ (Ts : List Tm), (∀ T ∈ Ts, T.ok ∧ T.tx.length ≤ 3000) → (Ts.flatMap subs).length ≤ 1001 * Ts.length
  | [], _ => by simp
  | T :: Ts, h => by
    have h1 := subs_len T (h T (by simp)).1
    have h2 := (h T (by simp)).2
    have h3 := subs_all Ts fun U hU => h U (by simp [hU])
    simp [List.flatMap_cons]
    simp at h3
    omega

theorem nodup_le {L U : List Bs} (hn : L.Nodup) (h : ∀ x ∈ L, x ∈ U) : L.length ≤ U.length := by
  induction L generalizing U with
  | nil => simp
  | cons a L ih =>
    have hn := List.nodup_cons.1 hn
    have ha : a ∈ U := h a (by simp)
    have := ih (U := U.erase a) hn.2 fun x hx => by
      have hne : x ≠ a := fun e => hn.1 (e ▸ hx)
      exact (List.mem_erase_of_ne hne).2 (h x (by simp [hx]))
    have e := List.length_erase_of_mem ha
    have : 1 ≤ U.length := List.length_pos_of_mem ha
    simp
    omega

/-! ### how the program takes -/
abbrev St := List Bs × List Tm

def tk : Tm → St → St
  | .pair l r, s => if Tm.tx (.pair l r) ∈ s.1 then s else tk r (tk l (s.1 ++ [Tm.tx (.pair l r)], s.2))
  | .shut k x, s => if Tm.tx (.shut k x) ∈ s.1 then s else (s.1 ++ [Tm.tx (.shut k x)], s.2 ++ [.shut k x])
  | T, s => if T.tx ∈ s.1 then s else (s.1 ++ [T.tx], s.2)

structure Tk (T : Tm) (s s' : St) (D : List Bs) (E : List Tm) : Prop where
  l : s'.1 = s.1 ++ D
  c : s'.2 = s.2 ++ E
  here : T.tx ∈ s'.1
  nd : s.1.Nodup → s'.1.Nodup
  acc : ∀ U : Tm, U.ok → U.tx ∈ D → match U with
    | .pair l r => l.tx ∈ s'.1 ∧ r.tx ∈ s'.1
    | .shut k x => U ∈ E
    | _ => True
  mine : ∀ U ∈ E, U.ok ∧ U.tx ∈ D ∧ ∃ k x, U = .shut k x
  min : ∀ X : Bs → Bool, Closed X → X T.tx = true → ∀ x ∈ D, X x = true

theorem Tk.old {T : Tm} {s : St} (h : T.tx ∈ s.1) : Tk T s s [] [] :=
  ⟨by simp, by simp, h, id, by simp, by simp, by simp⟩

theorem nodup_snoc {L : List Bs} {x : Bs} (h : L.Nodup) (hx : ¬ x ∈ L) : (L ++ [x]).Nodup := by
  rw [List.nodup_append]
  exact ⟨h, by simp, fun a ha b hb e => by simp at hb; subst hb; subst e; exact hx ha⟩

theorem Tk.leaf {T : Tm} (hT : T.ok) {s : St} (h : ¬ T.tx ∈ s.1) (hp : ∀ l r, T ≠ .pair l r) (hs : ∀ k x, T ≠ .shut k x) : Tk T s (s.1 ++ [T.tx], s.2) [T.tx] [] where
  l := rfl
  c := by simp
  here := by simp
  nd hn := nodup_snoc hn h
  acc U hU hx := by
    simp only [List.mem_singleton] at hx
    obtain rfl := tx_inj hU hT hx
    cases U with
    | pair l r => exact absurd rfl (hp l r)
    | shut k x => exact absurd rfl (hs k x)
    | _ => trivial
  mine := by simp
  min X _ hx x h := by simp at h; subst h; exact hx

theorem tk_spec : ∀ (T : Tm), T.ok → ∀ s : St, ∃ D E, Tk T s (tk T s) D E := by
  intro T
  induction T with
  | pair l r ihl ihr =>
    intro hT s
    rw [tk]
    split
    · rename_i h; exact ⟨[], [], Tk.old h⟩
    · rename_i h
      obtain ⟨D1, E1, t1⟩ := ihl hT.1 (s.1 ++ [Tm.tx (.pair l r)], s.2)
      obtain ⟨D2, E2, t2⟩ := ihr hT.2 (tk l (s.1 ++ [Tm.tx (.pair l r)], s.2))
      have sub1 : ∀ x, x ∈ (tk l (s.1 ++ [Tm.tx (.pair l r)], s.2)).1 → x ∈ (tk r (tk l (s.1 ++ [Tm.tx (.pair l r)], s.2))).1 := fun x hx => by rw [t2.l]; exact List.mem_append_left _ hx
      refine ⟨Tm.tx (.pair l r) :: (D1 ++ D2), E1 ++ E2, ?_, ?_, ?_, ?_, ?_, ?_, ?_⟩
      · rw [t2.l, t1.l]; simp
      · rw [t2.c, t1.c]; simp
      · exact sub1 _ (by rw [t1.l]; simp)
      · exact fun hn => t2.nd (t1.nd (nodup_snoc hn h))
      · intro U hU hx
        simp only [List.mem_cons, List.mem_append] at hx
        rcases hx with hx | hx | hx
        · obtain rfl := tx_inj hU hT hx
          exact ⟨sub1 _ t1.here, t2.here⟩
        · have := t1.acc U hU hx
          cases U with
          | pair a b => exact ⟨sub1 _ this.1, sub1 _ this.2⟩
          | shut a b => show _ ∈ E1 ++ E2; exact List.mem_append_left _ this
          | _ => trivial
        · have := t2.acc U hU hx
          cases U with
          | pair a b => exact this
          | shut a b => show _ ∈ E1 ++ E2; exact List.mem_append_right _ this
          | _ => trivial
      · intro U hU
        rcases List.mem_append.1 hU with hU | hU
        · obtain ⟨a, b, c⟩ := t1.mine U hU
          exact ⟨a, by simp [b], c⟩
        · obtain ⟨a, b, c⟩ := t2.mine U hU
          exact ⟨a, by simp [b], c⟩
      · intro X hX hx x h
        have ho : opens X (.pair l r) := hX _ hT hx
        simp only [List.mem_cons, List.mem_append] at h
        rcases h with rfl | h | h
        · exact hx
        · exact t1.min X hX ho.1 x h
        · exact t2.min X hX ho.2 x h
  | shut k x ihk ihx =>
    intro hT s
    rw [tk]
    split
    · rename_i h; exact ⟨[], [], Tk.old h⟩
    · rename_i h
      refine ⟨[Tm.tx (.shut k x)], [.shut k x], rfl, rfl, by simp, fun hn => nodup_snoc hn h, ?_, ?_, ?_⟩
      · intro U hU hx
        simp only [List.mem_singleton] at hx
        obtain rfl := tx_inj hU hT hx
        show _ ∈ [_]
        simp
      · intro U hU
        simp only [List.mem_singleton] at hU
        subst hU
        exact ⟨hT, by simp, _, _, rfl⟩
      · intro X _ hx x h
        simp only [List.mem_singleton] at h
        subst h
        exact hx
  | atom a =>
    intro hT s
    unfold tk
    split
    · rename_i h; exact ⟨[], [], Tk.old h⟩
    · rename_i h; exact ⟨_, _, Tk.leaf hT h (by simp) (by simp)⟩
  | hash x =>
    intro hT s
    unfold tk
    split
    · rename_i h; exact ⟨[], [], Tk.old h⟩
    · rename_i h; exact ⟨_, _, Tk.leaf hT h (by simp) (by simp)⟩
  | mac k x =>
    intro hT s
    unfold tk
    split
    · rename_i h; exact ⟨[], [], Tk.old h⟩
    · rename_i h; exact ⟨_, _, Tk.leaf hT h (by simp) (by simp)⟩
  | pub a =>
    intro hT s
    unfold tk
    split
    · rename_i h; exact ⟨[], [], Tk.old h⟩
    · rename_i h; exact ⟨_, _, Tk.leaf hT h (by simp) (by simp)⟩
  | dh a b =>
    intro hT s
    unfold tk
    split
    · rename_i h; exact ⟨[], [], Tk.old h⟩
    · rename_i h; exact ⟨_, _, Tk.leaf hT h (by simp) (by simp)⟩

/-- What holds while it is taken: l: the known ones; h: those of them that are gone through; tr: what is shut, and still to be tried. -/
structure Inv (l h : List Bs) (tr : List Tm) (s : St) : Prop where
  nd : s.1.Nodup
  has : ∀ x ∈ h, x ∈ s.1
  acc : ∀ U : Tm, U.ok → U.tx ∈ s.1 → match U with
    | .pair a b => a.tx ∈ s.1 ∧ b.tx ∈ s.1
    | .shut k x => (U ∈ s.2 ∨ U ∈ tr) ∨ x.tx ∈ s.1
    | _ => True
  mine : ∀ U, U ∈ s.2 ∨ U ∈ tr → U.ok ∧ U.tx ∈ s.1 ∧ ∃ k x, U = .shut k x
  min : ∀ X : Bs → Bool, (∀ x ∈ l, X x = true) → Closed X → ∀ x ∈ s.1, X x = true

theorem Inv.start (l : List Bs) : Inv l [] [] ([], []) :=
  ⟨by simp, by simp, by simp, by simp, by simp⟩

/-- One is taken, of which each closed set has it. -/
theorem Inv.take {l h : List Bs} {tr tr' : List Tm} {s : St} (i : Inv l h tr s) {T : Tm} (hT : T.ok) (hX : ∀ X : Bs → Bool, (∀ x ∈ l, X x = true) → Closed X → X T.tx = true)
    (htr : ∀ U, U ∈ tr' → U ∈ tr) (ho : ∀ U : Tm, U ∈ tr → U ∈ tr' ∨ ∃ k, U = .shut k T) : Inv l (h ++ [T.tx]) tr' (tk T s) := by
  obtain ⟨D, E, t⟩ := tk_spec T hT s
  have sub : ∀ x, x ∈ s.1 → x ∈ (tk T s).1 := fun x hx => by rw [t.l]; exact List.mem_append_left _ hx
  refine ⟨t.nd i.nd, ?_, ?_, ?_, ?_⟩
  · intro x hx
    rcases List.mem_append.1 hx with hx | hx
    · exact sub _ (i.has x hx)
    · simp only [List.mem_singleton] at hx; subst hx; exact t.here
  · intro U hU hx
    rw [t.l] at hx
    rcases List.mem_append.1 hx with hx | hx
    · have := i.acc U hU hx
      cases U with
      | pair a b => exact ⟨sub _ this.1, sub _ this.2⟩
      | shut k x =>
        rcases this with (h1 | h1) | h1
        · exact .inl (.inl (by rw [t.c]; exact List.mem_append_left _ h1))
        · rcases ho _ h1 with h2 | ⟨k', h2⟩
          · exact .inl (.inr h2)
          · cases h2; exact .inr t.here
        · exact .inr (sub _ h1)
      | _ => trivial
    · have := t.acc U hU hx
      cases U with
      | pair a b => exact this
      | shut k x => exact .inl (.inl (by rw [t.c]; exact List.mem_append_right _ this))
      | _ => trivial
  · intro U hU
    have key : U ∈ s.2 ∨ U ∈ tr ∨ U ∈ E := by
      rcases hU with hU | hU
      · rw [t.c] at hU
        rcases List.mem_append.1 hU with hU | hU
        · exact .inl hU
        · exact .inr (.inr hU)
      · exact .inr (.inl (htr U hU))
    rcases key with h1 | h1 | h1
    · obtain ⟨a, b, c⟩ := i.mine U (.inl h1); exact ⟨a, sub _ b, c⟩
    · obtain ⟨a, b, c⟩ := i.mine U (.inr h1); exact ⟨a, sub _ b, c⟩
    · obtain ⟨a, b, c⟩ := t.mine U h1; exact ⟨a, by rw [t.l]; exact List.mem_append_right _ b, c⟩
  · intro X h1 h2 x hx
    rw [t.l] at hx
    rcases List.mem_append.1 hx with hx | hx
    · exact i.min X h1 h2 x hx
    · exact t.min X h2 (hX X h1 h2) x hx

theorem Inv.forget {l h h' : List Bs} {tr : List Tm} {s : St} (i : Inv l h tr s) (hh : ∀ x ∈ h', x ∈ h) : Inv l h' tr s :=
  ⟨i.nd, fun x hx => i.has x (hh x hx), i.acc, i.mine, i.min⟩

/-- What is shut is opened, its key being built. -/
theorem Inv.opened {l h : List Bs} {k x : Tm} {tr : List Tm} {s : St} (i : Inv l h (.shut k x :: tr) s) (hb : bld (inn s.1) k = true) : Inv l h tr (tk x s) := by
  obtain ⟨a, b, _⟩ := i.mine (.shut k x) (.inr (by simp))
  refine (i.take a.2 (fun X h1 h2 => ?_) (fun U hU => by simp [hU]) fun U hU => ?_).forget fun x hx => by simp [hx]
  · have h3 : X (Tm.tx (.shut k x)) = true := i.min X h1 h2 _ b
    have h4 : opens X (.shut k x) := h2 _ a h3
    exact h4 (bld_mono (fun y hy => i.min X h1 h2 y (inn_iff.1 hy)) k hb)
  · rcases List.mem_cons.1 hU with rfl | hU
    · exact .inr ⟨k, rfl⟩
    · exact .inl hU

theorem Inv.kept {l h : List Bs} {U : Tm} {tr : List Tm} {s : St} (i : Inv l h (U :: tr) s) : Inv l h tr (s.1, s.2 ++ [U]) := by
  refine ⟨i.nd, i.has, fun V hV hx => ?_, fun V hV => i.mine V ?_, i.min⟩
  · have := i.acc V hV hx
    cases V with
    | pair a b => exact this
    | shut k x =>
      rcases this with (h1 | h1) | h1
      · exact .inl (.inl (List.mem_append_left _ h1))
      · rcases List.mem_cons.1 h1 with h1 | h1
        · exact .inl (.inl (by rw [h1]; simp))
        · exact .inl (.inr h1)
      · exact .inr h1
    | _ => trivial
  · rcases hV with hV | hV
    · rcases List.mem_append.1 hV with hV | hV
      · exact .inl hV
      · simp only [List.mem_singleton] at hV; exact .inr (by simp [hV])
    · exact .inr (by simp [hV])

theorem Inv.again {l h : List Bs} {s : St} (i : Inv l h [] s) : Inv l h s.2 (s.1, []) := by
  refine ⟨i.nd, i.has, fun V hV hx => ?_, fun V hV => i.mine V ?_, i.min⟩
  · have := i.acc V hV hx
    cases V with
    | pair a b => exact this
    | shut k x =>
      rcases this with (h1 | h1) | h1
      · exact .inl (.inr h1)
      · cases h1
      · exact .inr h1
    | _ => trivial
  · rcases hV with hV | hV
    · cases hV
    · exact .inl hV

/-- If nothing came since there were n, what is still shut is not opened by what is there. -/
def Chk (n : Nat) (s : St) : Prop := n ≤ s.1.length ∧ (s.1.length = n → ∀ k x : Tm, .shut k x ∈ s.2 → bld (inn s.1) k = false)

theorem Chk.start (L : List Bs) : Chk L.length (L, []) := ⟨Nat.le_refl _, fun _ k x h => by cases h⟩

theorem Chk.opened {n : Nat} {s : St} (c : Chk n s) {x : Tm} (hx : x.ok) : Chk n (tk x s) := by
  obtain ⟨D, E, t⟩ := tk_spec x hx s
  have hl : (tk x s).1.length = s.1.length + D.length := by rw [t.l]; simp
  refine ⟨by have := c.1; omega, fun e k y hk => ?_⟩
  have hD : D = [] := List.eq_nil_of_length_eq_zero (by have := c.1; omega)
  have hE : E = [] := by
    cases E with
    | nil => rfl
    | cons U E => have := (t.mine U (by simp)).2.1; rw [hD] at this; cases this
  rw [t.c, hE, List.append_nil] at hk
  rw [t.l, hD, List.append_nil]
  exact c.2 (by rw [hl, hD] at e; simpa using e) k y hk

theorem Chk.kept {n : Nat} {s : St} (c : Chk n s) {k x : Tm} (hb : bld (inn s.1) k = false) : Chk n (s.1, s.2 ++ [.shut k x]) := by
  refine ⟨c.1, fun e k' x' h => ?_⟩
  rcases List.mem_append.1 h with h | h
  · exact c.2 e k' x' h
  · simp only [List.mem_singleton] at h; cases h; exact hb

theorem Inv.least {l : List Bs} {s : St} (i : Inv l l [] s) (h : ∀ k x : Tm, .shut k x ∈ s.2 → bld (inn s.1) k = false) : Least l s.1 := by
  refine ⟨i.has, fun U hU hx => ?_, i.min⟩
  have := i.acc U hU (inn_iff.1 hx)
  cases U with
  | pair a b => exact ⟨inn_iff.2 this.1, inn_iff.2 this.2⟩
  | shut k x =>
    intro hb
    rcases this with (h1 | h1) | h1
    · have := h k x h1; rw [hb] at this; cases this
    · cases h1
    · exact inn_iff.2 h1
  | _ => trivial

/-! ### how the model takes -/
theorem put_in {l : List Bs} {t : Bs} (hl : Rise l) (h : t ∈ l) : put l t = l :=
  rise_ext _ _ (put_rise l t hl).1 hl fun x => by rw [(put_rise l t hl).2]; exact ⟨fun h' => h'.elim id fun e => e ▸ h, .inl⟩

theorem put_new {l : List Bs} {t : Bs} (h : ¬ t ∈ l) : (put l t).length = l.length + 1 := by
  unfold put
  split
  · rename_i e
    exact absurd (List.mem_of_getElem? e) h
  · simp
    have := (List.takeWhile_sublist (fun x => decide (x < t)) (l := l)).length_le
    omega

theorem put_len2 {l : List Bs} {t : Bs} (hl : Rise l) : (put l t).length = l.length ∧ t ∈ l ∨ (put l t).length = l.length + 1 ∧ ¬ t ∈ l := by
  by_cases h : t ∈ l
  · exact .inl ⟨by rw [put_in hl h], h⟩
  · exact .inr ⟨put_new h, h⟩

def nx (out : List Bs) : Tm → List Bs
  | .pair l r => put (put out l.tx) r.tx
  | .shut k x => if bld (inn out) k then put out x.tx else out
  | _ => out

structure Mdl (l out : List Bs) : Prop where
  rise : Rise out
  has : ∀ x ∈ l, x ∈ out
  min : ∀ X : Bs → Bool, (∀ x ∈ l, X x = true) → Closed X → ∀ x ∈ out, X x = true

theorem Mdl.put {l out : List Bs} (m : Mdl l out) {t : Bs} (h : ∀ X : Bs → Bool, (∀ x ∈ l, X x = true) → Closed X → X t = true) : Mdl l (put out t) := by
  obtain ⟨h1, h2⟩ := put_rise out t m.rise
  refine ⟨h1, fun x hx => (h2 x).2 (.inl (m.has x hx)), fun X a b x hx => ?_⟩
  rcases (h2 x).1 hx with hx | rfl
  · exact m.min X a b x hx
  · exact h X a b

theorem Mdl.nx {l out : List Bs} (m : Mdl l out) {T : Tm} (hT : T.ok) (h : T.tx ∈ out) : Mdl l (nx out T) := by
  cases T with
  | pair a b =>
    have ho : ∀ X : Bs → Bool, (∀ x ∈ l, X x = true) → Closed X → opens X (.pair a b) := fun X h1 h2 => h2 _ hT (m.min X h1 h2 _ h)
    show Mdl l (ato.put (ato.put out a.tx) b.tx)
    exact (m.put fun X h1 h2 => (ho X h1 h2).1).put fun X h1 h2 => (ho X h1 h2).2
  | shut k x =>
    show Mdl l (if bld (inn out) k then ato.put out x.tx else out)
    split
    · rename_i hb
      refine m.put fun X h1 h2 => ?_
      have ho : opens X (.shut k x) := h2 _ hT (m.min X h1 h2 _ h)
      exact ho (bld_mono (fun y hy => m.min X h1 h2 y (inn_iff.1 hy)) k hb)
    · exact m
  | _ => exact m

theorem nx_opens {out : List Bs} (hr : Rise out) {T : Tm} (h : ¬ out.length < (nx out T).length) : opens (inn out) T := by
  cases T with
  | pair a b =>
    change ¬ out.length < (put (put out a.tx) b.tx).length at h
    rcases put_len2 (t := a.tx) hr with ⟨h1, h2⟩ | ⟨h1, h2⟩
    · rw [put_in hr h2] at h
      rcases put_len2 (t := b.tx) hr with ⟨h3, h4⟩ | ⟨h3, h4⟩
      · exact ⟨inn_iff.2 h2, inn_iff.2 h4⟩
      · omega
    · rcases put_len2 (t := b.tx) (put_rise out a.tx hr).1 with ⟨h3, h4⟩ | ⟨h3, h4⟩ <;> omega
  | shut k x =>
    change ¬ out.length < (if bld (inn out) k then put out x.tx else out).length at h
    intro hb
    rw [if_pos hb] at h
    rcases put_len2 (t := x.tx) hr with ⟨h3, h4⟩ | ⟨h3, h4⟩
    · exact inn_iff.2 h4
    · omega
  | _ => trivial

theorem Mdl.least {l out : List Bs} (m : Mdl l out) (h : ∀ T : Tm, T.ok → T.tx ∈ out → ¬ out.length < (kmp.nx out T).length) : Least l out :=
  ⟨m.has, fun T hT hx => nx_opens m.rise (h T hT (inn_iff.1 hx)), m.min⟩

theorem Mdl.start {l : List Bs} (h : Rise l) : Mdl l l := ⟨h, fun x hx => hx, fun X h1 _ x hx => h1 x hx⟩

/-- All right, and not too many. -/
theorem bound {l L : List Bs} {Ts : List Tm} (hl : l = Ts.map Tm.tx) (hT : ∀ T ∈ Ts, term T.tx = some T) (hn : L.Nodup) (hm : ∀ X : Bs → Bool, (∀ x ∈ l, X x = true) → Closed X → ∀ x ∈ L, X x = true) :
    L.length ≤ 1001 * Ts.length ∧ ∀ x ∈ L, ∃ T, term x = some T := by
  refine ⟨?_, fun x hx => ?_⟩
  · refine Nat.le_trans (nodup_le hn fun x hx => inn_iff.1 (hm _ (fun y hy => ?_) (closed_subs Ts fun T h => (term_some.1 (hT T h)).2.1) x hx)) (subs_all Ts fun T h => ⟨(term_some.1 (hT T h)).2.1, (term_some.1 (hT T h)).1⟩)
    rw [hl] at hy
    obtain ⟨T, h1, rfl⟩ := List.mem_map.1 hy
    exact inn_iff.2 (List.mem_flatMap.2 ⟨T, h1, subs_self T⟩)
  · refine Option.isSome_iff_exists.1 (hm _ (fun y hy => ?_) closed_right x hx)
    rw [hl] at hy
    obtain ⟨T, h1, rfl⟩ := List.mem_map.1 hy
    show (term T.tx).isSome = true
    rw [hT T h1]; rfl

theorem rise_nodup {l : List Bs} (h : Rise l) : l.Nodup := by
  refine List.Pairwise.imp (fun {a b} hab e => ?_) h
  subst e
  exact List.lt_irrefl a hab

#print axioms Inv.least
end Go.Proofs.YtdikjmhnjlalbabGreat.kmp
