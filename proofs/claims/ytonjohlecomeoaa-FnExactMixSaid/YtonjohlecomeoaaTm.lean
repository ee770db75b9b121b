/- Terms as plain data: their text, what is right, how deep; a reader of texts as a plain function, sound and complete; the pieces between brackets. Nothing here speaks of the program. -/
import Derived.WalkKit
namespace Go.Proofs.Ytonjohlecomeoaa.tm
open Go
set_option linter.unusedVariables false

abbrev Bs := List UInt8

def isAt (c : UInt8) : Bool := (97 ≤ c && c ≤ 122) || (48 ≤ c && c ≤ 57)
def gt (a b : Bs) : Bool := !(Op.bytesLess a b || a == b)
def atomR (l : Bs) : Bool := decide (1 ≤ l.length) && decide (l.length ≤ 8) && l.all isAt

inductive Tm where
  | atom (a : Bs)
  | pair (l r : Tm)
  | hash (x : Tm)
  | mac (k x : Tm)
  | shut (k x : Tm)
  | pub (a : Bs)
  | dh (a b : Bs)

def oPair : Bs := [112, 97, 105, 114]
def oHash : Bs := [104, 97, 115, 104]
def oMac : Bs := [109, 97, 99]
def oShut : Bs := [115, 104, 117, 116]
def oPub : Bs := [112, 117, 98]
def oDh : Bs := [100, 104]

def Tm.op : Tm → Bs
  | .atom _ => []
  | .pair _ _ => oPair
  | .hash _ => oHash
  | .mac _ _ => oMac
  | .shut _ _ => oShut
  | .pub _ => oPub
  | .dh _ _ => oDh

def Tm.kids : Tm → List Tm
  | .atom _ => []
  | .pair l r => [l, r]
  | .hash x => [x]
  | .mac k x => [k, x]
  | .shut k x => [k, x]
  | .pub a => [.atom a]
  | .dh a b => [.atom a, .atom b]

def Tm.isAtom : Tm → Bool
  | .atom _ => true
  | _ => false

def Tm.deep : Tm → Nat
  | .atom _ => 1
  | .pair l r => max l.deep r.deep + 1
  | .hash x => x.deep + 1
  | .mac k x => max k.deep x.deep + 1
  | .shut k x => max k.deep x.deep + 1
  | .pub _ => 2
  | .dh _ _ => 2

def Tm.ok : Tm → Prop
  | .atom a => atomR a = true
  | .pair l r => l.ok ∧ r.ok
  | .hash x => x.ok
  | .mac k x => k.ok ∧ x.ok
  | .shut k x => k.ok ∧ x.ok
  | .pub a => atomR a = true
  | .dh a b => atomR a = true ∧ atomR b = true ∧ gt a b = false

def say (op : Bs) (ks : List Bs) : Bs := 91 :: (op ++ (ks.flatMap (32 :: ·) ++ [93]))

def Tm.tx : Tm → Bs
  | .atom a => a
  | .pair l r => say oPair [l.tx, r.tx]
  | .hash x => say oHash [x.tx]
  | .mac k x => say oMac [k.tx, x.tx]
  | .shut k x => say oShut [k.tx, x.tx]
  | .pub a => say oPub [a]
  | .dh a b => say oDh [a, b]

theorem tx_say (T : Tm) (h : T.isAtom = false) : T.tx = say T.op (T.kids.map Tm.tx) := by
  cases T <;> first | (simp [Tm.isAtom] at h; done) | simp [Tm.tx, Tm.op, Tm.kids]

theorem deep_pos (T : Tm) : 1 ≤ T.deep := by cases T <;> simp [Tm.deep]

theorem deep_kids (T : Tm) (h : T.isAtom = false) : T.deep = (T.kids.foldl (fun m k => max m k.deep) 0) + 1 := by
  cases T <;> first | (simp [Tm.isAtom] at h; done) | simp [Tm.deep, Tm.kids]

theorem kid_deep {T k : Tm} (h : k ∈ T.kids) : k.deep + 1 ≤ T.deep := by
  cases T <;> simp [Tm.kids] at h <;> (try rcases h with rfl | rfl) <;> (try subst h) <;> simp [Tm.deep] <;> omega

theorem kid_ok {T k : Tm} (hT : T.ok) (h : k ∈ T.kids) : k.ok := by
  cases T <;> simp [Tm.kids] at h <;> (try rcases h with rfl | rfl) <;> (try subst h) <;> simp_all [Tm.ok]

/-! ### the reader -/

def word (l : Bs) : Bs := l.takeWhile isAt
def past (l : Bs) : Bs := l.dropWhile isAt

def build (op : Bs) (ks : List Tm) : Option Tm :=
  if op = oPair then (match ks with | [a, b] => some (.pair a b) | _ => none)
  else if op = oHash then (match ks with | [a] => some (.hash a) | _ => none)
  else if op = oMac then (match ks with | [a, b] => some (.mac a b) | _ => none)
  else if op = oShut then (match ks with | [a, b] => some (.shut a b) | _ => none)
  else if op = oPub then (match ks with | [.atom a] => some (.pub a) | _ => none)
  else if op = oDh then (match ks with | [.atom a, .atom b] => if gt a b then none else some (.dh a b) | _ => none)
  else none

def ord : Tm → Prop
  | .dh a b => gt a b = false
  | _ => True

theorem build_some {op : Bs} {ks : List Tm} {T : Tm} (h : build op ks = some T) : T.isAtom = false ∧ T.op = op ∧ T.kids = ks ∧ ord T := by
  unfold build at h
  repeat' split at h
  all_goals first
    | (cases h; done)
    | (cases h; subst_vars; refine ⟨rfl, rfl, rfl, ?_⟩; first | trivial | (simp only [ord]; simpa using ‹¬ _ = true›))

theorem build_of (T : Tm) (h : T.isAtom = false) (ho : ord T) : build T.op T.kids = some T := by
  cases T <;> first | (simp [Tm.isAtom] at h; done) | (simp [build, Tm.op, Tm.kids, oPair, oHash, oMac, oShut, oPub, oDh]; done) | (simp [ord] at ho; simp [build, Tm.op, Tm.kids, oPair, oHash, oMac, oShut, oPub, oDh, ho])

theorem ok_iff (T : Tm) (h : T.isAtom = false) : T.ok ↔ (∀ k ∈ T.kids, k.ok) ∧ ord T := by
  cases T <;> first | (simp [Tm.isAtom] at h; done) | simp [Tm.ok, Tm.kids, ord, and_assoc]

def rdArgs (f : Bs → Option (Tm × Bs)) : Nat → Bs → Option (List Tm × Bs)
  | 0, l => some ([], l)
  | k + 1, l =>
    match l with
    | [] => some ([], [])
    | c :: l' =>
      if c = 32 then
        match f l' with
        | none => none
        | some (t, r) =>
          match rdArgs f k r with
          | none => none
          | some (ts, r') => some (t :: ts, r')
      else some ([], l)

def closed (op : Bs) : Option (List Tm × Bs) → Option (Tm × Bs)
  | some (ts, c :: r) => if c = 93 then (build op ts).map fun t => (t, r) else none
  | _ => none

def rd : Nat → Bs → Option (Tm × Bs)
  | 0, _ => none
  | n + 1, l =>
    if l.head? = some 91 then closed (word l.tail) (rdArgs (rd n) (past l.tail).length (past l.tail))
    else if atomR (word l) then some (.atom (word l), past l) else none

/-- what stands next is no byte of an atom. -/
def stop (r : Bs) : Prop := ∀ c, r.head? = some c → isAt c = false

theorem word_past (l : Bs) : word l ++ past l = l := List.takeWhile_append_dropWhile
theorem past_stop (l : Bs) : stop (past l) := by
  intro c hc
  induction l with
  | nil => simp [past] at hc
  | cons a l ih =>
    unfold past at hc ih
    rw [List.dropWhile_cons] at hc
    split at hc
    · exact ih hc
    · rename_i h
      simp at hc
      subst hc
      simpa using h
theorem word_of (a r : Bs) (ha : a.all isAt = true) (hr : stop r) : word (a ++ r) = a ∧ past (a ++ r) = r := by
  unfold word past
  induction a with
  | nil =>
    cases r with
    | nil => simp
    | cons c r => have := hr c rfl; simp [this]
  | cons c a ih =>
    simp only [List.all_cons, Bool.and_eq_true] at ha
    have := ih ha.2
    simp [ha.1, this]

theorem atomR_all {a : Bs} (h : atomR a = true) : a.all isAt = true := by simp [atomR] at h; simpa using h.2
theorem atomR_ne {a : Bs} (h : atomR a = true) : a ≠ [] := by rintro rfl; simp [atomR] at h
theorem atomR_len {a : Bs} (h : atomR a = true) : 1 ≤ a.length ∧ a.length ≤ 8 := by simp [atomR] at h; omega
theorem atomR_head {a : Bs} (h : atomR a = true) (r : Bs) : ∃ c, (a ++ r).head? = some c ∧ isAt c = true := by
  cases a with
  | nil => simp [atomR] at h
  | cons c a => exact ⟨c, rfl, by have := atomR_all h; simp at this; exact this.1⟩

theorem rdArgs_sound {f : Bs → Option (Tm × Bs)} {P : Tm → Prop} (hf : ∀ l t r, f l = some (t, r) → l = t.tx ++ r ∧ P t) :
    ∀ k l ts r, rdArgs f k l = some (ts, r) → l = (ts.map Tm.tx).flatMap (32 :: ·) ++ r ∧ ∀ t ∈ ts, P t
  | 0, l, ts, r, h => by simp [rdArgs] at h; obtain ⟨rfl, rfl⟩ := h; simp
  | k + 1, l, ts, r, h => by
    cases l with
    | nil => simp [rdArgs] at h; obtain ⟨rfl, rfl⟩ := h; simp
    | cons c l' =>
      rw [rdArgs] at h
      by_cases hc : c = 32
      · rw [if_pos hc] at h
        cases hq : f l' with
        | none => simp [hq] at h
        | some q =>
          obtain ⟨t, r1⟩ := q
          simp only [hq] at h
          cases hz : rdArgs f k r1 with
          | none => simp [hz] at h
          | some z =>
            obtain ⟨ts', r2⟩ := z
            simp only [hz, Option.some.injEq, Prod.mk.injEq] at h
            obtain ⟨rfl, rfl⟩ := h
            obtain ⟨e1, p1⟩ := hf _ _ _ hq
            obtain ⟨e2, p2⟩ := rdArgs_sound hf k r1 ts' r2 hz
            refine ⟨by rw [hc, e1, e2]; simp, ?_⟩
            intro t' ht'
            rcases List.mem_cons.1 ht' with rfl | ht'
            · exact p1
            · exact p2 _ ht'
      · rw [if_neg hc] at h
        simp at h
        obtain ⟨rfl, rfl⟩ := h
        simp

theorem rd_sound : ∀ n l T r, rd n l = some (T, r) → l = T.tx ++ r ∧ (T.ok ∧ T.deep ≤ n) ∧ (T.isAtom = true → stop r)
  | 0, l, T, r, h => by simp [rd] at h
  | n + 1, l, T, r, h => by
    rw [rd] at h
    by_cases hh : l.head? = some 91
    · rw [if_pos hh] at h
      obtain ⟨l', rfl⟩ : ∃ l', l = 91 :: l' := by cases l <;> simp at hh; subst hh; exact ⟨_, rfl⟩
      simp only [List.tail_cons] at h
      cases hz : rdArgs (rd n) (past l').length (past l') with
      | none => simp [hz, closed] at h
      | some z =>
        obtain ⟨ts, r1⟩ := z
        cases r1 with
        | nil => simp [hz, closed] at h
        | cons c r1 =>
          rw [hz, closed] at h
          by_cases hc : c = 93
          · rw [if_pos hc] at h
            cases hb : build (word l') ts with
            | none => simp [hb] at h
            | some t =>
              simp only [hb, Option.map_some, Option.some.injEq, Prod.mk.injEq] at h
              obtain ⟨rfl, rfl⟩ := h
              obtain ⟨b1, b2, b3, b4⟩ := build_some hb
              obtain ⟨e1, p1⟩ := rdArgs_sound (P := fun t => t.ok ∧ t.deep ≤ n) (fun l t r h => ⟨(rd_sound n l t r h).1, (rd_sound n l t r h).2.1⟩) _ _ _ _ hz
              refine ⟨?_, ⟨?_, ?_⟩, fun h => by rw [b1] at h; cases h⟩
              · rw [tx_say t b1, b2, b3]
                have := word_past l'
                rw [e1, hc] at this
                unfold say
                generalize word l' = W at this
                rw [← this]
                simp
              · exact (ok_iff t b1).2 ⟨fun k hk => (p1 k (b3 ▸ hk)).1, b4⟩
              · rw [deep_kids t b1, b3]
                have : ∀ (ks : List Tm) m, m ≤ n → (∀ k ∈ ks, k.deep ≤ n) → ks.foldl (fun m k => max m k.deep) m ≤ n := by
                  intro ks
                  induction ks with
                  | nil => intro m hm _; simpa using hm
                  | cons a ks ih => intro m hm hk; exact ih _ (by have := hk a (by simp); show max m a.deep ≤ n; omega) (fun k hk' => hk k (by simp [hk']))
                have := this ts 0 (Nat.zero_le _) (fun k hk => (p1 k hk).2)
                omega
          · rw [if_neg hc] at h
            cases h
    · rw [if_neg hh] at h
      split at h
      · rename_i ha
        simp only [Option.some.injEq, Prod.mk.injEq] at h
        obtain ⟨rfl, rfl⟩ := h
        exact ⟨(word_past l).symm, ⟨ha, by simp [Tm.deep]⟩, fun _ => past_stop l⟩
      · cases h

theorem rdArgs_complete {f : Bs → Option (Tm × Bs)} : ∀ (ts : List Tm), (∀ t ∈ ts, ∀ r, stop r → f (t.tx ++ r) = some (t, r)) →
    ∀ k r, ((ts.map Tm.tx).flatMap (32 :: ·) ++ r).length ≤ k → (∀ c, r.head? = some c → c ≠ 32) → stop r → rdArgs f k ((ts.map Tm.tx).flatMap (32 :: ·) ++ r) = some (ts, r)
  | [], _, k, r, hk, h32, hr => by
    cases k with
    | zero => simp [rdArgs]
    | succ k =>
      cases r with
      | nil => simp [rdArgs]
      | cons c r => have := h32 c rfl; simp [rdArgs, this]
  | t :: ts, hf, k, r, hk, h32, hr => by
    cases k with
    | zero => simp at hk
    | succ k =>
      have ih := rdArgs_complete ts (fun t' h' => hf t' (by simp [h'])) k r (by simp at hk ⊢; omega) h32 hr
      have hs : stop ((ts.map Tm.tx).flatMap (32 :: ·) ++ r) := by
        cases ts with
        | nil => simpa using hr
        | cons t' ts => intro c hc; simp at hc; subst hc; decide
      have h1 := hf t (by simp) _ hs
      simp only [List.map_cons, List.flatMap_cons, List.cons_append, List.append_assoc]
      rw [rdArgs, if_pos rfl, h1]
      simp only [ih]

theorem op_all (T : Tm) : T.op.all isAt = true := by cases T <;> rfl

theorem rd_complete : ∀ n T r, T.ok → T.deep ≤ n → (T.isAtom = true → stop r) → rd n (T.tx ++ r) = some (T, r)
  | 0, T, r, h, hd, _ => by have := deep_pos T; omega
  | n + 1, T, r, h, hd, hr => by
    rw [rd]
    by_cases ha : T.isAtom = true
    · cases T with
      | atom a =>
        obtain ⟨c, hc, hc2⟩ := atomR_head (show atomR a = true from h) r
        obtain ⟨e1, e2⟩ := word_of a r (atomR_all h) (hr rfl)
        rw [if_neg (by simp only [Tm.tx]; rw [hc]; intro e; cases e; revert hc2; decide)]
        simp only [Tm.tx, e1, e2]
        rw [if_pos (show atomR a = true from h)]
      | _ => simp [Tm.isAtom] at ha
    · have ha' : T.isAtom = false := by simpa using ha
      rw [tx_say T ha']
      unfold say
      have hst : stop (((T.kids.map Tm.tx).flatMap (32 :: ·)) ++ 93 :: r) := by
        intro c hc
        cases hk : T.kids with
        | nil => rw [hk] at hc; simp at hc; subst hc; decide
        | cons k ks => rw [hk] at hc; simp at hc; subst hc; decide
      obtain ⟨e1, e2⟩ := word_of T.op _ (op_all T) hst
      have hl : (91 :: (T.op ++ ((T.kids.map Tm.tx).flatMap (32 :: ·) ++ [93])) ++ r).tail = T.op ++ (((T.kids.map Tm.tx).flatMap (32 :: ·)) ++ 93 :: r) := by simp
      rw [if_pos (by simp), hl, e1, e2]
      rw [rdArgs_complete T.kids (fun t ht r hr => rd_complete n t r (kid_ok h ht) (by have := kid_deep ht; omega) (fun _ => hr)) _ (93 :: r) (Nat.le_refl _) (by simp) (by intro c hc; simp at hc; subst hc; decide)]
      rw [closed, if_pos rfl, build_of T ha' ((ok_iff T ha').1 h).2]
      rfl

/-- the whole text is a term, of at most such depth. -/
def pz (n : Nat) (l : Bs) : Option Tm :=
  match rd n l with
  | some (T, []) => some T
  | _ => none

theorem pz_some {n : Nat} {l : Bs} {T : Tm} : pz n l = some T ↔ T.ok ∧ T.deep ≤ n ∧ T.tx = l := by
  constructor
  · intro h
    unfold pz at h
    cases hr : rd n l with
    | none => simp [hr] at h
    | some q =>
      obtain ⟨t, r⟩ := q
      cases r with
      | nil =>
        simp only [hr, Option.some.injEq] at h
        subst h
        obtain ⟨e, ⟨a, b⟩, _⟩ := rd_sound n l _ _ hr
        exact ⟨a, b, by simpa using e.symm⟩
      | cons c r => simp [hr] at h
  · rintro ⟨a, b, rfl⟩
    have := rd_complete n T [] a b (fun _ c hc => by cases hc)
    rw [List.append_nil] at this
    unfold pz
    rw [this]

theorem tx_inj {T U : Tm} (hT : T.ok) (hU : U.ok) (h : T.tx = U.tx) : T = U := by
  have a := (pz_some (n := max T.deep U.deep) (l := T.tx)).2 ⟨hT, by omega, rfl⟩
  have b := (pz_some (n := max T.deep U.deep) (l := T.tx)).2 ⟨hU, by omega, h.symm⟩
  rw [a] at b
  exact Option.some.inj b

theorem pz_atom {n : Nat} {l : Bs} (hn : 1 ≤ n) (h : atomR l = true) : pz n l = some (.atom l) := pz_some.2 ⟨h, by simpa [Tm.deep] using hn, rfl⟩

/-- the term of a text handed in: at most 3000 bytes, 24 deep. -/
def term (l : Bs) : Option Tm := if l.length ≤ 3000 then pz 24 l else none

theorem term_some {l : Bs} {T : Tm} : term l = some T ↔ l.length ≤ 3000 ∧ T.ok ∧ T.deep ≤ 24 ∧ T.tx = l := by
  unfold term
  split
  · rename_i h; rw [pz_some]; simp [h]
  · rename_i h; simp [h]
end Go.Proofs.Ytonjohlecomeoaa.tm
