/- Several small texts, one behind the other. -/
import Derived.WalkKit
import Derived.Test.YtonjohlecomeoaaGreatChecked
import Derived.Lib.SlicesCompact
import Derived.Sort.EncStr
import Derived.Sort.Walk0

/- Terms as plain data: their text, what is right, how deep; a reader of texts as a plain function, sound and complete; the pieces between brackets. Nothing here speaks of the program. -/
namespace Go.Proofs.YtonjohlecomeoaaGreat.tm
open Go
set_option linter.unusedVariables false

abbrev Bs := List UInt8

def isAt (c : UInt8) : Bool := (97 ≤ c && c ≤ 122) || (48 ≤ c && c ≤ 57)
def gt (a b : Bs) : Bool := !(Op.bytesLess a b || a == b)
def atomR (l : Bs) : Bool := decide (1 ≤ l.length) && decide (l.length ≤ 8) && l.all isAt

inductive Tm where
  | atom (a : Bs)
  | pair (l r : Tm)
  | hash (x : Tm)
  | mac (k x : Tm)
  | shut (k x : Tm)
  | pub (a : Bs)
  | dh (a b : Bs)

def oPair : Bs := [112, 97, 105, 114]
def oHash : Bs := [104, 97, 115, 104]
def oMac : Bs := [109, 97, 99]
def oShut : Bs := [115, 104, 117, 116]
def oPub : Bs := [112, 117, 98]
def oDh : Bs := [100, 104]

def Tm.op : Tm → Bs
  | .atom _ => []
  | .pair _ _ => oPair
  | .hash _ => oHash
  | .mac _ _ => oMac
  | .shut _ _ => oShut
  | .pub _ => oPub
  | .dh _ _ => oDh

def Tm.kids : Tm → List Tm
  | .atom _ => []
  | .pair l r => [l, r]
  | .hash x => [x]
  | .mac k x => [k, x]
  | .shut k x => [k, x]
  | .pub a => [.atom a]
  | .dh a b => [.atom a, .atom b]

def Tm.isAtom : Tm → Bool
  | .atom _ => true
  | _ => false

def Tm.deep : Tm → Nat
  | .atom _ => 1
  | .pair l r => max l.deep r.deep + 1
  | .hash x => x.deep + 1
  | .mac k x => max k.deep x.deep + 1
  | .shut k x => max k.deep x.deep + 1
  | .pub _ => 2
  | .dh _ _ => 2

def Tm.ok : Tm → Prop
  | .atom a => atomR a = true
  | .pair l r => l.ok ∧ r.ok
  | .hash x => x.ok
  | .mac k x => k.ok ∧ x.ok
  | .shut k x => k.ok ∧ x.ok
  | .pub a => atomR a = true
  | .dh a b => atomR a = true ∧ atomR b = true ∧ gt a b = false

def say (op : Bs) (ks : List Bs) : Bs := 91 :: (op ++ (ks.flatMap (32 :: ·) ++ [93]))

def Tm.tx : Tm → Bs
  | .atom a => a
  | .pair l r => say oPair [l.tx, r.tx]
  | .hash x => say oHash [x.tx]
  | .mac k x => say oMac [k.tx, x.tx]
  | .shut k x => say oShut [k.tx, x.tx]
  | .pub a => say oPub [a]
  | .dh a b => say oDh [a, b]

theorem tx_say (T : Tm) (h : T.isAtom = false) : T.tx = say T.op (T.kids.map Tm.tx) := by
  cases T <;> first | (simp [Tm.isAtom] at h; done) | simp [Tm.tx, Tm.op, Tm.kids]

theorem deep_pos (T : Tm) : 1 ≤ T.deep := by cases T <;> simp [Tm.deep]

theorem deep_kids (T : Tm) (h : T.isAtom = false) : T.deep = (T.kids.foldl (fun m k => max m k.deep) 0) + 1 := by
  cases T <;> first | (simp [Tm.isAtom] at h; done) | simp [Tm.deep, Tm.kids]

theorem kid_deep {T k : Tm} (h : k ∈ T.kids) : k.deep + 1 ≤ T.deep := by
  cases T <;> simp [Tm.kids] at h <;> (try rcases h with rfl | rfl) <;> (try subst h) <;> simp [Tm.deep] <;> omega

theorem kid_ok {T k : Tm} (hT : T.ok) (h : k ∈ T.kids) : k.ok := by
  cases T <;> simp [Tm.kids] at h <;> (try rcases h with rfl | rfl) <;> (try subst h) <;> simp_all [Tm.ok]

/-! ### the reader -/

def word (l : Bs) : Bs := l.takeWhile isAt
def past (l : Bs) : Bs := l.dropWhile isAt

def build (op : Bs) (ks : List Tm) : Option Tm :=
  if op = oPair then (match ks with | [a, b] => some (.pair a b) | _ => none)
  else if op = oHash then (match ks with | [a] => some (.hash a) | _ => none)
  else if op = oMac then (match ks with | [a, b] => some (.mac a b) | _ => none)
  else if op = oShut then (match ks with | [a, b] => some (.shut a b) | _ => none)
  else if op = oPub then (match ks with | [.atom a] => some (.pub a) | _ => none)
  else if op = oDh then (match ks with | [.atom a, .atom b] => if gt a b then none else some (.dh a b) | _ => none)
  else none

def ord : Tm → Prop
  | .dh a b => gt a b = false
  | _ => True

theorem build_some {op : Bs} {ks : List Tm} {T : Tm} (h : build op ks = some T) : T.isAtom = false ∧ T.op = op ∧ T.kids = ks ∧ ord T := by
  unfold build at h
  repeat' split at h
  all_goals first
    | (cases h; done)
    | (cases h; subst_vars; refine ⟨rfl, rfl, rfl, ?_⟩; first | trivial | (simp only [ord]; simpa using ‹¬ _ = true›))

theorem build_of (T : Tm) (h : T.isAtom = false) (ho : ord T) : build T.op T.kids = some T := by
  cases T <;> first | (simp [Tm.isAtom] at h; done) | (simp [build, Tm.op, Tm.kids, oPair, oHash, oMac, oShut, oPub, oDh]; done) | (simp [ord] at ho; simp [build, Tm.op, Tm.kids, oPair, oHash, oMac, oShut, oPub, oDh, ho])

theorem ok_iff (T : Tm) (h : T.isAtom = false) : T.ok ↔ (∀ k ∈ T.kids, k.ok) ∧ ord T := by
  cases T <;> first | (simp [Tm.isAtom] at h; done) | simp [Tm.ok, Tm.kids, ord, and_assoc]

def rdArgs (f : Bs → Option (Tm × Bs)) : Nat → Bs → Option (List Tm × Bs)
  | 0, l => some ([], l)
  | k + 1, l =>
    match l with
    | [] => some ([], [])
    | c :: l' =>
      if c = 32 then
        match f l' with
        | none => none
        | some (t, r) =>
          match rdArgs f k r with
          | none => none
          | some (ts, r') => some (t :: ts, r')
      else some ([], l)

def closed (op : Bs) : Option (List Tm × Bs) → Option (Tm × Bs)
  | some (ts, c :: r) => if c = 93 then (build op ts).map fun t => (t, r) else none
  | _ => none

def rd : Nat → Bs → Option (Tm × Bs)
  | 0, _ => none
  | n + 1, l =>
    if l.head? = some 91 then closed (word l.tail) (rdArgs (rd n) (past l.tail).length (past l.tail))
    else if atomR (word l) then some (.atom (word l), past l) else none

/-- what stands next is no byte of an atom. -/
def stop (r : Bs) : Prop := ∀ c, r.head? = some c → isAt c = false

theorem word_past (l : Bs) : word l ++ past l = l := List.takeWhile_append_dropWhile
theorem past_stop (l : Bs) : stop (past l) := by
  intro c hc
  induction l with
  | nil => simp [past] at hc
  | cons a l ih =>
    unfold past at hc ih
    rw [List.dropWhile_cons] at hc
    split at hc
    · exact ih hc
    · rename_i h
      simp at hc
      subst hc
      simpa using h
theorem word_of (a r : Bs) (ha : a.all isAt = true) (hr : stop r) : word (a ++ r) = a ∧ past (a ++ r) = r := by
  unfold word past
  induction a with
  | nil =>
    cases r with
    | nil => simp
    | cons c r => have := hr c rfl; simp [this]
  | cons c a ih =>
    simp only [List.all_cons, Bool.and_eq_true] at ha
    have := ih ha.2
    simp [ha.1, this]

theorem atomR_all {a : Bs} (h : atomR a = true) : a.all isAt = true := by simp [atomR] at h; simpa using h.2
theorem atomR_ne {a : Bs} (h : atomR a = true) : a ≠ [] := by rintro rfl; simp [atomR] at h
theorem atomR_len {a : Bs} (h : atomR a = true) : 1 ≤ a.length ∧ a.length ≤ 8 := by simp [atomR] at h; omega
theorem atomR_head {a : Bs} (h : atomR a = true) (r : Bs) : ∃ c, (a ++ r).head? = some c ∧ isAt c = true := by
  cases a with
  | nil => simp [atomR] at h
  | cons c a => exact ⟨c, rfl, by have := atomR_all h; simp at this; exact this.1⟩

theorem rdArgs_sound {f : Bs → Option (Tm × Bs)} {P : Tm → Prop} (hf : ∀ l t r, f l = some (t, r) → l = t.tx ++ r ∧ P t) :
    ∀ k l ts r, rdArgs f k l = some (ts, r) → l = (ts.map Tm.tx).flatMap (32 :: ·) ++ r ∧ ∀ t ∈ ts, P t
  | 0, l, ts, r, h => by simp [rdArgs] at h; obtain ⟨rfl, rfl⟩ := h; simp
  | k + 1, l, ts, r, h => by
    cases l with
    | nil => simp [rdArgs] at h; obtain ⟨rfl, rfl⟩ := h; simp
    | cons c l' =>
      rw [rdArgs] at h
      by_cases hc : c = 32
      · rw [if_pos hc] at h
        cases hq : f l' with
        | none => simp [hq] at h
        | some q =>
          obtain ⟨t, r1⟩ := q
          simp only [hq] at h
          cases hz : rdArgs f k r1 with
          | none => simp [hz] at h
          | some z =>
            obtain ⟨ts', r2⟩ := z
            simp only [hz, Option.some.injEq, Prod.mk.injEq] at h
            obtain ⟨rfl, rfl⟩ := h
            obtain ⟨e1, p1⟩ := hf _ _ _ hq
            obtain ⟨e2, p2⟩ := rdArgs_sound hf k r1 ts' r2 hz
            refine ⟨by rw [hc, e1, e2]; simp, ?_⟩
            intro t' ht'
            rcases List.mem_cons.1 ht' with rfl | ht'
            · exact p1
            · exact p2 _ ht'
      · rw [if_neg hc] at h
        simp at h
        obtain ⟨rfl, rfl⟩ := h
        simp

theorem rd_sound : ∀ n l T r, rd n l = some (T, r) → l = T.tx ++ r ∧ (T.ok ∧ T.deep ≤ n) ∧ (T.isAtom = true → stop r)
  | 0, l, T, r, h => by simp [rd] at h
  | n + 1, l, T, r, h => by
    rw [rd] at h
    by_cases hh : l.head? = some 91
    · rw [if_pos hh] at h
      obtain ⟨l', rfl⟩ : ∃ l', l = 91 :: l' := by cases l <;> simp at hh; subst hh; exact ⟨_, rfl⟩
      simp only [List.tail_cons] at h
      cases hz : rdArgs (rd n) (past l').length (past l') with
      | none => simp [hz, closed] at h
      | some z =>
        obtain ⟨ts, r1⟩ := z
        cases r1 with
        | nil => simp [hz, closed] at h
        | cons c r1 =>
          rw [hz, closed] at h
          by_cases hc : c = 93
          · rw [if_pos hc] at h
            cases hb : build (word l') ts with
            | none => simp [hb] at h
            | some t =>
              simp only [hb, Option.map_some, Option.some.injEq, Prod.mk.injEq] at h
              obtain ⟨rfl, rfl⟩ := h
              obtain ⟨b1, b2, b3, b4⟩ := build_some hb
              obtain ⟨e1, p1⟩ := rdArgs_sound (P := fun t => t.ok ∧ t.deep ≤ n) (fun l t r h => ⟨(rd_sound n l t r h).1, (rd_sound n l t r h).2.1⟩) _ _ _ _ hz
              refine ⟨?_, ⟨?_, ?_⟩, fun h => by rw [b1] at h; cases h⟩
              · rw [tx_say t b1, b2, b3]
                have := word_past l'
                rw [e1, hc] at this
                unfold say
                generalize word l' = W at this
                rw [← this]
                simp
              · exact (ok_iff t b1).2 ⟨fun k hk => (p1 k (b3 ▸ hk)).1, b4⟩
              · rw [deep_kids t b1, b3]
                have : ∀ (ks : List Tm) m, m ≤ n → (∀ k ∈ ks, k.deep ≤ n) → ks.foldl (fun m k => max m k.deep) m ≤ n := by
                  intro ks
                  induction ks with
                  | nil => intro m hm _; simpa using hm
                  | cons a ks ih => intro m hm hk; exact ih _ (by have := hk a (by simp); show max m a.deep ≤ n; omega) (fun k hk' => hk k (by simp [hk']))
                have := this ts 0 (Nat.zero_le _) (fun k hk => (p1 k hk).2)
                omega
          · rw [if_neg hc] at h
            cases h
    · rw [if_neg hh] at h
      split at h
      · rename_i ha
        simp only [Option.some.injEq, Prod.mk.injEq] at h
        obtain ⟨rfl, rfl⟩ := h
        exact ⟨(word_past l).symm, ⟨ha, by simp [Tm.deep]⟩, fun _ => past_stop l⟩
      · cases h

theorem rdArgs_complete {f : Bs → Option (Tm × Bs)} : ∀ (ts : List Tm), (∀ t ∈ ts, ∀ r, stop r → f (t.tx ++ r) = some (t, r)) →
    ∀ k r, ((ts.map Tm.tx).flatMap (32 :: ·) ++ r).length ≤ k → (∀ c, r.head? = some c → c ≠ 32) → stop r → rdArgs f k ((ts.map Tm.tx).flatMap (32 :: ·) ++ r) = some (ts, r)
  | [], _, k, r, hk, h32, hr => by
    cases k with
    | zero => simp [rdArgs]
    | succ k =>
      cases r with
      | nil => simp [rdArgs]
      | cons c r => have := h32 c rfl; simp [rdArgs, this]
  | t :: ts, hf, k, r, hk, h32, hr => by
    cases k with
    | zero => simp at hk
    | succ k =>
      have ih := rdArgs_complete ts (fun t' h' => hf t' (by simp [h'])) k r (by simp at hk ⊢; omega) h32 hr
      have hs : stop ((ts.map Tm.tx).flatMap (32 :: ·) ++ r) := by
        cases ts with
        | nil => simpa using hr
        | cons t' ts => intro c hc; simp at hc; subst hc; decide
      have h1 := hf t (by simp) _ hs
      simp only [List.map_cons, List.flatMap_cons, List.cons_append, List.append_assoc]
      rw [rdArgs, if_pos rfl, h1]
      simp only [ih]

theorem op_all (T : Tm) : T.op.all isAt = true := by cases T <;> rfl

theorem rd_complete : ∀ n T r, T.ok → T.deep ≤ n → (T.isAtom = true → stop r) → rd n (T.tx ++ r) = some (T, r)
  | 0, T, r, h, hd, _ => by have := deep_pos T; omega
  | n + 1, T, r, h, hd, hr => by
    rw [rd]
    by_cases ha : T.isAtom = true
    · cases T with
      | atom a =>
        obtain ⟨c, hc, hc2⟩ := atomR_head (show atomR a = true from h) r
        obtain ⟨e1, e2⟩ := word_of a r (atomR_all h) (hr rfl)
        rw [if_neg (by simp only [Tm.tx]; rw [hc]; intro e; cases e; revert hc2; decide)]
        simp only [Tm.tx, e1, e2]
        rw [if_pos (show atomR a = true from h)]
      | _ => simp [Tm.isAtom] at ha
    · have ha' : T.isAtom = false := by simpa using ha
      rw [tx_say T ha']
      unfold say
      have hst : stop (((T.kids.map Tm.tx).flatMap (32 :: ·)) ++ 93 :: r) := by
        intro c hc
        cases hk : T.kids with
        | nil => rw [hk] at hc; simp at hc; subst hc; decide
        | cons k ks => rw [hk] at hc; simp at hc; subst hc; decide
      obtain ⟨e1, e2⟩ := word_of T.op _ (op_all T) hst
      have hl : (91 :: (T.op ++ ((T.kids.map Tm.tx).flatMap (32 :: ·) ++ [93])) ++ r).tail = T.op ++ (((T.kids.map Tm.tx).flatMap (32 :: ·)) ++ 93 :: r) := by simp
      rw [if_pos (by simp), hl, e1, e2]
      rw [rdArgs_complete T.kids (fun t ht r hr => rd_complete n t r (kid_ok h ht) (by have := kid_deep ht; omega) (fun _ => hr)) _ (93 :: r) (Nat.le_refl _) (by simp) (by intro c hc; simp at hc; subst hc; decide)]
      rw [closed, if_pos rfl, build_of T ha' ((ok_iff T ha').1 h).2]
      rfl

/-- the whole text is a term, of at most such depth. -/
def pz (n : Nat) (l : Bs) : Option Tm :=
  match rd n l with
  | some (T, []) => some T
  | _ => none

theorem pz_some {n : Nat} {l : Bs} {T : Tm} : pz n l = some T ↔ T.ok ∧ T.deep ≤ n ∧ T.tx = l := by
  constructor
  · intro h
    unfold pz at h
    cases hr : rd n l with
    | none => simp [hr] at h
    | some q =>
      obtain ⟨t, r⟩ := q
      cases r with
      | nil =>
        simp only [hr, Option.some.injEq] at h
        subst h
        obtain ⟨e, ⟨a, b⟩, _⟩ := rd_sound n l _ _ hr
        exact ⟨a, b, by simpa using e.symm⟩
      | cons c r => simp [hr] at h
  · rintro ⟨a, b, rfl⟩
    have := rd_complete n T [] a b (fun _ c hc => by cases hc)
    rw [List.append_nil] at this
    unfold pz
    rw [this]

theorem tx_inj {T U : Tm} (hT : T.ok) (hU : U.ok) (h : T.tx = U.tx) : T = U := by
  have a := (pz_some (n := max T.deep U.deep) (l := T.tx)).2 ⟨hT, by omega, rfl⟩
  have b := (pz_some (n := max T.deep U.deep) (l := T.tx)).2 ⟨hU, by omega, h.symm⟩
  rw [a] at b
  exact Option.some.inj b

theorem pz_atom {n : Nat} {l : Bs} (hn : 1 ≤ n) (h : atomR l = true) : pz n l = some (.atom l) := pz_some.2 ⟨h, by simpa [Tm.deep] using hn, rfl⟩

/-- the term of a text handed in: at most 3000 bytes, 24 deep. -/
def term (l : Bs) : Option Tm := if l.length ≤ 3000 then pz 24 l else none

theorem term_some {l : Bs} {T : Tm} : term l = some T ↔ l.length ≤ 3000 ∧ T.ok ∧ T.deep ≤ 24 ∧ T.tx = l := by
  unfold term
  split
  · rename_i h; rw [pz_some]; simp [h]
  · rename_i h; simp [h]
end Go.Proofs.YtonjohlecomeoaaGreat.tm

/- A text as a value. -/
namespace Go.Proofs.YtonjohlecomeoaaGreat.bld
open Go.Proofs.YtonjohlecomeoaaGreat.tm
abbrev str (l : Bs) : Value := .string ⟨l.toArray⟩
end Go.Proofs.YtonjohlecomeoaaGreat.bld

/- The pieces between brackets, as the model's l02Args finds them; how deep a text is, as its l02Deep says: as plain functions, held against the plain reader. -/
namespace Go.Proofs.YtonjohlecomeoaaGreat.spm
open Go Go.Proofs.YtonjohlecomeoaaGreat.tm
set_option linter.unusedVariables false

def turn (c : UInt8) (d : Int) : Int := if c = 91 then d + 1 else if c = 93 then d - 1 else d

def sp : Bs → Int → Bs → Option (List Bs)
  | [], _, _ => some []
  | c :: l, d, cur =>
    if l = [] then (if turn c d = -1 then some [cur] else none)
    else if turn c d < 0 then none
    else if turn c d = 0 ∧ c = 32 then (sp l (turn c d) []).map (cur :: ·)
    else sp l (turn c d) (cur ++ [c])

def args (t : Bs) : Option (List Bs) := if t.length < 2 ∨ t.head? ≠ some 91 ∨ t.getLast? ≠ some 93 then none else sp t.tail 0 []

theorem sp_out : ∀ (l : Bs) (d : Int) (cur : Bs) (out : List Bs), l.getLast? = some 93 → sp l d cur = some out → ∃ a ks, out = a :: ks ∧ cur ++ l = a ++ (ks.flatMap (32 :: ·) ++ [93])
  | [], d, cur, out, h, _ => by simp at h
  | c :: l, d, cur, out, h, hs => by
    rw [sp] at hs
    by_cases hl : l = []
    · subst hl
      rw [if_pos rfl] at hs
      split at hs
      · simp only [Option.some.injEq] at hs
        simp at h
        exact ⟨cur, [], hs.symm, by simp [h]⟩
      · cases hs
    · rw [if_neg hl] at hs
      have h' : l.getLast? = some 93 := by
        rw [List.getLast?_cons] at h
        cases hq : l.getLast? with
        | none => exact absurd (List.getLast?_eq_none_iff.1 hq) hl
        | some x => rw [hq] at h; simpa using h
      split at hs
      · cases hs
      · split at hs
        · rename_i h32
          cases hz : sp l (turn c d) [] with
          | none => rw [hz] at hs; cases hs
          | some out' =>
            rw [hz] at hs
            simp only [Option.map_some, Option.some.injEq] at hs
            obtain ⟨a, ks, e1, e2⟩ := sp_out l _ _ _ h' hz
            refine ⟨cur, out', hs.symm, ?_⟩
            rw [e1, h32.2]
            simp only [List.nil_append] at e2
            rw [e2]
            simp
        · obtain ⟨a, ks, e1, e2⟩ := sp_out l _ _ _ h' hs
          exact ⟨a, ks, e1, by rw [← e2]; simp⟩

theorem args_say {t : Bs} {a : List Bs} (h : args t = some a) : ∃ op ks, a = op :: ks ∧ t = say op ks := by
  unfold args at h
  split at h
  · cases h
  · rename_i hc
    simp only [not_or, Nat.not_lt, ne_eq, Decidable.not_not] at hc
    obtain ⟨h1, h2, h3⟩ := hc
    obtain ⟨l, rfl⟩ : ∃ l, t = 91 :: l := by cases t <;> simp at h2; subst h2; exact ⟨_, rfl⟩
    have hl : l.getLast? = some 93 := by
      rw [List.getLast?_cons] at h3
      cases hq : l.getLast? with
      | none => rw [hq] at h3; simp at h3
      | some x => rw [hq] at h3; simpa using h3
    obtain ⟨op, ks, e1, e2⟩ := sp_out l 0 [] a hl h
    exact ⟨op, ks, e1, by unfold say; rw [← e2]; simp⟩

theorem turn_at {c : UInt8} (h : isAt c = true) (d : Int) : turn c d = d ∧ c ≠ 32 := by
  have h1 : c ≠ 91 := by rintro rfl; revert h; decide
  have h2 : c ≠ 93 := by rintro rfl; revert h; decide
  exact ⟨by simp [turn, h1, h2], by rintro rfl; revert h; decide⟩

theorem sp_step {c : UInt8} {l : Bs} {d : Int} {cur : Bs} (hl : l ≠ []) (h0 : ¬ turn c d < 0) (h32 : ¬ (turn c d = 0 ∧ c = 32)) : sp (c :: l) d cur = sp l (turn c d) (cur ++ [c]) := by
  rw [sp, if_neg hl, if_neg h0, if_neg h32]

theorem sp_word : ∀ (a r : Bs) (d : Int) (cur : Bs), a.all isAt = true → r ≠ [] → 0 ≤ d → sp (a ++ r) d cur = sp r d (cur ++ a)
  | [], r, d, cur, _, _, _ => by simp
  | c :: a, r, d, cur, ha, hr, hd => by
    simp only [List.all_cons, Bool.and_eq_true] at ha
    obtain ⟨h1, h2⟩ := turn_at ha.1 d
    rw [List.cons_append, sp_step (by simp [hr]) (by rw [h1]; omega) (fun h => h2 h.2), h1, sp_word a r d _ ha.2 hr hd]
    simp

/-- A text that leaves no mark: what it holds is taken whole. -/
def Whole (x : Bs) : Prop := ∀ (r : Bs) (d : Int) (cur : Bs), r ≠ [] → 0 ≤ d → sp (x ++ r) d cur = sp r d (cur ++ x)

theorem sp_kids : ∀ (ks : List Bs) (r : Bs) (d : Int) (cur : Bs), (∀ k ∈ ks, Whole k) → r ≠ [] → 1 ≤ d → sp (ks.flatMap (32 :: ·) ++ r) d cur = sp r d (cur ++ ks.flatMap (32 :: ·))
  | [], r, d, cur, _, _, _ => by simp
  | k :: ks, r, d, cur, hk, hr, hd => by
    have ht : turn 32 d = d := by simp [turn]
    simp only [List.flatMap_cons, List.cons_append, List.append_assoc]
    rw [sp_step (by simp [hr]) (by rw [ht]; omega) (by rw [ht]; omega), ht, hk k (by simp) _ _ _ (by simp [hr]) (by omega), sp_kids ks r d _ (fun k' h' => hk k' (by simp [h'])) hr hd]
    simp

theorem whole_say (op : Bs) (ks : List Bs) (hop : op.all isAt = true) (hk : ∀ k ∈ ks, Whole k) : Whole (say op ks) := by
  intro r d cur hr hd
  have t1 : turn 91 d = d + 1 := by simp [turn]
  have t2 : turn 93 (d + 1) = d := by simp [turn]
  unfold say
  simp only [List.cons_append, List.append_assoc]
  rw [sp_step (by simp) (by rw [t1]; omega) (by rw [t1]; omega), t1, sp_word op _ _ _ hop (by simp) (by omega), sp_kids ks _ _ _ hk (by simp) (by omega)]
  simp only [List.nil_append]
  rw [sp_step hr (by rw [t2]; omega) (by simp), t2]
  simp

theorem whole_tx : ∀ (T : Tm), T.ok → Whole T.tx
  | .atom a, h => fun r d cur hr hd => sp_word a r d cur (atomR_all h) hr hd
  | .pair x y, h => whole_say _ _ (by decide) (by intro k hk; simp at hk; rcases hk with rfl | rfl; exact whole_tx x h.1; exact whole_tx y h.2)
  | .hash x, h => whole_say _ _ (by decide) (by intro k hk; simp at hk; subst hk; exact whole_tx x h)
  | .mac x y, h => whole_say _ _ (by decide) (by intro k hk; simp at hk; rcases hk with rfl | rfl; exact whole_tx x h.1; exact whole_tx y h.2)
  | .shut x y, h => whole_say _ _ (by decide) (by intro k hk; simp at hk; rcases hk with rfl | rfl; exact whole_tx x h.1; exact whole_tx y h.2)
  | .pub a, h => whole_say _ _ (by decide) (by intro k hk; simp at hk; subst hk; exact fun r d cur hr hd => sp_word k r d cur (atomR_all h) hr hd)
  | .dh a b, h => whole_say _ _ (by decide) (by intro k hk; simp at hk; rcases hk with rfl | rfl; exact fun r d cur hr hd => sp_word k r d cur (atomR_all h.1) hr hd; exact fun r d cur hr hd => sp_word k r d cur (atomR_all h.2.1) hr hd)

theorem sp_top : ∀ (ks : List Bs) (cur : Bs), (∀ k ∈ ks, Whole k) → sp (ks.flatMap (32 :: ·) ++ [93]) 0 cur = some (cur :: ks)
  | [], cur, _ => by simp [sp, turn]
  | k :: ks, cur, hk => by
    have ht : turn 32 0 = 0 := by simp [turn]
    simp only [List.flatMap_cons, List.cons_append, List.append_assoc]
    rw [sp, if_neg (by simp), ht, if_neg (by omega), if_pos ⟨rfl, rfl⟩, hk k (by simp) _ _ _ (by simp) (by omega), List.nil_append, sp_top ks k (fun k' h' => hk k' (by simp [h']))]
    rfl

theorem args_of {op : Bs} {ks : List Bs} (hop : op.all isAt = true) (hk : ∀ k ∈ ks, Whole k) : args (say op ks) = some (op :: ks) := by
  have hl : (say op ks).length < 2 ∨ (say op ks).head? ≠ some 91 ∨ (say op ks).getLast? ≠ some 93 → False := by
    intro h
    rcases h with h | h | h
    · unfold say at h; simp at h; omega
    · simp [say] at h
    · apply h
      unfold say
      rw [← List.append_assoc, ← List.cons_append, List.getLast?_append]
      rfl
  unfold args
  rw [if_neg hl]
  unfold say
  rw [List.tail_cons, sp_word op _ _ _ hop (by simp) (by omega), sp_top ks _ hk]
  simp

theorem args_tx {T : Tm} (hT : T.ok) (h : T.isAtom = false) : args T.tx = some (T.op :: T.kids.map Tm.tx) := by
  rw [tx_say T h]
  refine args_of (op_all T) ?_
  intro k hk
  obtain ⟨K, hK, rfl⟩ := List.mem_map.1 hk
  exact whole_tx K (kid_ok hT hK)

/-! ### how deep -/

def mk (n : Nat) (op : Bs) (ks : List Bs) : Option Tm :=
  match ks.mapM (pz n) with
  | none => none
  | some Ts => build op Ts

theorem mapM_tx (n : Nat) : ∀ (Ts : List Tm), (∀ T ∈ Ts, T.ok ∧ T.deep ≤ n) → (Ts.map Tm.tx).mapM (pz n) = some Ts
  | [], _ => rfl
  | T :: Ts, h => by
    have h1 : pz n T.tx = some T := pz_some.2 ⟨(h T (by simp)).1, (h T (by simp)).2, rfl⟩
    rw [List.map_cons, List.mapM_cons, h1, mapM_tx n Ts fun t ht => h t (by simp [ht])]
    rfl

theorem mapM_out (n : Nat) : ∀ (ks : List Bs) (Ts : List Tm), ks.mapM (pz n) = some Ts → ks = Ts.map Tm.tx ∧ ∀ T ∈ Ts, T.ok ∧ T.deep ≤ n
  | [], Ts, h => by simp at h; subst h; simp
  | k :: ks, Ts, h => by
    rw [List.mapM_cons] at h
    cases h1 : pz n k with
    | none => rw [h1] at h; cases h
    | some T =>
      cases h2 : ks.mapM (pz n) with
      | none => rw [h1, h2] at h; cases h
      | some Us =>
        rw [h1, h2] at h
        cases h
        obtain ⟨a, b, c⟩ := pz_some.1 h1
        obtain ⟨e, f⟩ := mapM_out n ks Us h2
        refine ⟨by rw [List.map_cons, c, e], ?_⟩
        intro T' hT'
        rcases List.mem_cons.1 hT' with rfl | hT'
        · exact ⟨a, b⟩
        · exact f _ hT'

theorem pz_node {t : Bs} {n : Nat} {T : Tm} (ha : atomR t = false) (h : pz n t = some T) : T.isAtom = false := by
  cases hT : T.isAtom with
  | false => rfl
  | true =>
    obtain ⟨a, _, c⟩ := pz_some.1 h
    match T, hT, a, c with
    | .atom x, _, a, c =>
      have : atomR x = true := a
      rw [show x = t from c, ha] at this
      cases this

theorem pz_none_args {t : Bs} {n : Nat} (ha : atomR t = false) (h : args t = none) : pz n t = none := by
  cases hp : pz n t with
  | none => rfl
  | some T =>
    obtain ⟨a, _, c⟩ := pz_some.1 hp
    have := args_tx a (pz_node ha hp)
    rw [c, h] at this
    cases this

theorem node_deep {T : Tm} (h : T.isAtom = false) : 2 ≤ T.deep := by
  cases T <;> first | (simp [Tm.isAtom] at h; done) | skip
  all_goals simp [Tm.deep]
  all_goals first | (rename_i x y; have := deep_pos x; have := deep_pos y; omega) | (rename_i x; have := deep_pos x; omega)

theorem pz_one {t : Bs} (ha : atomR t = false) : pz 1 t = none := by
  cases hp : pz 1 t with
  | none => rfl
  | some T =>
    have := node_deep (pz_node ha hp)
    have := (pz_some.1 hp).2.1
    omega

theorem pz_succ {t : Bs} {n : Nat} {op : Bs} {ks : List Bs} (ha : atomR t = false) (h : args t = some (op :: ks)) : pz (n + 1) t = mk n op ks := by
  have h1 : ∀ T, pz (n + 1) t = some T → mk n op ks = some T := by
    intro T hT
    have hn := pz_node ha hT
    obtain ⟨a, b, c⟩ := pz_some.1 hT
    have e := args_tx a hn
    rw [c, h] at e
    simp only [Option.some.injEq, List.cons.injEq] at e
    obtain ⟨e1, e2⟩ := e
    unfold mk
    rw [e2, mapM_tx n T.kids fun k hk => ⟨kid_ok a hk, by have := kid_deep hk; omega⟩]
    show build op T.kids = some T
    rw [e1]
    exact build_of T hn ((ok_iff T hn).1 a).2
  have h2 : ∀ T, mk n op ks = some T → pz (n + 1) t = some T := by
    intro T hT
    unfold mk at hT
    cases hm : ks.mapM (pz n) with
    | none => rw [hm] at hT; cases hT
    | some Ts =>
      rw [hm] at hT
      obtain ⟨b1, b2, b3, b4⟩ := build_some (show build op Ts = some T from hT)
      obtain ⟨e, f⟩ := mapM_out n ks Ts hm
      obtain ⟨op', ks', e1, e2⟩ := args_say h
      cases e1
      refine pz_some.2 ⟨(ok_iff T b1).2 ⟨fun k hk => (f k (b3 ▸ hk)).1, b4⟩, ?_, ?_⟩
      · rw [deep_kids T b1, b3]
        have : ∀ (ks : List Tm) m, m ≤ n → (∀ k ∈ ks, k.deep ≤ n) → ks.foldl (fun m k => max m k.deep) m ≤ n := by
          intro ks
          induction ks with
          | nil => intro m hm _; simpa using hm
          | cons a ks ih => intro m hm hk; exact ih _ (by have := hk a (by simp); show max m a.deep ≤ n; omega) (fun k hk' => hk k (by simp [hk']))
        have := this Ts 0 (Nat.zero_le _) (fun k hk => (f k hk).2)
        omega
      · rw [tx_say T b1, b2, b3, e2, e]
  cases hp : pz (n + 1) t with
  | some T => exact (h1 T hp).symm
  | none =>
    cases hm : mk n op ks with
    | none => rfl
    | some T => rw [h2 T hm] at hp; cases hp

def dz (n : Nat) (t : Bs) : Nat := match pz n t with | some T => T.deep | none => 0

theorem dz_some {n : Nat} {t : Bs} {T : Tm} (h : pz n t = some T) : dz n t = T.deep := by unfold dz; rw [h]
theorem dz_none {n : Nat} {t : Bs} (h : pz n t = none) : dz n t = 0 := by unfold dz; rw [h]
theorem dz_zero {n : Nat} {t : Bs} (h : dz n t = 0) : pz n t = none := by
  cases hp : pz n t with
  | none => rfl
  | some T => rw [dz_some hp] at h; have := deep_pos T; omega
theorem dz_pos {n : Nat} {t : Bs} (h : dz n t ≠ 0) : ∃ T, pz n t = some T ∧ dz n t = T.deep := by
  cases hp : pz n t with
  | none => exact absurd (dz_none hp) h
  | some T => exact ⟨T, rfl, dz_some hp⟩
theorem dz_le (n : Nat) (t : Bs) : dz n t ≤ n := by
  unfold dz
  cases hp : pz n t with
  | none => exact Nat.zero_le _
  | some T => exact (pz_some.1 hp).2.1

def many (op : Bs) : Nat := if op = oPair ∨ op = oMac ∨ op = oShut ∨ op = oDh then 2 else if op = oHash ∨ op = oPub then 1 else 0
def secret (op : Bs) : Bool := decide (op = oPub) || decide (op = oDh)

theorem build_many {op : Bs} {Ts : List Tm} {T : Tm} (h : build op Ts = some T) : many op = Ts.length ∧ many op ≠ 0 := by
  obtain ⟨b1, b2, b3, b4⟩ := build_some h
  subst b2
  subst b3
  cases T <;> first | (simp [Tm.isAtom] at b1; done) | (simp [many, Tm.op, Tm.kids, oPair, oHash, oMac, oShut, oPub, oDh])

theorem mapM_length (n : Nat) {ks : List Bs} {Ts : List Tm} (h : ks.mapM (pz n) = some Ts) : Ts.length = ks.length := by
  have := (mapM_out n ks Ts h).1
  rw [this]; simp

theorem mk_many {n : Nat} {op : Bs} {ks : List Bs} (h : many op = 0 ∨ ks.length ≠ many op) : mk n op ks = none := by
  unfold mk
  cases hm : ks.mapM (pz n) with
  | none => rfl
  | some Ts =>
    show build op Ts = none
    cases hb : build op Ts with
    | none => rfl
    | some T =>
      have h1 := build_many hb
      have h2 := mapM_length n hm
      omega

theorem mk_zero {n : Nat} {op : Bs} {ks : List Bs} {x : Bs} (hx : x ∈ ks) (h : dz n x = 0) : mk n op ks = none := by
  unfold mk
  cases hm : ks.mapM (pz n) with
  | none => rfl
  | some Ts =>
    obtain ⟨e, f⟩ := mapM_out n ks Ts hm
    rw [e] at hx
    obtain ⟨T, hT, rfl⟩ := List.mem_map.1 hx
    have := pz_some.2 ⟨(f T hT).1, (f T hT).2, rfl⟩
    rw [dz_zero h] at this
    cases this

theorem one_atom {T : Tm} (h : T.deep = 1) : ∃ a, T = .atom a := by
  cases hT : T.isAtom with
  | false => have := node_deep hT; omega
  | true => cases T <;> first | exact ⟨_, rfl⟩ | (simp [Tm.isAtom] at hT)

theorem mk_one {n : Nat} {op x : Bs} {X : Tm} (h : pz n x = some X) : mk n op [x] = build op [X] := by
  unfold mk
  simp [h]
theorem mk_two {n : Nat} {op x y : Bs} {X Y : Tm} (h : pz n x = some X) (k : pz n y = some Y) : mk n op [x, y] = build op [X, Y] := by
  unfold mk
  simp [h, k]

theorem mk_hash {n : Nat} {x : Bs} (h : dz n x ≠ 0) : ∃ T, mk n oHash [x] = some T ∧ T.deep = dz n x + 1 := by
  obtain ⟨X, h1, h2⟩ := dz_pos h
  rw [mk_one h1, h2]
  exact ⟨_, rfl, rfl⟩
theorem mk_pub_yes {n : Nat} {x : Bs} (h : dz n x = 1) : ∃ T, mk n oPub [x] = some T ∧ T.deep = 2 := by
  obtain ⟨X, h1, h2⟩ := dz_pos (n := n) (t := x) (by omega)
  obtain ⟨a, rfl⟩ := one_atom (show X.deep = 1 by omega)
  rw [mk_one h1]
  exact ⟨_, rfl, rfl⟩
theorem deep_node {T : Tm} (h : 2 ≤ T.deep) : T.isAtom = false := by cases T <;> first | rfl | (simp [Tm.deep] at h)
theorem mk_pub_no {n : Nat} {x : Bs} (h : 2 ≤ dz n x) : mk n oPub [x] = none := by
  obtain ⟨X, h1, h2⟩ := dz_pos (n := n) (t := x) (by omega)
  rw [mk_one h1]
  have hn := deep_node (show 2 ≤ X.deep by omega)
  cases X <;> first | (simp [Tm.isAtom] at hn; done) | rfl
theorem mk_pms {n : Nat} {op x y : Bs} (hop : op = oPair ∨ op = oMac ∨ op = oShut) (h : dz n x ≠ 0) (k : dz n y ≠ 0) : ∃ T, mk n op [x, y] = some T ∧ T.deep = max (dz n x) (dz n y) + 1 := by
  obtain ⟨X, h1, h2⟩ := dz_pos h
  obtain ⟨Y, k1, k2⟩ := dz_pos k
  rw [mk_two h1 k1, h2, k2]
  rcases hop with rfl | rfl | rfl <;> exact ⟨_, rfl, rfl⟩
theorem mk_dh {n : Nat} {x y : Bs} (h : dz n x = 1) (k : dz n y = 1) : (gt x y = false → ∃ T, mk n oDh [x, y] = some T ∧ T.deep = 2) ∧ (gt x y = true → mk n oDh [x, y] = none) := by
  obtain ⟨X, h1, h2⟩ := dz_pos (n := n) (t := x) (by omega)
  obtain ⟨Y, k1, k2⟩ := dz_pos (n := n) (t := y) (by omega)
  obtain ⟨a, rfl⟩ := one_atom (show X.deep = 1 by omega)
  obtain ⟨b, rfl⟩ := one_atom (show Y.deep = 1 by omega)
  obtain rfl : a = x := (pz_some.1 h1).2.2
  obtain rfl : b = y := (pz_some.1 k1).2.2
  rw [mk_two h1 k1]
  refine ⟨fun hg => ⟨.dh a b, ?_, rfl⟩, fun hg => ?_⟩
  · simp [build, oDh, oPub, oShut, oMac, oHash, oPair, hg]
  · simp [build, oDh, oPub, oShut, oMac, oHash, oPair, hg]
theorem mk_dh_no {n : Nat} {x y : Bs} (h : 2 ≤ dz n x ∨ 2 ≤ dz n y) : mk n oDh [x, y] = none := by
  by_cases hx : dz n x = 0
  · exact mk_zero (x := x) (by simp) hx
  by_cases hy : dz n y = 0
  · exact mk_zero (x := y) (by simp) hy
  obtain ⟨X, h1, h2⟩ := dz_pos hx
  obtain ⟨Y, k1, k2⟩ := dz_pos hy
  rw [mk_two h1 k1]
  cases hb : build oDh [X, Y] with
  | none => rfl
  | some T =>
    obtain ⟨b1, b2, b3, b4⟩ := build_some hb
    cases T <;> first | (simp [Tm.op, oDh, oPair, oHash, oMac, oShut, oPub] at b2; done) | skip
    simp [Tm.kids] at b3
    obtain ⟨rfl, rfl⟩ := b3
    simp [Tm.deep] at h2 k2
    omega

theorem dz_mk_none {n : Nat} {t op : Bs} {ks : List Bs} (ha : atomR t = false) (h : args t = some (op :: ks)) (hm : mk n op ks = none) : dz (n + 1) t = 0 := dz_none (by rw [pz_succ ha h, hm])
theorem dz_mk_some {n : Nat} {t op : Bs} {ks : List Bs} {k : Nat} (ha : atomR t = false) (h : args t = some (op :: ks)) (hm : ∃ T, mk n op ks = some T ∧ T.deep = k) : dz (n + 1) t = k := by
  obtain ⟨T, h1, h2⟩ := hm
  rw [dz_some (by rw [pz_succ ha h, h1]), h2]
theorem many_cases (op : Bs) : many op = 0 ∨ (many op = 1 ∧ (op = oHash ∨ op = oPub)) ∨ (many op = 2 ∧ (op = oPair ∨ op = oMac ∨ op = oShut ∨ op = oDh)) := by
  unfold many
  split
  · right; right; exact ⟨rfl, by assumption⟩
  · split
    · right; left; exact ⟨rfl, by assumption⟩
    · left; rfl
end Go.Proofs.YtonjohlecomeoaaGreat.spm

/- The atoms of a term: rising, no two alike: what sorting and compacting gives is what putting one after the other gives. Plain mathematics. -/
namespace Go.Proofs.YtonjohlecomeoaaGreat.ato
open Go Go.Proofs.YtonjohlecomeoaaGreat.tm
set_option linter.unusedVariables false

def aL : Tm → List Bs
  | .atom a => [a]
  | .pair l r => aL l ++ aL r
  | .hash x => aL x
  | .mac k x => aL k ++ aL x
  | .shut k x => aL k ++ aL x
  | .pub a => [a]
  | .dh a b => [a, b]

theorem aL_kids (T : Tm) (h : T.isAtom = false) : aL T = T.kids.flatMap aL := by
  cases T <;> first | (simp [Tm.isAtom] at h; done) | simp [aL, Tm.kids]

theorem kids_node (T : Tm) (h : T.isAtom = false) : (∃ x, T.kids = [x]) ∨ (∃ x y, T.kids = [x, y]) := by
  cases T with
  | atom a => cases h
  | pair x y => exact .inr ⟨x, y, rfl⟩
  | hash x => exact .inl ⟨x, rfl⟩
  | mac x y => exact .inr ⟨x, y, rfl⟩
  | shut x y => exact .inr ⟨x, y, rfl⟩
  | pub a => exact .inl ⟨.atom a, rfl⟩
  | dh a b => exact .inr ⟨.atom a, .atom b, rfl⟩

def put (l : List Bs) (t : Bs) : List Bs :=
  if l[(l.takeWhile (fun x => decide (x < t))).length]? = some t then l
  else l.take (l.takeWhile (fun x => decide (x < t))).length ++ t :: l.drop (l.takeWhile (fun x => decide (x < t))).length

theorem lt_or (x y : Bs) : x < y ∨ x = y ∨ y < x := by
  by_cases h1 : x < y
  · exact .inl h1
  by_cases h2 : y < x
  · exact .inr (.inr h2)
  · exact .inr (.inl (List.le_antisymm h2 h1))

abbrev Rise (l : List Bs) : Prop := l.Pairwise (· < ·)

theorem takeWhile_split (l : List Bs) (t : Bs) (h : Rise l) : ∃ a b, l = a ++ b ∧ (l.takeWhile (fun x => decide (x < t))).length = a.length ∧ (∀ x ∈ a, x < t) ∧ (∀ x ∈ b, ¬ x < t) := by
  induction l with
  | nil => exact ⟨[], [], rfl, rfl, by simp, by simp⟩
  | cons c l ih =>
    have h := List.pairwise_cons.1 h
    by_cases hc : c < t
    · obtain ⟨a, b, e, e2, h1, h2⟩ := ih h.2
      refine ⟨c :: a, b, by rw [e]; rfl, by simp [hc, e2], ?_, h2⟩
      intro x hx
      rcases List.mem_cons.1 hx with rfl | hx
      · exact hc
      · exact h1 x hx
    · refine ⟨[], c :: l, rfl, by simp [hc], by simp, ?_⟩
      intro x hx hxt
      rcases List.mem_cons.1 hx with rfl | hx
      · exact hc hxt
      · exact hc (List.lt_trans (h.1 x hx) hxt)

theorem put_rise (l : List Bs) (t : Bs) (h : Rise l) : Rise (put l t) ∧ ∀ x, x ∈ put l t ↔ x ∈ l ∨ x = t := by
  obtain ⟨a, b, e, e2, h1, h2⟩ := takeWhile_split l t h
  unfold put
  rw [e2]
  have hd : l[a.length]? = b[0]? := by rw [e, List.getElem?_append_right (Nat.le_refl _), Nat.sub_self]
  have ht : l.take a.length = a := by rw [e, List.take_left]
  have hr : l.drop a.length = b := by rw [e, List.drop_left]
  rw [hd, ht, hr]
  split
  · rename_i hb
    refine ⟨h, fun x => ⟨.inl, ?_⟩⟩
    rintro (hx | rfl)
    · exact hx
    · rw [e]; exact List.mem_append_right _ (List.mem_of_getElem? hb)
  · rename_i hb
    have hbt : ∀ x ∈ b, t < x := by
      intro x hx
      rcases lt_or x t with h3 | rfl | h3
      · exact absurd h3 (h2 x hx)
      · cases b with
        | nil => cases hx
        | cons c b =>
          rw [e] at h
          have hc := (List.pairwise_append.1 h).2.1
          rw [List.pairwise_cons] at hc
          rcases List.mem_cons.1 hx with rfl | hx'
          · exact absurd rfl hb
          · exact absurd (hc.1 x hx') (h2 c (by simp))
      · exact h3
    refine ⟨?_, fun x => ?_⟩
    · rw [e] at h
      obtain ⟨p1, p2, p3⟩ := List.pairwise_append.1 h
      refine List.pairwise_append.2 ⟨p1, List.pairwise_cons.2 ⟨hbt, p2⟩, ?_⟩
      intro x hx y hy
      rcases List.mem_cons.1 hy with rfl | hy
      · exact h1 x hx
      · exact p3 x hx y hy
    · rw [e]
      simp only [List.mem_append, List.mem_cons]
      constructor
      · rintro (h | h | h)
        · exact .inl (.inl h)
        · exact .inr h
        · exact .inl (.inr h)
      · rintro ((h | h) | h)
        · exact .inl h
        · exact .inr (.inr h)
        · exact .inr (.inl h)

/-- Two rising lists of the same members are one. -/
theorem rise_ext : ∀ (l m : List Bs), Rise l → Rise m → (∀ x, x ∈ l ↔ x ∈ m) → l = m
  | [], [], _, _, _ => rfl
  | [], b :: m, _, _, h => by have := (h b).2 (by simp); cases this
  | a :: l, [], _, _, h => by have := (h a).1 (by simp); cases this
  | a :: l, b :: m, hl, hm, h => by
    rw [Rise, List.pairwise_cons] at hl hm
    have hab : a = b := by
      rcases List.mem_cons.1 ((h a).1 (by simp)) with e | h1
      · exact e
      rcases List.mem_cons.1 ((h b).2 (by simp)) with e | h2
      · exact e.symm
      exact absurd (List.lt_trans (hl.1 b h2) (hm.1 a h1)) (List.lt_irrefl a)
    subst hab
    congr 1
    refine rise_ext l m hl.2 hm.2 fun x => ?_
    constructor
    · intro hx
      rcases List.mem_cons.1 ((h x).1 (by simp [hx])) with e | h1
      · subst e; exact absurd (hl.1 x hx) (List.lt_irrefl x)
      · exact h1
    · intro hx
      rcases List.mem_cons.1 ((h x).2 (by simp [hx])) with e | h1
      · subst e; exact absurd (hm.1 x hx) (List.lt_irrefl x)
      · exact h1

def puts (l : List Bs) (ts : List Bs) : List Bs := ts.foldl put l

theorem puts_rise : ∀ (ts l : List Bs), Rise l → Rise (puts l ts) ∧ ∀ x, x ∈ puts l ts ↔ x ∈ l ∨ x ∈ ts
  | [], l, h => ⟨h, by simp [puts]⟩
  | t :: ts, l, h => by
    obtain ⟨h1, h2⟩ := put_rise l t h
    obtain ⟨h3, h4⟩ := puts_rise ts (put l t) h1
    refine ⟨h3, fun x => ?_⟩
    show x ∈ puts (put l t) ts ↔ _
    rw [h4, h2, List.mem_cons, or_assoc]

theorem compact_rise (zs : List Bs) (h : zs.Pairwise (· ≤ ·)) : Rise (Lib.compact zs) ∧ ∀ x, x ∈ Lib.compact zs ↔ x ∈ zs := by
  have hg : ∀ i, i < zs.length → zs.toArray[i]! = zs[i]! := fun i hi => by simp [hi]
  have hle : ∀ i j, i ≤ j → j < zs.length → zs[i]! ≤ zs[j]! := by
    intro i j hij hj
    rcases Nat.lt_or_ge i j with h1 | h1
    · have := List.pairwise_iff_getElem.1 h i j (by omega) hj h1
      simpa [show i < zs.length by omega, hj] using this
    · obtain rfl : i = j := by omega
      exact List.le_refl _
  unfold Lib.compact Lib.compactUpTo
  refine ⟨?_, fun x => ?_⟩
  · rw [Rise, List.pairwise_map]
    refine (List.Pairwise.filter _ List.pairwise_lt_range).imp_of_mem ?_
    intro i j hi hj hij
    simp only [List.mem_filter, List.mem_range] at hi hj
    rw [hg i hi.1, hg j hj.1]
    have hk := hj.2
    unfold Lib.keeps at hk
    simp only [decide_eq_true_eq] at hk
    rcases hk with hk | hk
    · omega
    · rw [hg j hj.1, hg (j - 1) (by omega)] at hk
      have a1 := hle i (j - 1) (by omega) (by omega)
      have a2 := hle (j - 1) j (by omega) hj.1
      rcases lt_or zs[i]! zs[j]! with h1 | h1 | h1
      · exact h1
      · exfalso
        apply hk
        exact List.le_antisymm (h1 ▸ a1) a2
      · exact absurd h1 (List.le_trans a1 a2)
  · simp only [List.mem_map, List.mem_filter, List.mem_range]
    constructor
    · rintro ⟨i, ⟨hi, _⟩, rfl⟩
      rw [hg i hi]
      simp [hi]
    · intro hx
      obtain ⟨i, hi, rfl⟩ := List.mem_iff_getElem.1 hx
      -- the least place that holds it
      have : ∃ j, j ≤ i ∧ zs[j]! = zs[i]! ∧ Lib.keeps zs.toArray j = true := by
        have key : ∀ n, n ≤ i → zs[n]! = zs[i]! → ∃ j, j ≤ n ∧ zs[j]! = zs[i]! ∧ Lib.keeps zs.toArray j = true := by
          intro n
          induction n with
          | zero => exact fun _ e => ⟨0, Nat.le_refl _, e, by simp [Lib.keeps]⟩
          | succ n ih =>
            intro hn e
            by_cases e2 : zs[n]! = zs[i]!
            · obtain ⟨j, h1, h2, h3⟩ := ih (by omega) e2
              exact ⟨j, by omega, h2, h3⟩
            · refine ⟨n + 1, Nat.le_refl _, e, ?_⟩
              unfold Lib.keeps
              simp only [decide_eq_true_eq]
              right
              rw [hg (n + 1) (by omega), hg (n + 1 - 1) (by omega), e]
              exact fun e3 => e2 e3.symm
        exact key i (Nat.le_refl _) rfl
      obtain ⟨j, h1, h2, h3⟩ := this
      exact ⟨j, ⟨by omega, h3⟩, by rw [hg j (by omega), h2]; simp [hi]⟩

theorem sorted (zs : List Bs) : (zs.mergeSort fun x y => decide (x ≤ y)).Pairwise (· ≤ ·) := by
  have := List.pairwise_mergeSort (le := fun (x y : Bs) => decide (x ≤ y)) (fun a b c h1 h2 => by simp only [decide_eq_true_eq] at *; exact List.le_trans h1 h2)
    (fun a b => by simp only [Bool.or_eq_true, decide_eq_true_eq]; exact List.le_total a b) zs
  exact this.imp fun h => by simpa using h

/-- Sorted and compacted is put one by one. -/
theorem same (zs : List Bs) : Lib.compact (zs.mergeSort fun x y => decide (x ≤ y)) = puts [] zs := by
  obtain ⟨h1, h2⟩ := compact_rise _ (sorted zs)
  obtain ⟨h3, h4⟩ := puts_rise zs [] List.Pairwise.nil
  refine rise_ext _ _ h1 h3 fun x => ?_
  rw [h2, h4, List.mem_mergeSort]
  simp
end Go.Proofs.YtonjohlecomeoaaGreat.ato

/- Texts, sorted: plain. -/
namespace Go.Proofs.YtonjohlecomeoaaGreat.its
open Go Go.Proofs.YtonjohlecomeoaaGreat.tm

def srt (zs : List Bs) : List Bs := zs.mergeSort fun x y => decide (x ≤ y)
theorem srt_len (zs : List Bs) : (srt zs).length = zs.length := List.length_mergeSort _
end Go.Proofs.YtonjohlecomeoaaGreat.its

/- What Make answers, as a plain function: as the model reckons it, and as the program does. -/
namespace Go.Proofs.YtonjohlecomeoaaGreat.mkp
open Go Go.RowKit Go.Proofs.YtonjohlecomeoaaGreat.tm Go.Proofs.YtonjohlecomeoaaGreat.spm Go.Proofs.YtonjohlecomeoaaGreat.its
set_option linter.unusedVariables false

/-- the terms of some texts, if all are right. -/
def terms : List Bs → Option (List Tm)
  | [] => some []
  | a :: l => match term a with
    | none => none
    | some T => match terms l with
      | none => none
      | some Ts => some (T :: Ts)

theorem terms_cons (a : Bs) (l : List Bs) : terms (a :: l) = (match term a with | none => none | some T => match terms l with | none => none | some Ts => some (T :: Ts)) := rfl
theorem terms_len : ∀ (l : List Bs) (Ts : List Tm), terms l = some Ts → Ts.length = l.length
  | [], Ts, h => by simp [terms] at h; subst h; rfl
  | a :: l, Ts, h => by
    rw [terms_cons] at h
    cases ha : term a with
    | none => rw [ha] at h; cases h
    | some T =>
      rw [ha] at h
      cases hs : terms l with
      | none => rw [hs] at h; cases h
      | some Us =>
        rw [hs] at h
        cases h
        simp [terms_len l Us hs]

def rights (op x : Bs) : Bool := (term x).isSome && (!secret op || atomR x)
def dhS (x y : Bs) : Bs := if gt x y then say oDh [y, x] else say oDh [x, y]
def madeT (op : Bs) (args : List Bs) : Bs := if op = oDh then (match args with | [x, y] => dhS x y | _ => []) else say op args
def finR (t : Bs) : Bs × Int := if (term t).isSome then (t, 0) else ([], 9)
def makeR (op : Bs) (args : List Bs) : Bs × Int :=
  if 400 < args.length ∨ 8000 < op.length then ([], 2)
  else if many op = 0 ∨ args.length ≠ many op then ([], 1)
  else if args.all (rights op) then finR (madeT op args) else ([], 1)

/-- .. as the program goes about it, the list being sorted where that is due. -/
def implR (op : Bs) (args : List Bs) : Bs × Int :=
  match terms args with
  | none => ([], 1)
  | some Ts => match build op Ts with
    | none => ([], 1)
    | some T => if T.tx.length ≤ 3000 ∧ T.deep ≤ 24 then (T.tx, 0) else ([], 9)
def sortedR (op : Bs) (args : List Bs) : List Bs := if op = oDh then srt args else args

theorem sortedR_len (op : Bs) (args : List Bs) : (sortedR op args).length = args.length := by
  unfold sortedR; split
  · exact srt_len _
  · rfl

theorem term_tx {T : Tm} (h : T.ok) : (term T.tx).isSome = decide (T.tx.length ≤ 3000 ∧ T.deep ≤ 24) := by
  by_cases hc : T.tx.length ≤ 3000 ∧ T.deep ≤ 24
  · rw [term_some.2 ⟨hc.1, h, hc.2, rfl⟩]; simp [hc]
  · cases ht : term T.tx with
    | none => simp [hc]
    | some U =>
      obtain ⟨h1, h2, h3, h4⟩ := term_some.1 ht
      have := tx_inj h h2 h4.symm
      subst this
      exact absurd ⟨h1, h3⟩ hc

theorem finR_tx {T : Tm} (h : T.ok) : finR T.tx = if T.tx.length ≤ 3000 ∧ T.deep ≤ 24 then (T.tx, 0) else ([], 9) := by
  unfold finR
  rw [term_tx h]
  by_cases hc : T.tx.length ≤ 3000 ∧ T.deep ≤ 24 <;> simp [hc]

theorem term_atom {x : Bs} (h : atomR x = true) : term x = some (.atom x) := by
  have := atomR_len h
  exact term_some.2 ⟨by omega, h, by simp [Tm.deep], rfl⟩
theorem term_not_atom {x : Bs} {X : Tm} (h : term x = some X) (ha : atomR x = false) : X.isAtom = false := by
  obtain ⟨_, h2, _, h4⟩ := term_some.1 h
  cases X with
  | atom a =>
    have : a = x := h4
    subst this
    rw [show atomR a = true from h2] at ha
    cases ha
  | _ => rfl

theorem implR_shape {op : Bs} {args : List Bs} (h : many op = 0 ∨ args.length ≠ many op) : implR op args = ([], 1) := by
  unfold implR
  cases ht : terms args with
  | none => rfl
  | some Ts =>
    cases hb : build op Ts with
    | none => simp [hb]
    | some T =>
      have h1 := build_many hb
      have h2 := terms_len _ _ ht
      omega

theorem implR_one {op x : Bs} (hm : many op = 1) : implR op [x] = if rights op x then finR (say op [x]) else ([], 1) := by
  have hop : op = oHash ∨ op = oPub := by
    unfold many at hm
    split at hm
    · cases hm
    · split at hm
      · assumption
      · cases hm
  unfold implR rights
  rw [terms_cons]
  cases hx : term x with
  | none => simp
  | some X =>
    obtain ⟨_, hX, _, htx⟩ := term_some.1 hx
    rcases hop with rfl | rfl
    · have : build oHash [X] = some (.hash X) := by simp [build, oPair, oHash]
      have e : secret oHash = false := by decide
      simp only [terms, this, e]
      rw [← htx]
      have := finR_tx (T := .hash X) hX
      simp only [Option.isSome_some, Bool.not_false, Bool.true_or, Bool.and_self, if_true]
      exact this.symm
    · have e : secret oPub = true := by decide
      cases ha : atomR x with
      | true =>
        rw [term_atom ha] at hx
        cases hx
        have : build oPub [.atom x] = some (.pub x) := by simp [build, oPair, oHash, oMac, oShut, oPub]
        simp only [terms, this, e]
        have := finR_tx (T := .pub x) ha
        simp only [Option.isSome_some, Bool.or_true, Bool.and_self, if_true]
        exact this.symm
      | false =>
        have hn := term_not_atom hx ha
        have : build oPub [X] = none := by
          cases X <;> first | (simp [Tm.isAtom] at hn; done) | (simp [build, oPair, oHash, oMac, oShut, oPub])
        simp [terms, this, e]

theorem implR_two {op x y : Bs} (hm : many op = 2) (hd : op ≠ oDh) : implR op [x, y] = if rights op x && rights op y then finR (say op [x, y]) else ([], 1) := by
  have hop : op = oPair ∨ op = oMac ∨ op = oShut := by
    unfold many at hm
    split at hm
    · rename_i h; rcases h with h | h | h | h
      · exact .inl h
      · exact .inr (.inl h)
      · exact .inr (.inr h)
      · exact absurd h hd
    · split at hm <;> cases hm
  have e : secret op = false := by rcases hop with rfl | rfl | rfl <;> decide
  unfold implR rights
  rw [terms_cons, terms_cons, e]
  cases hx : term x with
  | none => simp
  | some X =>
    cases hy : term y with
    | none => simp
    | some Y =>
      obtain ⟨_, hX, _, htx⟩ := term_some.1 hx
      obtain ⟨_, hY, _, hty⟩ := term_some.1 hy
      obtain ⟨T, hT, hok, ht⟩ : ∃ T, build op [X, Y] = some T ∧ T.ok ∧ T.tx = say op [x, y] := by
        rcases hop with rfl | rfl | rfl
        · exact ⟨.pair X Y, by simp [build], ⟨hX, hY⟩, by rw [← htx, ← hty]; rfl⟩
        · exact ⟨.mac X Y, by simp [build, oPair, oHash, oMac], ⟨hX, hY⟩, by rw [← htx, ← hty]; rfl⟩
        · exact ⟨.shut X Y, by simp [build, oPair, oHash, oMac, oShut], ⟨hX, hY⟩, by rw [← htx, ← hty]; rfl⟩
      simp only [terms, hT]
      rw [← ht, finR_tx hok]
      simp

theorem dh_none {X Y : Tm} (h : X.isAtom = false ∨ Y.isAtom = false) : build oDh [X, Y] = none := by
  cases X <;> cases Y <;> first | (simp [Tm.isAtom] at h; done) | simp [build, oPair, oHash, oMac, oShut, oPub, oDh]
theorem dh_some {a b : Bs} (h : gt a b = false) : build oDh [.atom a, .atom b] = some (.dh a b) := by
  simp [build, oPair, oHash, oMac, oShut, oPub, oDh, h]

/-- two secrets in their order. -/
theorem implR_dh {x y : Bs} (h : gt x y = false) : implR oDh [x, y] = if rights oDh x && rights oDh y then finR (say oDh [x, y]) else ([], 1) := by
  have e : secret oDh = true := by decide
  unfold implR rights
  rw [terms_cons, terms_cons, e]
  cases hx : term x with
  | none => simp
  | some X =>
    cases hy : term y with
    | none => simp
    | some Y =>
      simp only [terms, Option.isSome_some, Bool.not_true, Bool.false_or, Bool.true_and]
      cases ha : atomR x with
      | false =>
        rw [dh_none (.inl (term_not_atom hx ha))]
        simp
      | true =>
        cases hb : atomR y with
        | false =>
          rw [dh_none (.inr (term_not_atom hy hb))]
          simp
        | true =>
          rw [term_atom ha] at hx
          rw [term_atom hb] at hy
          cases hx
          cases hy
          rw [dh_some h]
          have := finR_tx (T := .dh x y) ⟨ha, hb, h⟩
          simp only [Bool.and_self, if_true]
          exact this.symm

open Go.Sort in
theorem bless_eq (x y : Bs) : Op.bytesLess x y = decide (x < y) := bytesLess_eq x y

theorem gt_lt (x y : Bs) : gt x y = decide (y < x) := by
  unfold gt
  rw [bless_eq]
  rcases ato.lt_or x y with h | h | h
  · have : ¬ y < x := fun e => List.lt_irrefl _ (List.lt_trans e h)
    simp [h, this]
  · subst h
    simp
  · have h1 : ¬ x < y := fun e => List.lt_irrefl _ (List.lt_trans e h)
    have h2 : ¬ x = y := fun e => by subst e; exact absurd h (List.lt_irrefl _)
    simp [h, h1, h2]

theorem srt_two (x y : Bs) : srt [x, y] = if gt x y then [y, x] else [x, y] := by
  unfold srt
  rw [gt_lt]
  have : ∀ (p : Bs → Bs → Bool), List.mergeSort [x, y] p = if p x y then [x, y] else [y, x] := fun p => by
    simp [List.mergeSort, List.MergeSort.Internal.splitInTwo, List.splitAt, List.splitAt.go, List.merge]
  rw [this]
  by_cases h : y < x
  · have : ¬ x ≤ y := fun e => e h
    simp [h, this]
  · have : x ≤ y := List.not_lt.1 h
    simp [h, this]

theorem gt_back {x y : Bs} (h : gt x y = true) : gt y x = false := by
  rw [gt_lt] at h ⊢
  have h : y < x := by simpa using h
  simpa using (fun e => List.lt_irrefl _ (List.lt_trans e h) : ¬ x < y)

theorem make_eq (op : Bs) (args : List Bs) (h1 : args.length ≤ 400) (h2 : op.length ≤ 8000) : implR op (sortedR op args) = makeR op args := by
  have hns : ¬ (400 < args.length ∨ 8000 < op.length) := by omega
  unfold makeR
  rw [if_neg hns]
  by_cases hs : many op = 0 ∨ args.length ≠ many op
  · rw [if_pos hs]
    exact implR_shape (by rw [sortedR_len]; exact hs)
  · rw [if_neg hs]
    have hm : args.length = many op := by omega
    have hcase : many op = 1 ∨ many op = 2 := by
      have : many op ≤ 2 := by unfold many; split; omega; split <;> omega
      omega
    rcases hcase with h | h
    · rw [h] at hm
      obtain ⟨x, rfl⟩ := List.length_eq_one_iff.1 hm
      have hd : op ≠ oDh := by rintro rfl; revert h; decide
      unfold sortedR madeT
      rw [if_neg hd, if_neg hd, implR_one h]
      simp
    · rw [h] at hm
      obtain ⟨x, y, rfl⟩ : ∃ x y, args = [x, y] := by
        match args, hm with
        | [x, y], _ => exact ⟨x, y, rfl⟩
      by_cases hd : op = oDh
      · subst hd
        unfold sortedR madeT
        rw [if_pos rfl, if_pos rfl, srt_two]
        simp only [List.all_cons, List.all_nil, Bool.and_true]
        unfold dhS
        cases hg : gt x y with
        | false =>
          simp only [Bool.false_eq_true, if_false]
          exact implR_dh hg
        | true =>
          simp only [if_true]
          rw [implR_dh (gt_back hg), Bool.and_comm]
      · unfold sortedR madeT
        rw [if_neg hd, if_neg hd, implR_two h hd]
        simp
end Go.Proofs.YtonjohlecomeoaaGreat.mkp

/- okT: is it a right term? -/
namespace Go.Proofs.YtonjohlecomeoaaGreat.ltq
open Go Go.Proofs.YtonjohlecomeoaaGreat.tm
def okT (l : Bs) : Bool := (term l).isSome
end Go.Proofs.YtonjohlecomeoaaGreat.ltq

/- The numbers of letters: ends and times. -/
namespace Go.Proofs.YtonjohlecomeoaaGreat.ltp
def endR (n : Int) : Bool := decide (1 ≤ n) && decide (n ≤ 999)
def timeR (n : Int) : Bool := decide (0 ≤ n) && decide (n ≤ 1000000)
end Go.Proofs.YtonjohlecomeoaaGreat.ltp
