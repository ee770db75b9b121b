/- Several small texts, one behind the other. -/
import Derived.WalkKit
import Derived.Test.YtdikjmhnjlalbaaGreatChecked
import Derived.BigGuardPart
import Derived.Lib.Hide
import Derived.Laws.BytesArg
import Derived.Laws.BitsLemmas
import Derived.Laws.Bits64
import Derived.Below
import Derived.BigQuiet
import Derived.Deep.QuietTactic
import Derived.Outline
import Derived.WalkLawsBesides

/- Terms as plain data: their text, what is right, how deep; a reader of texts as a plain function, sound and complete; the pieces between brackets. Nothing here speaks of the program. -/
namespace Go.Proofs.YtdikjmhnjlalbaaGreat.tm
open Go
set_option linter.unusedVariables false

abbrev Bs := List UInt8

def isAt (c : UInt8) : Bool := (97 ≤ c && c ≤ 122) || (48 ≤ c && c ≤ 57)
def gt (a b : Bs) : Bool := !(Op.bytesLess a b || a == b)
def atomR (l : Bs) : Bool := decide (1 ≤ l.length) && decide (l.length ≤ 8) && l.all isAt

inductive Tm where
  | atom (a : Bs)
  | pair (l r : Tm)
  | hash (x : Tm)
  | mac (k x : Tm)
  | shut (k x : Tm)
  | pub (a : Bs)
  | dh (a b : Bs)

def oPair : Bs := [112, 97, 105, 114]
def oHash : Bs := [104, 97, 115, 104]
def oMac : Bs := [109, 97, 99]
def oShut : Bs := [115, 104, 117, 116]
def oPub : Bs := [112, 117, 98]
def oDh : Bs := [100, 104]

def Tm.op : Tm → Bs
  | .atom _ => []
  | .pair _ _ => oPair
  | .hash _ => oHash
  | .mac _ _ => oMac
  | .shut _ _ => oShut
  | .pub _ => oPub
  | .dh _ _ => oDh

def Tm.kids : Tm → List Tm
  | .atom _ => []
  | .pair l r => [l, r]
  | .hash x => [x]
  | .mac k x => [k, x]
  | .shut k x => [k, x]
  | .pub a => [.atom a]
  | .dh a b => [.atom a, .atom b]

def Tm.isAtom : Tm → Bool
  | .atom _ => true
  | _ => false

def Tm.deep : Tm → Nat
  | .atom _ => 1
  | .pair l r => max l.deep r.deep + 1
  | .hash x => x.deep + 1
  | .mac k x => max k.deep x.deep + 1
  | .shut k x => max k.deep x.deep + 1
  | .pub _ => 2
  | .dh _ _ => 2

def Tm.ok : Tm → Prop
  | .atom a => atomR a = true
  | .pair l r => l.ok ∧ r.ok
  | .hash x => x.ok
  | .mac k x => k.ok ∧ x.ok
  | .shut k x => k.ok ∧ x.ok
  | .pub a => atomR a = true
  | .dh a b => atomR a = true ∧ atomR b = true ∧ gt a b = false

def say (op : Bs) (ks : List Bs) : Bs := 91 :: (op ++ (ks.flatMap (32 :: ·) ++ [93]))

def Tm.tx : Tm → Bs
  | .atom a => a
  | .pair l r => say oPair [l.tx, r.tx]
  | .hash x => say oHash [x.tx]
  | .mac k x => say oMac [k.tx, x.tx]
  | .shut k x => say oShut [k.tx, x.tx]
  | .pub a => say oPub [a]
  | .dh a b => say oDh [a, b]

theorem tx_say (T : Tm) (h : T.isAtom = false) : T.tx = say T.op (T.kids.map Tm.tx) := by
  cases T <;> first | (simp [Tm.isAtom] at h; done) | simp [Tm.tx, Tm.op, Tm.kids]

theorem deep_pos (T : Tm) : 1 ≤ T.deep := by cases T <;> simp [Tm.deep]

theorem deep_kids (T : Tm) (h : T.isAtom = false) : T.deep = (T.kids.foldl (fun m k => max m k.deep) 0) + 1 := by
  cases T <;> first | (simp [Tm.isAtom] at h; done) | simp [Tm.deep, Tm.kids]

theorem kid_deep {T k : Tm} (h : k ∈ T.kids) : k.deep + 1 ≤ T.deep := by
  cases T <;> simp [Tm.kids] at h <;> (try rcases h with rfl | rfl) <;> (try subst h) <;> simp [Tm.deep] <;> omega

theorem kid_ok {T k : Tm} (hT : T.ok) (h : k ∈ T.kids) : k.ok := by
  cases T <;> simp [Tm.kids] at h <;> (try rcases h with rfl | rfl) <;> (try subst h) <;> simp_all [Tm.ok]

/-! ### the reader -/

def word (l : Bs) : Bs := l.takeWhile isAt
def past (l : Bs) : Bs := l.dropWhile isAt

def build (op : Bs) (ks : List Tm) : Option Tm :=
  if op = oPair then (match ks with | [a, b] => some (.pair a b) | _ => none)
  else if op = oHash then (match ks with | [a] => some (.hash a) | _ => none)
  else if op = oMac then (match ks with | [a, b] => some (.mac a b) | _ => none)
  else if op = oShut then (match ks with | [a, b] => some (.shut a b) | _ => none)
  else if op = oPub then (match ks with | [.atom a] => some (.pub a) | _ => none)
  else if op = oDh then (match ks with | [.atom a, .atom b] => if gt a b then none else some (.dh a b) | _ => none)
  else none

def ord : Tm → Prop
  | .dh a b => gt a b = false
  | _ => True

theorem build_some {op : Bs} {ks : List Tm} {T : Tm} (h : build op ks = some T) : T.isAtom = false ∧ T.op = op ∧ T.kids = ks ∧ ord T := by
  unfold build at h
  repeat' split at h
  all_goals first
    | (cases h; done)
    | (cases h; subst_vars; refine ⟨rfl, rfl, rfl, ?_⟩; first | trivial | (simp only [ord]; simpa using ‹¬ _ = true›))

theorem build_of (T : Tm) (h : T.isAtom = false) (ho : ord T) : build T.op T.kids = some T := by
  cases T <;> first | (simp [Tm.isAtom] at h; done) | (simp [build, Tm.op, Tm.kids, oPair, oHash, oMac, oShut, oPub, oDh]; done) | (simp [ord] at ho; simp [build, Tm.op, Tm.kids, oPair, oHash, oMac, oShut, oPub, oDh, ho])

theorem ok_iff (T : Tm) (h : T.isAtom = false) : T.ok ↔ (∀ k ∈ T.kids, k.ok) ∧ ord T := by
  cases T <;> first | (simp [Tm.isAtom] at h; done) | simp [Tm.ok, Tm.kids, ord, and_assoc]

def rdArgs (f : Bs → Option (Tm × Bs)) : Nat → Bs → Option (List Tm × Bs)
  | 0, l => some ([], l)
  | k + 1, l =>
    match l with
    | [] => some ([], [])
    | c :: l' =>
      if c = 32 then
        match f l' with
        | none => none
        | some (t, r) =>
          match rdArgs f k r with
          | none => none
          | some (ts, r') => some (t :: ts, r')
      else some ([], l)

def closed (op : Bs) : Option (List Tm × Bs) → Option (Tm × Bs)
  | some (ts, c :: r) => if c = 93 then (build op ts).map fun t => (t, r) else none
  | _ => none

def rd : Nat → Bs → Option (Tm × Bs)
  | 0, _ => none
  | n + 1, l =>
    if l.head? = some 91 then closed (word l.tail) (rdArgs (rd n) (past l.tail).length (past l.tail))
    else if atomR (word l) then some (.atom (word l), past l) else none

/-- what stands next is no byte of an atom. -/
def stop (r : Bs) : Prop := ∀ c, r.head? = some c → isAt c = false

theorem word_past (l : Bs) : word l ++ past l = l := List.takeWhile_append_dropWhile
theorem past_stop (l : Bs) : stop (past l) := by
  intro c hc
  induction l with
  | nil => simp [past] at hc
  | cons a l ih =>
    unfold past at hc ih
    rw [List.dropWhile_cons] at hc
    split at hc
    · exact ih hc
    · rename_i h
      simp at hc
      subst hc
      simpa using h
theorem word_of (a r : Bs) (ha : a.all isAt = true) (hr : stop r) : word (a ++ r) = a ∧ past (a ++ r) = r := by
  unfold word past
  induction a with
  | nil =>
    cases r with
    | nil => simp
    | cons c r => have := hr c rfl; simp [this]
  | cons c a ih =>
    simp only [List.all_cons, Bool.and_eq_true] at ha
    have := ih ha.2
    simp [ha.1, this]

theorem atomR_all {a : Bs} (h : atomR a = true) : a.all isAt = true := by simp [atomR] at h; simpa using h.2
theorem atomR_ne {a : Bs} (h : atomR a = true) : a ≠ [] := by rintro rfl; simp [atomR] at h
theorem atomR_len {a : Bs} (h : atomR a = true) : 1 ≤ a.length ∧ a.length ≤ 8 := by simp [atomR] at h; omega
theorem atomR_head {a : Bs} (h : atomR a = true) (r : Bs) : ∃ c, (a ++ r).head? = some c ∧ isAt c = true := by
  cases a with
  | nil => simp [atomR] at h
  | cons c a => exact ⟨c, rfl, by have := atomR_all h; simp at this; exact this.1⟩

theorem rdArgs_sound {f : Bs → Option (Tm × Bs)} {P : Tm → Prop} (hf : ∀ l t r, f l = some (t, r) → l = t.tx ++ r ∧ P t) :
    ∀ k l ts r, rdArgs f k l = some (ts, r) → l = (ts.map Tm.tx).flatMap (32 :: ·) ++ r ∧ ∀ t ∈ ts, P t
  | 0, l, ts, r, h => by simp [rdArgs] at h; obtain ⟨rfl, rfl⟩ := h; simp
  | k + 1, l, ts, r, h => by
    cases l with
    | nil => simp [rdArgs] at h; obtain ⟨rfl, rfl⟩ := h; simp
    | cons c l' =>
      rw [rdArgs] at h
      by_cases hc : c = 32
      · rw [if_pos hc] at h
        cases hq : f l' with
        | none => simp [hq] at h
        | some q =>
          obtain ⟨t, r1⟩ := q
          simp only [hq] at h
          cases hz : rdArgs f k r1 with
          | none => simp [hz] at h
          | some z =>
            obtain ⟨ts', r2⟩ := z
            simp only [hz, Option.some.injEq, Prod.mk.injEq] at h
            obtain ⟨rfl, rfl⟩ := h
            obtain ⟨e1, p1⟩ := hf _ _ _ hq
            obtain ⟨e2, p2⟩ := rdArgs_sound hf k r1 ts' r2 hz
            refine ⟨by rw [hc, e1, e2]; simp, ?_⟩
            intro t' ht'
            rcases List.mem_cons.1 ht' with rfl | ht'
            · exact p1
            · exact p2 _ ht'
      · rw [if_neg hc] at h
        simp at h
        obtain ⟨rfl, rfl⟩ := h
        simp

theorem rd_sound : ∀ n l T r, rd n l = some (T, r) → l = T.tx ++ r ∧ (T.ok ∧ T.deep ≤ n) ∧ (T.isAtom = true → stop r)
  | 0, l, T, r, h => by simp [rd] at h
  | n + 1, l, T, r, h => by
    rw [rd] at h
    by_cases hh : l.head? = some 91
    · rw [if_pos hh] at h
      obtain ⟨l', rfl⟩ : ∃ l', l = 91 :: l' := by cases l <;> simp at hh; subst hh; exact ⟨_, rfl⟩
      simp only [List.tail_cons] at h
      cases hz : rdArgs (rd n) (past l').length (past l') with
      | none => simp [hz, closed] at h
      | some z =>
        obtain ⟨ts, r1⟩ := z
        cases r1 with
        | nil => simp [hz, closed] at h
        | cons c r1 =>
          rw [hz, closed] at h
          by_cases hc : c = 93
          · rw [if_pos hc] at h
            cases hb : build (word l') ts with
            | none => simp [hb] at h
            | some t =>
              simp only [hb, Option.map_some, Option.some.injEq, Prod.mk.injEq] at h
              obtain ⟨rfl, rfl⟩ := h
              obtain ⟨b1, b2, b3, b4⟩ := build_some hb
              obtain ⟨e1, p1⟩ := rdArgs_sound (P := fun t => t.ok ∧ t.deep ≤ n) (fun l t r h => ⟨(rd_sound n l t r h).1, (rd_sound n l t r h).2.1⟩) _ _ _ _ hz
              refine ⟨?_, ⟨?_, ?_⟩, fun h => by rw [b1] at h; cases h⟩
              · rw [tx_say t b1, b2, b3]
                have := word_past l'
                rw [e1, hc] at this
                unfold say
                generalize word l' = W at this
                rw [← this]
                simp
              · exact (ok_iff t b1).2 ⟨fun k hk => (p1 k (b3 ▸ hk)).1, b4⟩
              · rw [deep_kids t b1, b3]
                have : ∀ (ks : List Tm) m, m ≤ n → (∀ k ∈ ks, k.deep ≤ n) → ks.foldl (fun m k => max m k.deep) m ≤ n := by
                  intro ks
                  induction ks with
                  | nil => intro m hm _; simpa using hm
                  | cons a ks ih => intro m hm hk; exact ih _ (by have := hk a (by simp); show max m a.deep ≤ n; omega) (fun k hk' => hk k (by simp [hk']))
                have := this ts 0 (Nat.zero_le _) (fun k hk => (p1 k hk).2)
                omega
          · rw [if_neg hc] at h
            cases h
    · rw [if_neg hh] at h
      split at h
      · rename_i ha
        simp only [Option.some.injEq, Prod.mk.injEq] at h
        obtain ⟨rfl, rfl⟩ := h
        exact ⟨(word_past l).symm, ⟨ha, by simp [Tm.deep]⟩, fun _ => past_stop l⟩
      · cases h

theorem rdArgs_complete {f : Bs → Option (Tm × Bs)} : ∀ (ts : List Tm), (∀ t ∈ ts, ∀ r, stop r → f (t.tx ++ r) = some (t, r)) →
    ∀ k r, ((ts.map Tm.tx).flatMap (32 :: ·) ++ r).length ≤ k → (∀ c, r.head? = some c → c ≠ 32) → stop r → rdArgs f k ((ts.map Tm.tx).flatMap (32 :: ·) ++ r) = some (ts, r)
  | [], _, k, r, hk, h32, hr => by
    cases k with
    | zero => simp [rdArgs]
    | succ k =>
      cases r with
      | nil => simp [rdArgs]
      | cons c r => have := h32 c rfl; simp [rdArgs, this]
  | t :: ts, hf, k, r, hk, h32, hr => by
    cases k with
    | zero => simp at hk
    | succ k =>
      have ih := rdArgs_complete ts (fun t' h' => hf t' (by simp [h'])) k r (by simp at hk ⊢; omega) h32 hr
      have hs : stop ((ts.map Tm.tx).flatMap (32 :: ·) ++ r) := by
        cases ts with
        | nil => simpa using hr
        | cons t' ts => intro c hc; simp at hc; subst hc; decide
      have h1 := hf t (by simp) _ hs
      simp only [List.map_cons, List.flatMap_cons, List.cons_append, List.append_assoc]
      rw [rdArgs, if_pos rfl, h1]
      simp only [ih]

theorem op_all (T : Tm) : T.op.all isAt = true := by cases T <;> rfl

theorem rd_complete : ∀ n T r, T.ok → T.deep ≤ n → (T.isAtom = true → stop r) → rd n (T.tx ++ r) = some (T, r)
  | 0, T, r, h, hd, _ => by have := deep_pos T; omega
  | n + 1, T, r, h, hd, hr => by
    rw [rd]
    by_cases ha : T.isAtom = true
    · cases T with
      | atom a =>
        obtain ⟨c, hc, hc2⟩ := atomR_head (show atomR a = true from h) r
        obtain ⟨e1, e2⟩ := word_of a r (atomR_all h) (hr rfl)
        rw [if_neg (by simp only [Tm.tx]; rw [hc]; intro e; cases e; revert hc2; decide)]
        simp only [Tm.tx, e1, e2]
        rw [if_pos (show atomR a = true from h)]
      | _ => simp [Tm.isAtom] at ha
    · have ha' : T.isAtom = false := by simpa using ha
      rw [tx_say T ha']
      unfold say
      have hst : stop (((T.kids.map Tm.tx).flatMap (32 :: ·)) ++ 93 :: r) := by
        intro c hc
        cases hk : T.kids with
        | nil => rw [hk] at hc; simp at hc; subst hc; decide
        | cons k ks => rw [hk] at hc; simp at hc; subst hc; decide
      obtain ⟨e1, e2⟩ := word_of T.op _ (op_all T) hst
      have hl : (91 :: (T.op ++ ((T.kids.map Tm.tx).flatMap (32 :: ·) ++ [93])) ++ r).tail = T.op ++ (((T.kids.map Tm.tx).flatMap (32 :: ·)) ++ 93 :: r) := by simp
      rw [if_pos (by simp), hl, e1, e2]
      rw [rdArgs_complete T.kids (fun t ht r hr => rd_complete n t r (kid_ok h ht) (by have := kid_deep ht; omega) (fun _ => hr)) _ (93 :: r) (Nat.le_refl _) (by simp) (by intro c hc; simp at hc; subst hc; decide)]
      rw [closed, if_pos rfl, build_of T ha' ((ok_iff T ha').1 h).2]
      rfl

/-- the whole text is a term, of at most such depth. -/
def pz (n : Nat) (l : Bs) : Option Tm :=
  match rd n l with
  | some (T, []) => some T
  | _ => none

theorem pz_some {n : Nat} {l : Bs} {T : Tm} : pz n l = some T ↔ T.ok ∧ T.deep ≤ n ∧ T.tx = l := by
  constructor
  · intro h
    unfold pz at h
    cases hr : rd n l with
    | none => simp [hr] at h
    | some q =>
      obtain ⟨t, r⟩ := q
      cases r with
      | nil =>
        simp only [hr, Option.some.injEq] at h
        subst h
        obtain ⟨e, ⟨a, b⟩, _⟩ := rd_sound n l _ _ hr
        exact ⟨a, b, by simpa using e.symm⟩
      | cons c r => simp [hr] at h
  · rintro ⟨a, b, rfl⟩
    have := rd_complete n T [] a b (fun _ c hc => by cases hc)
    rw [List.append_nil] at this
    unfold pz
    rw [this]

theorem tx_inj {T U : Tm} (hT : T.ok) (hU : U.ok) (h : T.tx = U.tx) : T = U := by
  have a := (pz_some (n := max T.deep U.deep) (l := T.tx)).2 ⟨hT, by omega, rfl⟩
  have b := (pz_some (n := max T.deep U.deep) (l := T.tx)).2 ⟨hU, by omega, h.symm⟩
  rw [a] at b
  exact Option.some.inj b

theorem pz_atom {n : Nat} {l : Bs} (hn : 1 ≤ n) (h : atomR l = true) : pz n l = some (.atom l) := pz_some.2 ⟨h, by simpa [Tm.deep] using hn, rfl⟩

/-- the term of a text handed in: at most 3000 bytes, 24 deep. -/
def term (l : Bs) : Option Tm := if l.length ≤ 3000 then pz 24 l else none

theorem term_some {l : Bs} {T : Tm} : term l = some T ↔ l.length ≤ 3000 ∧ T.ok ∧ T.deep ≤ 24 ∧ T.tx = l := by
  unfold term
  split
  · rename_i h; rw [pz_some]; simp [h]
  · rename_i h; simp [h]
end Go.Proofs.YtdikjmhnjlalbaaGreat.tm

/- Small laws of my own: rows of bytes that a call makes itself; strings made of them; a bool or a number handed back. -/
namespace Go.Proofs.YtdikjmhnjlalbaaGreat.lib
open Go.RowKit
set_option linter.unusedVariables false

theorem ret_bool {a b : Bool} (h : a = b) : Ending.returned (.bool a) = .returned (.bool b) := by rw [h]
theorem ret_int {k : IntKind} {a b : Int} (h : a = b) : Ending.returned (.int k a) = .returned (.int k b) := by rw [h]
theorem ret_str {a b : ByteArray} (h : a = b) : Ending.returned (.string a) = .returned (.string b) := by rw [h]

theorem isEmpty_eq (s : ByteArray) : s.toList.isEmpty = decide (s.size < 1) := by
  rw [ByteArray.toList_eq]
  rcases s with ⟨⟨l⟩⟩
  cases l with
  | nil => rfl
  | cons a l => simp [ByteArray.size]

theorem getD_at (s : ByteArray) (k : Nat) (h : k < s.size) : s.data.toList.getD k 0 = s[k] := by
  have h' : k < s.data.toList.length := by simpa using h
  rw [List.getD_eq_getElem?_getD, List.getElem?_eq_getElem h']; rfl

/-- s[q:q+m], as an equation. -/
theorem run_cut (s : ByteArray) (q m : Nat) (h : q + m ≤ s.size) (w : World) :
    (Instr.slice 9 (.string s) (some (.int .i64 (q : Int))) (some (.int .i64 ((q : Int) + (m : Int)))) none).run Tryz.prog w = .ok (.string (s.extract q (q + m))) w := by
  have := run_slice_string (P := Tryz.prog) (w := w) 9 s .i64 .i64 (q : Int) ((q : Int) + (m : Int)) Tryz.underlying9 (by omega) (by omega) (by omega)
  rw [this, show ((q : Int) + (m : Int)).toNat = q + m from by omega, Int.toNat_natCast]

theorem infoE : (Tryz.prog.info? 5).map (fun i => (i.zero, i.size, i.bytes)) = some (some (.int .u8 0), 1, 1) := by kernel_rfl

/-- The slice value v holds the bytes l, in a row that the call itself made (from block B on). -/
def B8 (w : World) (B : Nat) (v : Value) (l : List UInt8) : Prop :=
  w.ownsRow B 5 1 v l.length (l.map fun b => Value.int .u8 b.toNat)

theorem B8.nil (w : World) (B : Nat) : B8 w B (.slice none 0 0) [] := World.ownsRow_nil _ _ _ _
theorem B8.alloc {w : World} {B : Nat} {v : Value} {l : List UInt8} (h : B8 w B v l) (o : Obj) : B8 (w.alloc o) B v l := World.ownsRow.alloc h o
theorem B8.drew {w : World} {B : Nat} {v : Value} {l : List UInt8} (h : B8 w B v l) : B8 w.drew B v l := h
/-- An empty slice literal: a new row of no cells. -/
theorem B8.empty (w : World) (B : Nat) (h : B ≤ w.heap.size) : B8 (w.alloc (.cells #[] 5)) B (.slice (some ⟨w.heap.size, 0, none⟩) 0 0) [] :=
  World.ownsRow_made (size := 1) w #[] 0 h (by decide) (by simp)

theorem below_cell {B : Nat} {w : World} : Below B w w := Below.refl _ _

section
variable {w : World} {ops : Array Oper} {rest : List Oper} {o : Oper} {a : Act} {Q : Exit → Act → World → Prop}

set_option maxRecDepth 100000 in
/-- append of a row of new bytes to a row of the call's own. -/
theorem wp_put (s x : Operand) (ad : Addr) (m c : Nat) (new : List UInt8) (B : Nat) (v : Value) (l : List UInt8) (hgd : o.guard = none)
    (ho : o.op = .call { callee := .builtin .append, args := #[s, x], argTypes := #[101, 101] })
    (hs : a.eval s = v) (hown : B8 w B v l)
    (hx : a.eval x = .slice (some ad) m c) (hm : new.length = m) (hnews : ∀ j u, (new.map fun b => Value.int .u8 b.toNat)[j]? = some u → w.cell? (ad.add j) = some u)
    (hl : l.length + m ≤ 140737488355328) (hB : B ≤ w.heap.size)
    (h : ∀ v' w', B8 w' B v' (l ++ new) → Below B w w' → wpList Tryz.prog ops Q rest (a.put o.dst v') w') : wpList Tryz.prog ops Q (o :: rest) a w := by
  obtain ⟨i0, hi, hz0, hz1, hz2⟩ := info_parts infoE
  refine wpList_append_own w hgd s x 101 ho B 5 i0 (.int .u8 0) 1 1 Tryz.underlying101 hi hz0 hz1 hz2 rfl (by decide) v l.length _ hs hown ad m c (new.map fun b => Value.int .u8 b.toNat) hx (by simpa using hm) hnews ?_ ?_ ?_ hB ?_
  · intro u hu
    obtain ⟨b, _, rfl⟩ := List.mem_map.1 hu
    rfl
  · unfold maxLen; omega
  · omega
  · intro v' w' h1 h2 _
    refine h v' w' ?_ ((Below.refl B w).grown h2 hB fun k hk => (World.ownsRow.lt hown k hk).1)
    unfold B8
    rw [List.map_append, List.length_append, hm]
    exact h1

set_option maxRecDepth 100000 in
/-- append of one new byte: the walk has laid it in a block of one cell, the newest one. -/
theorem wp_put1 (s x : Operand) (X : Int) (b : UInt8) (B : Nat) (v : Value) (l : List UInt8) (hgd : o.guard = none)
    (ho : o.op = .call { callee := .builtin .append, args := #[s, x], argTypes := #[101, 101] })
    (hs : a.eval s = v) (hown : B8 w B v l)
    (hx : a.eval x = .slice (some ⟨w.heap.size, 0, none⟩) 1 1) (hX : X = (b.toNat : Int))
    (hl : l.length + 1 ≤ 140737488355328) (hB : B ≤ w.heap.size)
    (h : ∀ v' w', B8 w' B v' (l ++ [b]) → Below B w w' → wpList Tryz.prog ops Q rest (a.put o.dst v') w') :
    wpList Tryz.prog ops Q (o :: rest) a (w.alloc (.cells #[.int .u8 X] 5)) := by
  refine wp_put s x ⟨w.heap.size, 0, none⟩ 1 1 [b] B v l hgd ho hs (hown.alloc _) hx rfl ?_ hl (by simp; omega) fun v' w' h1 h2 => h v' w' h1 (((Below.refl B w).alloc hB _).trans h2)
  intro j u hj
  match j, hj with
  | 0, hj =>
    simp at hj
    subst hj
    rw [hX]
    simp [Addr.add]
  | j + 1, hj => simp at hj

set_option maxRecDepth 100000 in
/-- string(b) of a row of the call's own. -/
theorem wp_str (x : Operand) (B : Nat) (v : Value) (l : List UInt8) (hgd : o.guard = none) (ho : o.op = .convert 101 9 x) (hs : a.eval x = v) (hown : B8 w B v l)
    (h : wpList Tryz.prog ops Q rest (a.put o.dst (.string ⟨l.toArray⟩)) w) : wpList Tryz.prog ops Q (o :: rest) a w := by
  refine wpList_plain hgd fun K hK => ?_
  have hrun : (convert 101 9 v).run Tryz.prog w = .ok (.string ⟨l.toArray⟩) w := by
    rcases hown.2 with ⟨rfl, hn⟩ | ⟨g, cap, cur, rfl, hb, hg, hc⟩
    · have : l = [] := List.eq_nil_of_length_eq_zero hn
      subst this
      exact run_convert_bytes_nil w 101 5 Tryz.underlying101 Tryz.underlying5 0 0 _ Tryz.underlying9
    · have := run_convert_bytes_arg (P := Tryz.prog) w 101 5 Tryz.underlying101 Tryz.underlying5 g 0 l.length cap (l.map fun b => (b.toNat : Int)) (by simp) (fun i hi => by
        have := World.ownsRow.cells hown (g := g) rfl i (.int .u8 (l[i].toNat)) (by simp [hi])
        have e : (⟨g, 0, none⟩ : Addr).add i = ⟨g, 0 + i, none⟩ := by rw [Addr.add_lit]
        rw [e] at this
        simpa [List.getD, hi] using this) 9 Tryz.underlying9
      rw [this]
      congr 3
      simp [strOfNums, Function.comp_def]
  unfold Oper.wp
  simp [execOp, ho, hs, hrun, Result.andThen]
  exact hK _ _ h

/-- The same as an equation, for a guarded operation. -/
theorem run_strAt {w : World} (g off n cap : Nat) (l : List UInt8) (hn : l.length = n) (hcell : ∀ i (h : i < l.length), w.cell? ⟨g, off + i, none⟩ = some (.int .u8 (l[i].toNat))) :
    (convert 101 9 (.slice (some ⟨g, off, none⟩) n cap)).run Tryz.prog w = .ok (.string ⟨l.toArray⟩) w := by
  have hrun := run_convert_bytes_arg (P := Tryz.prog) w 101 5 Tryz.underlying101 Tryz.underlying5 g off n cap (l.map fun b => (b.toNat : Int)) (by simpa using hn) (fun i hi => by
    have := hcell i (by omega)
    simpa [List.getD, show i < l.length by omega] using this) 9 Tryz.underlying9
  have e : strOfNums (l.map fun b => (b.toNat : Int)) = ⟨l.toArray⟩ := by simp [strOfNums, Function.comp_def]
  rw [e] at hrun
  exact hrun

set_option maxRecDepth 100000 in
/-- string(x[..]) of bytes that lie somewhere. -/
theorem wp_strAt (x : Operand) (g off n cap : Nat) (l : List UInt8) (hgd : o.guard = none) (ho : o.op = .convert 101 9 x) (hs : a.eval x = .slice (some ⟨g, off, none⟩) n cap)
    (hn : l.length = n) (hcell : ∀ i (h : i < l.length), w.cell? ⟨g, off + i, none⟩ = some (.int .u8 (l[i].toNat)))
    (h : wpList Tryz.prog ops Q rest (a.put o.dst (.string ⟨l.toArray⟩)) w) : wpList Tryz.prog ops Q (o :: rest) a w := by
  refine wpList_plain hgd fun K hK => ?_
  have hrun := run_convert_bytes_arg (P := Tryz.prog) w 101 5 Tryz.underlying101 Tryz.underlying5 g off n cap (l.map fun b => (b.toNat : Int)) (by simpa using hn) (fun i hi => by
    have := hcell i (by omega)
    simpa [List.getD, show i < l.length by omega] using this) 9 Tryz.underlying9
  have e : strOfNums (l.map fun b => (b.toNat : Int)) = ⟨l.toArray⟩ := by simp [strOfNums, Function.comp_def]
  rw [e] at hrun
  unfold Oper.wp
  simp [execOp, ho, hs, hrun, Result.andThen]
  exact hK _ _ h
end
end Go.Proofs.YtdikjmhnjlalbaaGreat.lib

/- Worlds that are as they were, but for draws, or for one block; the bytes of atoms. -/
namespace Go.Proofs.YtdikjmhnjlalbaaGreat.rdr
open Go.RowKit Go.Proofs.YtdikjmhnjlalbaaGreat.tm Go.Proofs.YtdikjmhnjlalbaaGreat.lib
set_option linter.unusedVariables false

/-- All is as it was, but for the draws. -/
structure Still (w w' : World) : Prop where
  os : w'.os = w.os
  tape : w'.tape = w.tape
  output : w'.output = w.output
  heap : w'.heap = w.heap

/-- All blocks that were there are as they were, but for block b. -/
structure Only (b : Nat) (w w' : World) : Prop where
  os : w'.os = w.os
  tape : w'.tape = w.tape
  output : w'.output = w.output
  size : w.heap.size ≤ w'.heap.size
  block : ∀ k, k < w.heap.size → k ≠ b → w'.heap[k]? = w.heap[k]?

theorem Still.refl (w : World) : Still w w := ⟨rfl, rfl, rfl, rfl⟩
theorem Still.trans {a b c : World} (h : Still a b) (k : Still b c) : Still a c := ⟨k.os.trans h.os, k.tape.trans h.tape, k.output.trans h.output, k.heap.trans h.heap⟩
theorem Still.only {w w' : World} (h : Still w w') (b : Nat) : Only b w w' := ⟨h.os, h.tape, h.output, by rw [h.heap]; exact Nat.le_refl _, fun k _ _ => by rw [h.heap]⟩
theorem Still.drewN (w : World) (n : Nat) : Still w (w.drewN n) := ⟨rfl, rfl, rfl, rfl⟩
theorem Still.below {w w' : World} (h : Still w w') (B : Nat) : Below B w w' := ⟨h.os, h.tape, h.output, by rw [h.heap]; exact Nat.le_refl _, fun k _ => by rw [h.heap]⟩

theorem Only.refl (b : Nat) (w : World) : Only b w w := (Still.refl w).only b
theorem Only.trans {b : Nat} {x y z : World} (h : Only b x y) (k : Only b y z) : Only b x z :=
  ⟨k.os.trans h.os, k.tape.trans h.tape, k.output.trans h.output, Nat.le_trans h.size k.size, fun i hi hb => (k.block i (Nat.lt_of_lt_of_le hi h.size) hb).trans (h.block i hi hb)⟩
theorem Only.of_below {b : Nat} {w w' : World} (h : Below w.heap.size w w') : Only b w w' := ⟨h.os, h.tape, h.output, h.size, fun k hk _ => h.block k hk⟩
theorem Only.setCell {b : Nat} {w : World} (o : Nat) (v : Value) : Only b w (w.setCell ⟨b, o, none⟩ v) :=
  ⟨rfl, rfl, rfl, by simp [World.setCell], fun k _ hb => Below.heap_setCell _ _ _ _ hb⟩
theorem Only.below {b B : Nat} {w w' : World} (h : Only b w w') (hb : B ≤ b) (hB : B ≤ w.heap.size) : Below B w w' :=
  ⟨h.os, h.tape, h.output, h.size, fun k hk => h.block k (by omega) (by omega)⟩

theorem let_eq (c : UInt8) : (97 ≤ c && c ≤ 122 : Bool) = (decide (97 ≤ (c.toNat : Int)) && decide ((c.toNat : Int) ≤ 122)) := by
  rw [Bool.eq_iff_iff]; simp [UInt8.le_iff_toNat_le]; omega
theorem dig_eq (c : UInt8) : (48 ≤ c && c ≤ 57 : Bool) = (decide (48 ≤ (c.toNat : Int)) && decide ((c.toNat : Int) ≤ 57)) := by
  rw [Bool.eq_iff_iff]; simp [UInt8.le_iff_toNat_le]; omega

theorem isLetter_calls (c : UInt8) (w : World) :
    Calls Tryz.prog 59 #[.int .u8 (c.toNat : Int)] w fun e w' => e = .returned (.bool (97 ≤ c && c ≤ 122)) ∧ w = w' := by
  go_enter Tryz.func59, Tryz.ntmps59
  go_wp2
  all_goals go_ret
  all_goals exact ⟨by rw [let_eq]; congr 2; simp [*] <;> omega, rfl⟩

theorem isDigit_calls (c : UInt8) (w : World) :
    Calls Tryz.prog 60 #[.int .u8 (c.toNat : Int)] w fun e w' => e = .returned (.bool (48 ≤ c && c ≤ 57)) ∧ w = w' := by
  go_enter Tryz.func60, Tryz.ntmps60
  go_wp2
  all_goals go_ret
  all_goals exact ⟨by rw [dig_eq]; congr 2; simp [*] <;> omega, rfl⟩

theorem isAtomByte_calls (c : UInt8) (w : World) :
    Calls Tryz.prog 45 #[.int .u8 (c.toNat : Int)] w fun e w' => e = .returned (.bool (isAt c)) ∧ w = w' := by
  cases h1 : (97 ≤ c && c ≤ 122 : Bool) <;> cases h2 : (48 ≤ c && c ≤ 57 : Bool)
  all_goals
    have HI : Hid (isAt c = _) := show isAt c = ((97 ≤ c && c ≤ 122 : Bool) || (48 ≤ c && c ≤ 57 : Bool)) from rfl
    rw [h1, h2] at HI
    have a1 := isLetter_calls c
    have a2 := isDigit_calls c
    rw [h1] at a1
    rw [h2] at a2
    clear h1 h2
    go_enter Tryz.func45, Tryz.ntmps45
    go_wp2_with (first | (go_at_call 59; refine (a1 _).mono ?_; rintro e w' ⟨rfl, rfl⟩) | (go_at_call 60; refine (a2 _).mono ?_; rintro e w' ⟨rfl, rfl⟩))
    go_ret
    exact ⟨ret_bool HI.out.symm, rfl⟩

end Go.Proofs.YtdikjmhnjlalbaaGreat.rdr

/- Contracts of the reader of terms: next, skip, readWord; AtomRight; refuse. -/
namespace Go.Proofs.YtdikjmhnjlalbaaGreat.rdr
open Go.RowKit Go.Proofs.YtdikjmhnjlalbaaGreat.tm Go.Proofs.YtdikjmhnjlalbaaGreat.lib
set_option linter.unusedVariables false

/-- The reader's block: the text, and the place. -/
def Rdr (w : World) (b : Nat) (s : ByteArray) (p : Nat) : Prop := w.heap[b]? = some (.cells #[.string s, .int .i64 (p : Int)] 128 (0, 0))

theorem Still.rdr {w w' : World} {b : Nat} {s : ByteArray} {p : Nat} (h : Still w w') (k : Rdr w b s p) : Rdr w' b s p := by unfold Rdr; rw [h.heap]; exact k

theorem two {w : World} {b : Nat} {v0 v1 : Value} {t : TypeId} (h : w.heap[b]? = some (.cells #[v0, v1] t (0, 0))) :
    w.cell? ⟨b, 0, none⟩ = some v0 ∧ w.cell? ⟨b, 1, none⟩ = some v1 ∧ w.frozen? ⟨b, 0, none⟩ = false ∧ w.frozen? ⟨b, 1, none⟩ = false ∧ b < w.heap.size := by
  have hb : b < w.heap.size := by
    rcases Nat.lt_or_ge b w.heap.size with h' | h'
    · exact h'
    · rw [Array.getElem?_eq_none h'] at h; cases h
  refine ⟨?_, ?_, ?_, ?_, hb⟩
  · rw [cell_of_row w b 0 _ t (0, 0) h]; rfl
  · rw [cell_of_row w b 1 _ t (0, 0) h]; rfl
  · simp [World.frozen?, h]
  · simp [World.frozen?, h]

/-- The byte that stands at a place; 0 at the end. -/
def nx (l : Bs) : UInt8 := l.head?.getD 0

theorem nx_lt (s : ByteArray) (p : Nat) (h : p < s.size) : nx (s.data.toList.drop p) = s[p] := by
  have h' : p < s.data.toList.length := by simpa using h
  unfold nx
  rw [List.head?_drop, List.getElem?_eq_getElem h']
  rfl
theorem nx_end (s : ByteArray) (p : Nat) (h : s.size ≤ p) : nx (s.data.toList.drop p) = 0 := by
  unfold nx
  rw [List.drop_of_length_le (by simpa using h)]
  rfl

abbrev fault (c : Int) : Ending := .panicked [{ v := .iface 124 (.agg #[.int .i64 c]), recovered := false }]

theorem ret_u8 {a b : UInt8} (h : a = b) : Ending.returned (.int .u8 (a.toNat : Int)) = .returned (.int .u8 (b.toNat : Int)) := by rw [h]

set_option maxRecDepth 100000 in
theorem next_calls (w : World) (b : Nat) (s : ByteArray) (p : Nat) (h : Rdr w b s p) (hp : p ≤ s.size) (hs : s.size ≤ 4000000000) :
    Calls Tryz.prog 104 #[.pointer (some ⟨b, 0, none⟩)] w fun e w' => e = .returned (.int .u8 ((nx (s.data.toList.drop p)).toNat : Int)) ∧ Still w w' := by
  obtain ⟨c0, c1, f0, f1, hb⟩ := two h
  clear h
  by_cases hlt : p < s.size
  · have HX := Lib.hid (nx_lt s p hlt)
    have d0 : decide ((s.size : Int) ≤ p) = false := by simp; omega
    go_enter Tryz.func104, Tryz.ntmps104
    go_wp2
    go_quiet (fail)
    go_wp2
    go_quiet (fail)
    go_wp2
    go_ret
    exact ⟨ret_u8 HX.out.symm, rfl, rfl, rfl, rfl⟩
  · have HX := Lib.hid (nx_end s p (by omega))
    have d0 : decide ((s.size : Int) ≤ p) = true := by simp; omega
    go_enter Tryz.func104, Tryz.ntmps104
    go_wp2
    go_quiet (fail)
    go_wp2
    go_ret
    exact ⟨ret_u8 (a := 0) HX.out.symm, rfl, rfl, rfl, rfl⟩

theorem refuse_calls (c : Int) (w : World) : Calls Tryz.prog 91 #[.int .i64 c] w fun e w' => e = fault c ∧ w = w' := by
  go_enter Tryz.func91, Tryz.ntmps91
  go_wp2
  exact ⟨rfl, rfl, rfl⟩

/-- What is known of the world behind a step of the reader. -/
theorem Rdr.only {w w' : World} {b : Nat} {s : ByteArray} {p : Nat} (k : Rdr w b s p) {b' : Nat} (h : Only b' w w') (hne : b ≠ b') : Rdr w' b s p := by
  unfold Rdr
  rw [h.block b (two k).2.2.2.2 hne]
  exact k

theorem Rdr.set {w : World} {b : Nat} {s : ByteArray} {p : Nat} (k : Rdr w b s p) (q : Nat) : Rdr (w.setCell ⟨b, 1, none⟩ (.int .i64 (q : Int))) b s q := by
  unfold Rdr at k ⊢
  simp only [World.setCell, Array.getElem?_modify, if_true, k]
  rfl

set_option maxRecDepth 100000 in
theorem skip_yes (w : World) (b : Nat) (s : ByteArray) (p : Nat) (c : UInt8) (h : Rdr w b s p) (hp : p < s.size) (hs : s.size ≤ 4000000000) (hc : nx (s.data.toList.drop p) = c) :
    Calls Tryz.prog 120 #[.pointer (some ⟨b, 0, none⟩), .int .u8 (c.toNat : Int)] w fun e w' => e = .returned (.tuple #[]) ∧ Only b w w' ∧ Rdr w' b s (p + 1) := by
  go_enter Tryz.func120, Tryz.ntmps120
  have H := Lib.hid h
  have HC := Lib.hid hc
  clear h hc
  go_wp2_with fail
  refine (next_calls _ _ _ _ H.out (by omega) hs).mono ?_
  rintro e w1 ⟨rfl, h1⟩
  have hr := h1.rdr H.out
  obtain ⟨c0, c1, f0, f1, hb⟩ := two hr
  rw [HC.out]
  have HR := Lib.hid hr
  have H1 := Lib.hid h1
  clear hr h1
  go_wp2_with fail
  go_end0
  exact ⟨rfl, (H1.out.only b).trans (Only.setCell _ _), HR.out.set (p + 1)⟩

set_option maxRecDepth 100000 in
theorem skip_no (w : World) (b : Nat) (s : ByteArray) (p : Nat) (c : UInt8) (h : Rdr w b s p) (hp : p ≤ s.size) (hs : s.size ≤ 4000000000) (hc : nx (s.data.toList.drop p) ≠ c) :
    Calls Tryz.prog 120 #[.pointer (some ⟨b, 0, none⟩), .int .u8 (c.toNat : Int)] w fun e w' => e = fault 1 ∧ Only b w w' := by
  have d0 : (((nx (s.data.toList.drop p)).toNat : Int) != (c.toNat : Int)) = true := by simp; intro e; exact hc (UInt8.toNat_inj.1 (by omega))
  go_enter Tryz.func120, Tryz.ntmps120
  have H := Lib.hid h
  clear h hc
  go_wp2_with fail
  refine (next_calls _ _ _ _ H.out (by omega) hs).mono ?_
  rintro e w1 ⟨rfl, h1⟩
  have H1 := Lib.hid h1
  clear h1
  go_wp2_with fail
  refine (refuse_calls _ _).mono ?_
  rintro e w2 ⟨rfl, rfl⟩
  exact ⟨rfl, rfl, H1.out.only b⟩

/-! ### readWord -/

def atOf (w : World) (b : Nat) : Nat := match w.cell? ⟨b, 1, none⟩ with | some (.int _ q) => q.toNat | _ => 0
theorem atOf_rdr {w : World} {b : Nat} {s : ByteArray} {p : Nat} (h : Rdr w b s p) : atOf w b = p := by
  unfold atOf
  rw [(two h).2.1]
  simp

theorem drop_lt (s : ByteArray) (p : Nat) (h : p < s.size) : s.data.toList.drop p = s[p] :: s.data.toList.drop (p + 1) := by
  rw [List.drop_eq_getElem_cons (by simpa using h)]; rfl

theorem size_lt {l : Bs} {s : ByteArray} {p : Nat} (h : s.data.toList.drop p = l) (hp : p ≤ s.size) : l.length = s.size - p := by
  rw [← h, List.length_drop]; rfl

theorem nx_isAt {s : ByteArray} {p : Nat} (h : isAt (nx (s.data.toList.drop p)) = true) : p < s.size := by
  rcases Nat.lt_or_ge p s.size with h' | h'
  · exact h'
  · rw [nx_end s p h'] at h; exact absurd h (by decide)

/-- One byte more of a word. -/
theorem word_step {s : ByteArray} {p : Nat} (h : isAt (nx (s.data.toList.drop p)) = true) : word (s.data.toList.drop p) = s[p]'(nx_isAt h) :: word (s.data.toList.drop (p + 1)) := by
  have hp := nx_isAt h
  rw [nx_lt s p hp] at h
  rw [drop_lt s p hp]
  unfold word
  rw [List.takeWhile_cons, if_pos h]

theorem word_end {s : ByteArray} {p : Nat} (h : isAt (nx (s.data.toList.drop p)) = false) : word (s.data.toList.drop p) = [] := by
  rcases Nat.lt_or_ge p s.size with h' | h'
  · rw [nx_lt s p h'] at h
    rw [drop_lt s p h']
    unfold word
    rw [List.takeWhile_cons, if_neg (by simp [h])]
  · rw [List.drop_of_length_le (by simpa using h')]; rfl

theorem word_le (l : Bs) : (word l).length ≤ l.length := List.Sublist.length_le (List.takeWhile_sublist _)

/-- The word, as it lies in the text. -/
theorem word_cut (s : ByteArray) (p : Nat) (hp : p ≤ s.size) : s.extract p (p + (word (s.data.toList.drop p)).length) = ⟨(word (s.data.toList.drop p)).toArray⟩ := by
  have h : (s.data.toList.drop p).take (word (s.data.toList.drop p)).length = word (s.data.toList.drop p) := by
    unfold word
    exact List.prefix_iff_eq_take.1 (List.takeWhile_prefix _) |>.symm
  apply ByteArray.ext
  apply Array.ext'
  rw [ByteArray.data_extract]
  simp only [Array.toList_extract]
  show List.extract s.data.toList p _ = _
  rw [List.extract_eq_take_drop]
  simpa using h

theorem past_drop (s : ByteArray) (p : Nat) : past (s.data.toList.drop p) = s.data.toList.drop (p + (word (s.data.toList.drop p)).length) := by
  have h := word_past (s.data.toList.drop p)
  have : (word (s.data.toList.drop p) ++ past (s.data.toList.drop p)).drop (word (s.data.toList.drop p)).length = past (s.data.toList.drop p) := List.drop_left' rfl
  rw [h, List.drop_drop] at this
  exact this.symm

set_option maxRecDepth 100000 in
theorem readWord_calls (w : World) (b : Nat) (s : ByteArray) (p : Nat) (h : Rdr w b s p) (hp : p ≤ s.size) (hs : s.size ≤ 4000000000) :
    Calls Tryz.prog 121 #[.pointer (some ⟨b, 0, none⟩)] w fun e w' =>
      e = .returned (.string ⟨(word (s.data.toList.drop p)).toArray⟩) ∧ Only b w w' ∧ Rdr w' b s (p + (word (s.data.toList.drop p)).length) := by
  obtain ⟨c0, c1, f0, f1, hb⟩ := two h
  have H := Lib.hid h
  clear h
  go_enter Tryz.func121, Tryz.ntmps121
  go_wp2
  clear c0 c1 f0 f1
  go_loopw [8, 9, 10, 11, 12, 13, 14, 15, 16, 17] (fun _ _ _ _ _ _ _ _ _ _ wr => ∃ k : Nat, p + k ≤ s.size ∧ Only b w wr ∧ Rdr wr b s (p + k) ∧ k + (word (s.data.toList.drop (p + k))).length = (word (s.data.toList.drop p)).length) (fun _ _ _ _ _ _ _ _ _ _ wr => s.size - atOf wr b)
  case atStart => exact ⟨0, by omega, Only.refl _ _, H.out, by simp⟩
  case round =>
    obtain ⟨k, hk, ho, hr, hl⟩ := hrel
    have HO := Lib.hid ho
    have HR := Lib.hid hr
    have HL := Lib.hid hl
    clear ho hr hl
    have hat := atOf_rdr HR.out
    have HAT := Lib.hid hat
    clear hat
    cases hx : isAt (nx (s.data.toList.drop (p + k)))
    · have HX := Lib.hid hx
      have a1 := isAtomByte_calls (nx (s.data.toList.drop (p + k)))
      rw [hx] at a1
      clear hx
      go_wp2_with (first | (go_at_call 104; refine (next_calls _ _ _ _ HR.out hk hs).mono ?_; rintro e w1 ⟨rfl, h1⟩) | (go_at_call 45; refine (a1 _).mono ?_; rintro e w2 ⟨rfl, rfl⟩))
      have hr1 := h1.rdr HR.out
      have HO1 := Lib.hid (HO.out.trans (h1.only b))
      obtain ⟨c0, c1, f0, f1, hb1⟩ := two hr1
      have HR1 := Lib.hid hr1
      clear h1 hr1
      have hcut := word_cut s p hp
      have hkk : k = (word (s.data.toList.drop p)).length := by have := HL.out; rw [word_end HX.out] at this; simpa using this
      rw [← hkk] at hcut
      have HC := Lib.hid hcut
      have HK := Lib.hid hkk
      have hcut2 := fun w => run_cut s p k (by omega) w
      rw [HC.out] at hcut2
      clear hcut hkk
      have e1 : (((p + k : Nat) : Int)) = (p : Int) + (k : Int) := by omega
      rw [e1] at c1
      clear e1
      go_wp2
      go_quiet (fail)
      go_wp2
      go_ret
      exact ⟨rfl, HO1.out.trans ((Still.drewN _ _).only b), by rw [← HK.out]; exact HR1.out⟩
    · have HX := Lib.hid hx
      have a1 := isAtomByte_calls (nx (s.data.toList.drop (p + k)))
      rw [hx] at a1
      clear hx
      have hlt := nx_isAt HX.out
      go_wp2_with fail
      refine (next_calls _ _ _ _ HR.out hk hs).mono ?_
      rintro e w1 ⟨rfl, h1⟩
      have hr1 := h1.rdr HR.out
      have HO1 := Lib.hid (HO.out.trans (h1.only b))
      obtain ⟨c0, c1, f0, f1, hb1⟩ := two hr1
      have HR1 := Lib.hid hr1
      clear h1 hr1
      have e1 : (((p + k : Nat) : Int)) = (p : Int) + (k : Int) := by omega
      rw [e1] at c1
      clear e1
      go_wp2_with (go_at_call 45; refine (a1 _).mono ?_; rintro e w2 ⟨rfl, rfl⟩)
      go_roundw
      case rel =>
        refine ⟨k + 1, by omega, HO1.out.trans (Only.setCell _ _), ?_, ?_⟩
        · have := HR1.out.set (p + (k + 1))
          simpa [Int.add_assoc] using this
        · have := HL.out
          rw [word_step HX.out] at this
          simp only [List.length_cons] at this
          rw [show p + (k + 1) = p + k + 1 from rfl]
          omega
      case measure =>
        have e2 := atOf_rdr (HR1.out.set (p + (k + 1)))
        rw [show (((p + (k + 1) : Nat)) : Int) = (p : Int) + (k : Int) + 1 by omega] at e2
        rw [HAT.out, e2]
        omega
end Go.Proofs.YtdikjmhnjlalbaaGreat.rdr

/- A text as a value. -/
namespace Go.Proofs.YtdikjmhnjlalbaaGreat.bld
open Go.Proofs.YtdikjmhnjlalbaaGreat.tm
abbrev str (l : Bs) : Value := .string ⟨l.toArray⟩
end Go.Proofs.YtdikjmhnjlalbaaGreat.bld
