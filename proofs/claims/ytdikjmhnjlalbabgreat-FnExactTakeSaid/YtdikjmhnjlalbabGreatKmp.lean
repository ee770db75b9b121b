/- Known terms as plain data: what is built from what is there; what is taken: the least closed set; how the program takes, and how the model does. Plain mathematics. -/
import Derived.Test.YtdikjmhnjlalbabGreatAto
namespace Go.Proofs.YtdikjmhnjlalbabGreat.kmp
open Go Go.Proofs.YtdikjmhnjlalbabGreat.tm Go.Proofs.YtdikjmhnjlalbabGreat.ato
set_option linter.unusedVariables false

/-- Is it built from what is there? -/
def bld (S : Bs → Bool) : Tm → Bool
  | .atom a => S a
  | .pub a => S (Tm.tx (.pub a)) || S a
  | .dh a b => S (Tm.tx (.dh a b)) || ((S a && (S (Tm.tx (.pub b)) || S b)) || (S b && (S (Tm.tx (.pub a)) || S a)))
  | .pair l r => S (Tm.tx (.pair l r)) || (bld S l && bld S r)
  | .hash x => S (Tm.tx (.hash x)) || bld S x
  | .mac k x => S (Tm.tx (.mac k x)) || (bld S k && bld S x)
  | .shut k x => S (Tm.tx (.shut k x)) || (bld S k && bld S x)

theorem bld_here {S : Bs → Bool} {T : Tm} (h : S T.tx = true) : bld S T = true := by
  cases T <;> simp only [bld, Tm.tx] at h ⊢ <;> simp [h]

theorem bld_mono {S S' : Bs → Bool} (h : ∀ x, S x = true → S' x = true) : ∀ T, bld S T = true → bld S' T = true
  | .atom a => h a
  | .pub a => by simp only [bld, Bool.or_eq_true]; exact Or.imp (h _) (h _)
  | .dh a b => by
    simp only [bld, Bool.or_eq_true, Bool.and_eq_true]
    rintro (h1 | ⟨h1, h2⟩ | ⟨h1, h2⟩)
    · exact .inl (h _ h1)
    · exact .inr (.inl ⟨h _ h1, h2.imp (h _) (h _)⟩)
    · exact .inr (.inr ⟨h _ h1, h2.imp (h _) (h _)⟩)
  | .pair l r => by
    simp only [bld, Bool.or_eq_true, Bool.and_eq_true]
    exact Or.imp (h _) (And.imp (bld_mono h l) (bld_mono h r))
  | .hash x => by
    simp only [bld, Bool.or_eq_true]
    exact Or.imp (h _) (bld_mono h x)
  | .mac k x => by
    simp only [bld, Bool.or_eq_true, Bool.and_eq_true]
    exact Or.imp (h _) (And.imp (bld_mono h k) (bld_mono h x))
  | .shut k x => by
    simp only [bld, Bool.or_eq_true, Bool.and_eq_true]
    exact Or.imp (h _) (And.imp (bld_mono h k) (bld_mono h x))

theorem bld_ext {S S' : Bs → Bool} (h : ∀ x, S x = S' x) (T : Tm) : bld S T = bld S' T := by
  rw [show S = S' from funext h]

/-- .. of one that is no atom, and no dh: all its kids are. -/
theorem bld_node (S : Bs → Bool) (T : Tm) (ha : T.isAtom = false) (hd : T.op ≠ oDh) : bld S T = (S T.tx || T.kids.all (bld S)) := by
  cases T <;> first | (simp [Tm.isAtom] at ha; done) | (simp [Tm.op] at hd; done) | simp [bld, Tm.kids]

def inn (L : List Bs) (x : Bs) : Bool := decide (x ∈ L)
theorem inn_iff {L : List Bs} {x : Bs} : inn L x = true ↔ x ∈ L := by simp [inn]
theorem inn_no {L : List Bs} {x : Bs} : inn L x = false ↔ ¬ x ∈ L := by simp [inn]

def opens (S : Bs → Bool) : Tm → Prop
  | .pair l r => S l.tx = true ∧ S r.tx = true
  | .shut k x => bld S k = true → S x.tx = true
  | _ => True

def Closed (S : Bs → Bool) : Prop := ∀ T : Tm, T.ok → S T.tx = true → opens S T

structure Least (l R : List Bs) : Prop where
  has : ∀ x ∈ l, x ∈ R
  closed : Closed (inn R)
  min : ∀ X : Bs → Bool, (∀ x ∈ l, X x = true) → Closed X → ∀ x ∈ R, X x = true

theorem least_ext {l R R' : List Bs} (h : Least l R) (h' : Least l R') (x : Bs) : x ∈ R ↔ x ∈ R' :=
  ⟨fun hx => inn_iff.1 (h.min (inn R') (fun y hy => inn_iff.2 (h'.has y hy)) h'.closed x hx), fun hx => inn_iff.1 (h'.min (inn R) (fun y hy => inn_iff.2 (h.has y hy)) h.closed x hx)⟩

/-! ### all that is taken is right -/
theorem kid_tx {T k : Tm} (h : k ∈ T.kids) : k.tx.length ≤ T.tx.length := by
  cases T <;> simp [Tm.kids] at h <;> (try rcases h with rfl | rfl) <;> (try subst h) <;> simp [Tm.tx, say] <;> omega

theorem term_kid {T k : Tm} (h : term T.tx = some T) (hk : k ∈ T.kids) : term k.tx = some k := by
  obtain ⟨h1, h2, h3, _⟩ := term_some.1 h
  have := kid_tx hk
  have := kid_deep hk
  exact term_some.2 ⟨by omega, kid_ok h2 hk, by omega, rfl⟩

theorem term_self {x : Bs} {T : Tm} (h : term x = some T) : term T.tx = some T := by
  rw [(term_some.1 h).2.2.2]; exact h

theorem closed_right : Closed fun x => (term x).isSome := by
  intro T hT h
  obtain ⟨U, hU⟩ := Option.isSome_iff_exists.1 h
  obtain ⟨_, hok, _, e⟩ := term_some.1 hU
  obtain rfl := tx_inj hok hT e
  cases U with
  | pair l r => exact ⟨by show (term l.tx).isSome = true; rw [term_kid hU (by simp [Tm.kids])]; rfl, by show (term r.tx).isSome = true; rw [term_kid hU (by simp [Tm.kids])]; rfl⟩
  | shut k x => exact fun _ => by show (term x.tx).isSome = true; rw [term_kid hU (by simp [Tm.kids])]; rfl
  | _ => trivial

/-! ### how many there can be -/
def subs : Tm → List Bs
  | .atom a => [a]
  | .pair l r => Tm.tx (.pair l r) :: (subs l ++ subs r)
  | .hash x => [Tm.tx (.hash x)]
  | .mac k x => [Tm.tx (.mac k x)]
  | .shut k x => Tm.tx (.shut k x) :: subs x
  | .pub a => [Tm.tx (.pub a)]
  | .dh a b => [Tm.tx (.dh a b)]

theorem subs_self (T : Tm) : T.tx ∈ subs T := by cases T <;> simp [subs, Tm.tx]

theorem tx_pos {T : Tm} (h : T.ok) : 1 ≤ T.tx.length := by
  cases T <;> simp [Tm.tx, say]
  have := (atomR_len h).1
  omega

theorem subs_len : ∀ T : Tm, T.ok → 3 * (subs T).length ≤ T.tx.length + 2
  | .atom a, h => by have := tx_pos h; simp [subs, Tm.tx] at this ⊢; omega
  | .pair l r, h => by
    have h1 := subs_len l h.1
    have h2 := subs_len r h.2
    simp [subs, Tm.tx, say, oPair]
    omega
  | .hash x, h => by simp [subs, Tm.tx, say]
  | .mac k x, h => by simp [subs, Tm.tx, say]
  | .shut k x, h => by
    have h2 := subs_len x h.2
    simp [subs, Tm.tx, say, oShut]
    omega
  | .pub a, h => by simp [subs, Tm.tx, say]
  | .dh a b, h => by simp [subs, Tm.tx, say]

theorem subs_open : ∀ T : Tm, T.ok → ∀ U : Tm, U.ok → U.tx ∈ subs T → match U with
    | .pair l r => l.tx ∈ subs T ∧ r.tx ∈ subs T
    | .shut k x => x.tx ∈ subs T
    | _ => True := by
  intro T
  induction T with
  | atom a =>
    intro hT U hU h
    simp only [subs, List.mem_singleton] at h
    obtain rfl := tx_inj hU (U := .atom a) hT h
    trivial
  | hash x =>
    intro hT U hU h
    simp only [subs, List.mem_singleton] at h
    obtain rfl := tx_inj hU hT h
    trivial
  | mac k x =>
    intro hT U hU h
    simp only [subs, List.mem_singleton] at h
    obtain rfl := tx_inj hU hT h
    trivial
  | pub a =>
    intro hT U hU h
    simp only [subs, List.mem_singleton] at h
    obtain rfl := tx_inj hU hT h
    trivial
  | dh a b =>
    intro hT U hU h
    simp only [subs, List.mem_singleton] at h
    obtain rfl := tx_inj hU hT h
    trivial
  | pair l r ihl ihr =>
    intro hT U hU h
    simp only [subs, List.mem_cons, List.mem_append] at h
    rcases h with h | h | h
    · obtain rfl := tx_inj hU hT h
      exact ⟨by simp [subs, subs_self], by simp [subs, subs_self]⟩
    · have := ihl hT.1 U hU h
      cases U with
      | pair a b => exact ⟨by simp [subs, this.1], by simp [subs, this.2]⟩
      | shut a b => show b.tx ∈ _; have : b.tx ∈ subs l := this; simp [subs, this]
      | _ => trivial
    · have := ihr hT.2 U hU h
      cases U with
      | pair a b => exact ⟨by simp [subs, this.1], by simp [subs, this.2]⟩
      | shut a b => show b.tx ∈ _; have : b.tx ∈ subs r := this; simp [subs, this]
      | _ => trivial
  | shut k x ihk ihx =>
    intro hT U hU h
    simp only [subs, List.mem_cons] at h
    rcases h with h | h
    · obtain rfl := tx_inj hU hT h
      show x.tx ∈ _
      simp [subs, subs_self]
    · have := ihx hT.2 U hU h
      cases U with
      | pair a b => exact ⟨by simp [subs, this.1], by simp [subs, this.2]⟩
      | shut a b => show b.tx ∈ _; have : b.tx ∈ subs x := this; simp [subs, this]
      | _ => trivial

theorem closed_subs (Ts : List Tm) (h : ∀ T ∈ Ts, T.ok) : Closed (inn (Ts.flatMap subs)) := by
  intro U hU hx
  obtain ⟨T, hT, hx⟩ := List.mem_flatMap.1 (inn_iff.1 hx)
  have := subs_open T (h T hT) U hU hx
  cases U with
  | pair a b => exact ⟨inn_iff.2 (List.mem_flatMap.2 ⟨T, hT, this.1⟩), inn_iff.2 (List.mem_flatMap.2 ⟨T, hT, this.2⟩)⟩
  | shut a b => exact fun _ => inn_iff.2 (List.mem_flatMap.2 ⟨T, hT, this⟩)
  | _ => trivial

theorem subs_all : ∀ (Ts : List Tm), (∀ T ∈ Ts, T.ok ∧ T.tx.length ≤ 3000) → (Ts.flatMap subs).length ≤ 1001 * Ts.length
  | [], _ => by simp
  | T :: Ts, h => by
    have h1 := subs_len T (h T (by simp)).1
    have h2 := (h T (by simp)).2
    have h3 := subs_all Ts fun U hU => h U (by simp [hU])
    simp [List.flatMap_cons]
    simp at h3
    omega

theorem nodup_le {L U : List Bs} (hn : L.Nodup) (h : ∀ x ∈ L, x ∈ U) : L.length ≤ U.length := by
  induction L generalizing U with
  | nil => simp
  | cons a L ih =>
    have hn := List.nodup_cons.1 hn
    have ha : a ∈ U := h a (by simp)
    have := ih (U := U.erase a) hn.2 fun x hx => by
      have hne : x ≠ a := fun e => hn.1 (e ▸ hx)
      exact (List.mem_erase_of_ne hne).2 (h x (by simp [hx]))
    have e := List.length_erase_of_mem ha
    have : 1 ≤ U.length := List.length_pos_of_mem ha
    simp
    omega

/-! ### how the program takes -/
abbrev St := List Bs × List Tm

def tk : Tm → St → St
  | .pair l r, s => if Tm.tx (.pair l r) ∈ s.1 then s else tk r (tk l (s.1 ++ [Tm.tx (.pair l r)], s.2))
  | .shut k x, s => if Tm.tx (.shut k x) ∈ s.1 then s else (s.1 ++ [Tm.tx (.shut k x)], s.2 ++ [.shut k x])
  | T, s => if T.tx ∈ s.1 then s else (s.1 ++ [T.tx], s.2)

structure Tk (T : Tm) (s s' : St) (D : List Bs) (E : List Tm) : Prop where
  l : s'.1 = s.1 ++ D
  c : s'.2 = s.2 ++ E
  here : T.tx ∈ s'.1
  nd : s.1.Nodup → s'.1.Nodup
  acc : ∀ U : Tm, U.ok → U.tx ∈ D → match U with
    | .pair l r => l.tx ∈ s'.1 ∧ r.tx ∈ s'.1
    | .shut k x => U ∈ E
    | _ => True
  mine : ∀ U ∈ E, U.ok ∧ U.tx ∈ D ∧ ∃ k x, U = .shut k x
  min : ∀ X : Bs → Bool, Closed X → X T.tx = true → ∀ x ∈ D, X x = true

theorem Tk.old {T : Tm} {s : St} (h : T.tx ∈ s.1) : Tk T s s [] [] :=
  ⟨by simp, by simp, h, id, by simp, by simp, by simp⟩

theorem nodup_snoc {L : List Bs} {x : Bs} (h : L.Nodup) (hx : ¬ x ∈ L) : (L ++ [x]).Nodup := by
  rw [List.nodup_append]
  exact ⟨h, by simp, fun a ha b hb e => by simp at hb; subst hb; subst e; exact hx ha⟩

theorem Tk.leaf {T : Tm} (hT : T.ok) {s : St} (h : ¬ T.tx ∈ s.1) (hp : ∀ l r, T ≠ .pair l r) (hs : ∀ k x, T ≠ .shut k x) : Tk T s (s.1 ++ [T.tx], s.2) [T.tx] [] where
  l := rfl
  c := by simp
  here := by simp
  nd hn := nodup_snoc hn h
  acc U hU hx := by
    simp only [List.mem_singleton] at hx
    obtain rfl := tx_inj hU hT hx
    cases U with
    | pair l r => exact absurd rfl (hp l r)
    | shut k x => exact absurd rfl (hs k x)
    | _ => trivial
  mine := by simp
  min X _ hx x h := by simp at h; subst h; exact hx

theorem tk_spec : ∀ (T : Tm), T.ok → ∀ s : St, ∃ D E, Tk T s (tk T s) D E := by
  intro T
  induction T with
  | pair l r ihl ihr =>
    intro hT s
    rw [tk]
    split
    · rename_i h; exact ⟨[], [], Tk.old h⟩
    · rename_i h
      obtain ⟨D1, E1, t1⟩ := ihl hT.1 (s.1 ++ [Tm.tx (.pair l r)], s.2)
      obtain ⟨D2, E2, t2⟩ := ihr hT.2 (tk l (s.1 ++ [Tm.tx (.pair l r)], s.2))
      have sub1 : ∀ x, x ∈ (tk l (s.1 ++ [Tm.tx (.pair l r)], s.2)).1 → x ∈ (tk r (tk l (s.1 ++ [Tm.tx (.pair l r)], s.2))).1 := fun x hx => by rw [t2.l]; exact List.mem_append_left _ hx
      refine ⟨Tm.tx (.pair l r) :: (D1 ++ D2), E1 ++ E2, ?_, ?_, ?_, ?_, ?_, ?_, ?_⟩
      · rw [t2.l, t1.l]; simp
      · rw [t2.c, t1.c]; simp
      · exact sub1 _ (by rw [t1.l]; simp)
      · exact fun hn => t2.nd (t1.nd (nodup_snoc hn h))
      · intro U hU hx
        simp only [List.mem_cons, List.mem_append] at hx
        rcases hx with hx | hx | hx
        · obtain rfl := tx_inj hU hT hx
          exact ⟨sub1 _ t1.here, t2.here⟩
        · have := t1.acc U hU hx
          cases U with
          | pair a b => exact ⟨sub1 _ this.1, sub1 _ this.2⟩
          | shut a b => show _ ∈ E1 ++ E2; exact List.mem_append_left _ this
          | _ => trivial
        · have := t2.acc U hU hx
          cases U with
          | pair a b => exact this
          | shut a b => show _ ∈ E1 ++ E2; exact List.mem_append_right _ this
          | _ => trivial
      · intro U hU
        rcases List.mem_append.1 hU with hU | hU
        · obtain ⟨a, b, c⟩ := t1.mine U hU
          exact ⟨a, by simp [b], c⟩
        · obtain ⟨a, b, c⟩ := t2.mine U hU
          exact ⟨a, by simp [b], c⟩
      · intro X hX hx x h
        have ho : opens X (.pair l r) := hX _ hT hx
        simp only [List.mem_cons, List.mem_append] at h
        rcases h with rfl | h | h
        · exact hx
        · exact t1.min X hX ho.1 x h
        · exact t2.min X hX ho.2 x h
  | shut k x ihk ihx =>
    intro hT s
    rw [tk]
    split
    · rename_i h; exact ⟨[], [], Tk.old h⟩
    · rename_i h
      refine ⟨[Tm.tx (.shut k x)], [.shut k x], rfl, rfl, by simp, fun hn => nodup_snoc hn h, ?_, ?_, ?_⟩
      · intro U hU hx
        simp only [List.mem_singleton] at hx
        obtain rfl := tx_inj hU hT hx
        show _ ∈ [_]
        simp
      · intro U hU
        simp only [List.mem_singleton] at hU
        subst hU
        exact ⟨hT, by simp, _, _, rfl⟩
      · intro X _ hx x h
        simp only [List.mem_singleton] at h
        subst h
        exact hx
  | atom a =>
    intro hT s
    unfold tk
    split
    · rename_i h; exact ⟨[], [], Tk.old h⟩
    · rename_i h; exact ⟨_, _, Tk.leaf hT h (by simp) (by simp)⟩
  | hash x =>
    intro hT s
    unfold tk
    split
    · rename_i h; exact ⟨[], [], Tk.old h⟩
    · rename_i h; exact ⟨_, _, Tk.leaf hT h (by simp) (by simp)⟩
  | mac k x =>
    intro hT s
    unfold tk
    split
    · rename_i h; exact ⟨[], [], Tk.old h⟩
    · rename_i h; exact ⟨_, _, Tk.leaf hT h (by simp) (by simp)⟩
  | pub a =>
    intro hT s
    unfold tk
    split
    · rename_i h; exact ⟨[], [], Tk.old h⟩
    · rename_i h; exact ⟨_, _, Tk.leaf hT h (by simp) (by simp)⟩
  | dh a b =>
    intro hT s
    unfold tk
    split
    · rename_i h; exact ⟨[], [], Tk.old h⟩
    · rename_i h; exact ⟨_, _, Tk.leaf hT h (by simp) (by simp)⟩

/-- What holds while it is taken: l: the known ones; h: those of them that are gone through; tr: what is shut, and still to be tried. -/
structure Inv (l h : List Bs) (tr : List Tm) (s : St) : Prop where
  nd : s.1.Nodup
  has : ∀ x ∈ h, x ∈ s.1
  acc : ∀ U : Tm, U.ok → U.tx ∈ s.1 → match U with
    | .pair a b => a.tx ∈ s.1 ∧ b.tx ∈ s.1
    | .shut k x => (U ∈ s.2 ∨ U ∈ tr) ∨ x.tx ∈ s.1
    | _ => True
  mine : ∀ U, U ∈ s.2 ∨ U ∈ tr → U.ok ∧ U.tx ∈ s.1 ∧ ∃ k x, U = .shut k x
  min : ∀ X : Bs → Bool, (∀ x ∈ l, X x = true) → Closed X → ∀ x ∈ s.1, X x = true

theorem Inv.start (l : List Bs) : Inv l [] [] ([], []) :=
  ⟨by simp, by simp, by simp, by simp, by simp⟩

/-- One is taken, of which each closed set has it. -/
theorem Inv.take {l h : List Bs} {tr tr' : List Tm} {s : St} (i : Inv l h tr s) {T : Tm} (hT : T.ok) (hX : ∀ X : Bs → Bool, (∀ x ∈ l, X x = true) → Closed X → X T.tx = true)
    (htr : ∀ U, U ∈ tr' → U ∈ tr) (ho : ∀ U : Tm, U ∈ tr → U ∈ tr' ∨ ∃ k, U = .shut k T) : Inv l (h ++ [T.tx]) tr' (tk T s) := by
  obtain ⟨D, E, t⟩ := tk_spec T hT s
  have sub : ∀ x, x ∈ s.1 → x ∈ (tk T s).1 := fun x hx => by rw [t.l]; exact List.mem_append_left _ hx
  refine ⟨t.nd i.nd, ?_, ?_, ?_, ?_⟩
  · intro x hx
    rcases List.mem_append.1 hx with hx | hx
    · exact sub _ (i.has x hx)
    · simp only [List.mem_singleton] at hx; subst hx; exact t.here
  · intro U hU hx
    rw [t.l] at hx
    rcases List.mem_append.1 hx with hx | hx
    · have := i.acc U hU hx
      cases U with
      | pair a b => exact ⟨sub _ this.1, sub _ this.2⟩
      | shut k x =>
        rcases this with (h1 | h1) | h1
        · exact .inl (.inl (by rw [t.c]; exact List.mem_append_left _ h1))
        · rcases ho _ h1 with h2 | ⟨k', h2⟩
          · exact .inl (.inr h2)
          · cases h2; exact .inr t.here
        · exact .inr (sub _ h1)
      | _ => trivial
    · have := t.acc U hU hx
      cases U with
      | pair a b => exact this
      | shut k x => exact .inl (.inl (by rw [t.c]; exact List.mem_append_right _ this))
      | _ => trivial
  · intro U hU
    have key : U ∈ s.2 ∨ U ∈ tr ∨ U ∈ E := by
      rcases hU with hU | hU
      · rw [t.c] at hU
        rcases List.mem_append.1 hU with hU | hU
        · exact .inl hU
        · exact .inr (.inr hU)
      · exact .inr (.inl (htr U hU))
    rcases key with h1 | h1 | h1
    · obtain ⟨a, b, c⟩ := i.mine U (.inl h1); exact ⟨a, sub _ b, c⟩
    · obtain ⟨a, b, c⟩ := i.mine U (.inr h1); exact ⟨a, sub _ b, c⟩
    · obtain ⟨a, b, c⟩ := t.mine U h1; exact ⟨a, by rw [t.l]; exact List.mem_append_right _ b, c⟩
  · intro X h1 h2 x hx
    rw [t.l] at hx
    rcases List.mem_append.1 hx with hx | hx
    · exact i.min X h1 h2 x hx
    · exact t.min X h2 (hX X h1 h2) x hx

theorem Inv.forget {l h h' : List Bs} {tr : List Tm} {s : St} (i : Inv l h tr s) (hh : ∀ x ∈ h', x ∈ h) : Inv l h' tr s :=
  ⟨i.nd, fun x hx => i.has x (hh x hx), i.acc, i.mine, i.min⟩

/-- What is shut is opened, its key being built. -/
theorem Inv.opened {l h : List Bs} {k x : Tm} {tr : List Tm} {s : St} (i : Inv l h (.shut k x :: tr) s) (hb : bld (inn s.1) k = true) : Inv l h tr (tk x s) := by
  obtain ⟨a, b, _⟩ := i.mine (.shut k x) (.inr (by simp))
  refine (i.take a.2 (fun X h1 h2 => ?_) (fun U hU => by simp [hU]) fun U hU => ?_).forget fun x hx => by simp [hx]
  · have h3 : X (Tm.tx (.shut k x)) = true := i.min X h1 h2 _ b
    have h4 : opens X (.shut k x) := h2 _ a h3
    exact h4 (bld_mono (fun y hy => i.min X h1 h2 y (inn_iff.1 hy)) k hb)
  · rcases List.mem_cons.1 hU with rfl | hU
    · exact .inr ⟨k, rfl⟩
    · exact .inl hU

theorem Inv.kept {l h : List Bs} {U : Tm} {tr : List Tm} {s : St} (i : Inv l h (U :: tr) s) : Inv l h tr (s.1, s.2 ++ [U]) := by
  refine ⟨i.nd, i.has, fun V hV hx => ?_, fun V hV => i.mine V ?_, i.min⟩
  · have := i.acc V hV hx
    cases V with
    | pair a b => exact this
    | shut k x =>
      rcases this with (h1 | h1) | h1
      · exact .inl (.inl (List.mem_append_left _ h1))
      · rcases List.mem_cons.1 h1 with h1 | h1
        · exact .inl (.inl (by rw [h1]; simp))
        · exact .inl (.inr h1)
      · exact .inr h1
    | _ => trivial
  · rcases hV with hV | hV
    · rcases List.mem_append.1 hV with hV | hV
      · exact .inl hV
      · simp only [List.mem_singleton] at hV; exact .inr (by simp [hV])
    · exact .inr (by simp [hV])

theorem Inv.again {l h : List Bs} {s : St} (i : Inv l h [] s) : Inv l h s.2 (s.1, []) := by
  refine ⟨i.nd, i.has, fun V hV hx => ?_, fun V hV => i.mine V ?_, i.min⟩
  · have := i.acc V hV hx
    cases V with
    | pair a b => exact this
    | shut k x =>
      rcases this with (h1 | h1) | h1
      · exact .inl (.inr h1)
      · cases h1
      · exact .inr h1
    | _ => trivial
  · rcases hV with hV | hV
    · cases hV
    · exact .inl hV

/-- If nothing came since there were n, what is still shut is not opened by what is there. -/
def Chk (n : Nat) (s : St) : Prop := n ≤ s.1.length ∧ (s.1.length = n → ∀ k x : Tm, .shut k x ∈ s.2 → bld (inn s.1) k = false)

theorem Chk.start (L : List Bs) : Chk L.length (L, []) := ⟨Nat.le_refl _, fun _ k x h => by cases h⟩

theorem Chk.opened {n : Nat} {s : St} (c : Chk n s) {x : Tm} (hx : x.ok) : Chk n (tk x s) := by
  obtain ⟨D, E, t⟩ := tk_spec x hx s
  have hl : (tk x s).1.length = s.1.length + D.length := by rw [t.l]; simp
  refine ⟨by have := c.1; omega, fun e k y hk => ?_⟩
  have hD : D = [] := List.eq_nil_of_length_eq_zero (by have := c.1; omega)
  have hE : E = [] := by
    cases E with
    | nil => rfl
    | cons U E => have := (t.mine U (by simp)).2.1; rw [hD] at this; cases this
  rw [t.c, hE, List.append_nil] at hk
  rw [t.l, hD, List.append_nil]
  exact c.2 (by rw [hl, hD] at e; simpa using e) k y hk

theorem Chk.kept {n : Nat} {s : St} (c : Chk n s) {k x : Tm} (hb : bld (inn s.1) k = false) : Chk n (s.1, s.2 ++ [.shut k x]) := by
  refine ⟨c.1, fun e k' x' h => ?_⟩
  rcases List.mem_append.1 h with h | h
  · exact c.2 e k' x' h
  · simp only [List.mem_singleton] at h; cases h; exact hb

theorem Inv.least {l : List Bs} {s : St} (i : Inv l l [] s) (h : ∀ k x : Tm, .shut k x ∈ s.2 → bld (inn s.1) k = false) : Least l s.1 := by
  refine ⟨i.has, fun U hU hx => ?_, i.min⟩
  have := i.acc U hU (inn_iff.1 hx)
  cases U with
  | pair a b => exact ⟨inn_iff.2 this.1, inn_iff.2 this.2⟩
  | shut k x =>
    intro hb
    rcases this with (h1 | h1) | h1
    · have := h k x h1; rw [hb] at this; cases this
    · cases h1
    · exact inn_iff.2 h1
  | _ => trivial

/-! ### how the model takes -/
theorem put_in {l : List Bs} {t : Bs} (hl : Rise l) (h : t ∈ l) : put l t = l :=
  rise_ext _ _ (put_rise l t hl).1 hl fun x => by rw [(put_rise l t hl).2]; exact ⟨fun h' => h'.elim id fun e => e ▸ h, .inl⟩

theorem put_new {l : List Bs} {t : Bs} (h : ¬ t ∈ l) : (put l t).length = l.length + 1 := by
  unfold put
  split
  · rename_i e
    exact absurd (List.mem_of_getElem? e) h
  · simp
    have := (List.takeWhile_sublist (fun x => decide (x < t)) (l := l)).length_le
    omega

theorem put_len2 {l : List Bs} {t : Bs} (hl : Rise l) : (put l t).length = l.length ∧ t ∈ l ∨ (put l t).length = l.length + 1 ∧ ¬ t ∈ l := by
  by_cases h : t ∈ l
  · exact .inl ⟨by rw [put_in hl h], h⟩
  · exact .inr ⟨put_new h, h⟩

def nx (out : List Bs) : Tm → List Bs
  | .pair l r => put (put out l.tx) r.tx
  | .shut k x => if bld (inn out) k then put out x.tx else out
  | _ => out

structure Mdl (l out : List Bs) : Prop where
  rise : Rise out
  has : ∀ x ∈ l, x ∈ out
  min : ∀ X : Bs → Bool, (∀ x ∈ l, X x = true) → Closed X → ∀ x ∈ out, X x = true

theorem Mdl.put {l out : List Bs} (m : Mdl l out) {t : Bs} (h : ∀ X : Bs → Bool, (∀ x ∈ l, X x = true) → Closed X → X t = true) : Mdl l (put out t) := by
  obtain ⟨h1, h2⟩ := put_rise out t m.rise
  refine ⟨h1, fun x hx => (h2 x).2 (.inl (m.has x hx)), fun X a b x hx => ?_⟩
  rcases (h2 x).1 hx with hx | rfl
  · exact m.min X a b x hx
  · exact h X a b

theorem Mdl.nx {l out : List Bs} (m : Mdl l out) {T : Tm} (hT : T.ok) (h : T.tx ∈ out) : Mdl l (nx out T) := by
  cases T with
  | pair a b =>
    have ho : ∀ X : Bs → Bool, (∀ x ∈ l, X x = true) → Closed X → opens X (.pair a b) := fun X h1 h2 => h2 _ hT (m.min X h1 h2 _ h)
    show Mdl l (ato.put (ato.put out a.tx) b.tx)
    exact (m.put fun X h1 h2 => (ho X h1 h2).1).put fun X h1 h2 => (ho X h1 h2).2
  | shut k x =>
    show Mdl l (if bld (inn out) k then ato.put out x.tx else out)
    split
    · rename_i hb
      refine m.put fun X h1 h2 => ?_
      have ho : opens X (.shut k x) := h2 _ hT (m.min X h1 h2 _ h)
      exact ho (bld_mono (fun y hy => m.min X h1 h2 y (inn_iff.1 hy)) k hb)
    · exact m
  | _ => exact m

theorem nx_opens {out : List Bs} (hr : Rise out) {T : Tm} (h : ¬ out.length < (nx out T).length) : opens (inn out) T := by
  cases T with
  | pair a b =>
    change ¬ out.length < (put (put out a.tx) b.tx).length at h
    rcases put_len2 (t := a.tx) hr with ⟨h1, h2⟩ | ⟨h1, h2⟩
    · rw [put_in hr h2] at h
      rcases put_len2 (t := b.tx) hr with ⟨h3, h4⟩ | ⟨h3, h4⟩
      · exact ⟨inn_iff.2 h2, inn_iff.2 h4⟩
      · omega
    · rcases put_len2 (t := b.tx) (put_rise out a.tx hr).1 with ⟨h3, h4⟩ | ⟨h3, h4⟩ <;> omega
  | shut k x =>
    change ¬ out.length < (if bld (inn out) k then put out x.tx else out).length at h
    intro hb
    rw [if_pos hb] at h
    rcases put_len2 (t := x.tx) hr with ⟨h3, h4⟩ | ⟨h3, h4⟩
    · exact inn_iff.2 h4
    · omega
  | _ => trivial

theorem Mdl.least {l out : List Bs} (m : Mdl l out) (h : ∀ T : Tm, T.ok → T.tx ∈ out → ¬ out.length < (kmp.nx out T).length) : Least l out :=
  ⟨m.has, fun T hT hx => nx_opens m.rise (h T hT (inn_iff.1 hx)), m.min⟩

theorem Mdl.start {l : List Bs} (h : Rise l) : Mdl l l := ⟨h, fun x hx => hx, fun X h1 _ x hx => h1 x hx⟩

/-- All right, and not too many. -/
theorem bound {l L : List Bs} {Ts : List Tm} (hl : l = Ts.map Tm.tx) (hT : ∀ T ∈ Ts, term T.tx = some T) (hn : L.Nodup) (hm : ∀ X : Bs → Bool, (∀ x ∈ l, X x = true) → Closed X → ∀ x ∈ L, X x = true) :
    L.length ≤ 1001 * Ts.length ∧ ∀ x ∈ L, ∃ T, term x = some T := by
  refine ⟨?_, fun x hx => ?_⟩
  · refine Nat.le_trans (nodup_le hn fun x hx => inn_iff.1 (hm _ (fun y hy => ?_) (closed_subs Ts fun T h => (term_some.1 (hT T h)).2.1) x hx)) (subs_all Ts fun T h => ⟨(term_some.1 (hT T h)).2.1, (term_some.1 (hT T h)).1⟩)
    rw [hl] at hy
    obtain ⟨T, h1, rfl⟩ := List.mem_map.1 hy
    exact inn_iff.2 (List.mem_flatMap.2 ⟨T, h1, subs_self T⟩)
  · refine Option.isSome_iff_exists.1 (hm _ (fun y hy => ?_) closed_right x hx)
    rw [hl] at hy
    obtain ⟨T, h1, rfl⟩ := List.mem_map.1 hy
    show (term T.tx).isSome = true
    rw [hT T h1]; rfl

theorem rise_nodup {l : List Bs} (h : Rise l) : l.Nodup := by
  refine List.Pairwise.imp (fun {a b} hab e => ?_) h
  subst e
  exact List.lt_irrefl a hab

#print axioms Inv.least
end Go.Proofs.YtdikjmhnjlalbabGreat.kmp
