/- The pieces between brackets, as the model's l02Args finds them; how deep a text is, as its l02Deep says: as plain functions, held against the plain reader. -/
import Derived.Test.YtonjohlecomeoaaTm
namespace Go.Proofs.Ytonjohlecomeoaa.spm
open Go Go.Proofs.Ytonjohlecomeoaa.tm
set_option linter.unusedVariables false

def turn (c : UInt8) (d : Int) : Int := if c = 91 then d + 1 else if c = 93 then d - 1 else d

def sp : Bs → Int → Bs → Option (List Bs)
  | [], _, _ => some []
  | c :: l, d, cur =>
    if l = [] then (if turn c d = -1 then some [cur] else none)
    else if turn c d < 0 then none
    else if turn c d = 0 ∧ c = 32 then (sp l (turn c d) []).map (cur :: ·)
    else sp l (turn c d) (cur ++ [c])

def args (t : Bs) : Option (List Bs) := if t.length < 2 ∨ t.head? ≠ some 91 ∨ t.getLast? ≠ some 93 then none else sp t.tail 0 []

theorem sp_out : ∀ (l : Bs) (d : Int) (cur : Bs) (out : List Bs), l.getLast? = some 93 → sp l d cur = some out → ∃ a ks, out = a :: ks ∧ cur ++ l = a ++ (ks.flatMap (32 :: ·) ++ [93])
  | [], d, cur, out, h, _ => by simp at h
  | c :: l, d, cur, out, h, hs => by
    rw [sp] at hs
    by_cases hl : l = []
    · subst hl
      rw [if_pos rfl] at hs
      split at hs
      · simp only [Option.some.injEq] at hs
        simp at h
        exact ⟨cur, [], hs.symm, by simp [h]⟩
      · cases hs
    · rw [if_neg hl] at hs
      have h' : l.getLast? = some 93 := by
        rw [List.getLast?_cons] at h
        cases hq : l.getLast? with
        | none => exact absurd (List.getLast?_eq_none_iff.1 hq) hl
        | some x => rw [hq] at h; simpa using h
      split at hs
      · cases hs
      · split at hs
        · rename_i h32
          cases hz : sp l (turn c d) [] with
          | none => rw [hz] at hs; cases hs
          | some out' =>
            rw [hz] at hs
            simp only [Option.map_some, Option.some.injEq] at hs
            obtain ⟨a, ks, e1, e2⟩ := sp_out l _ _ _ h' hz
            refine ⟨cur, out', hs.symm, ?_⟩
            rw [e1, h32.2]
            simp only [List.nil_append] at e2
            rw [e2]
            simp
        · obtain ⟨a, ks, e1, e2⟩ := sp_out l _ _ _ h' hs
          exact ⟨a, ks, e1, by rw [← e2]; simp⟩

theorem args_say {t : Bs} {a : List Bs} (h : args t = some a) : ∃ op ks, a = op :: ks ∧ t = say op ks := by
  unfold args at h
  split at h
  · cases h
  · rename_i hc
    simp only [not_or, Nat.not_lt, ne_eq, Decidable.not_not] at hc
    obtain ⟨h1, h2, h3⟩ := hc
    obtain ⟨l, rfl⟩ : ∃ l, t = 91 :: l := by cases t <;> simp at h2; subst h2; exact ⟨_, rfl⟩
    have hl : l.getLast? = some 93 := by
      rw [List.getLast?_cons] at h3
      cases hq : l.getLast? with
      | none => rw [hq] at h3; simp at h3
      | some x => rw [hq] at h3; simpa using h3
    obtain ⟨op, ks, e1, e2⟩ := sp_out l 0 [] a hl h
    exact ⟨op, ks, e1, by unfold say; rw [← e2]; simp⟩

theorem turn_at {c : UInt8} (h : isAt c = true) (d : Int) : turn c d = d ∧ c ≠ 32 := by
  have h1 : c ≠ 91 := by rintro rfl; revert h; decide
  have h2 : c ≠ 93 := by rintro rfl; revert h; decide
  exact ⟨by simp [turn, h1, h2], by rintro rfl; revert h; decide⟩

theorem sp_step {c : UInt8} {l : Bs} {d : Int} {cur : Bs} (hl : l ≠ []) (h0 : ¬ turn c d < 0) (h32 : ¬ (turn c d = 0 ∧ c = 32)) : sp (c :: l) d cur = sp l (turn c d) (cur ++ [c]) := by
  rw [sp, if_neg hl, if_neg h0, if_neg h32]

theorem sp_word : ∀ (a r : Bs) (d : Int) (cur : Bs), a.all isAt = true → r ≠ [] → 0 ≤ d → sp (a ++ r) d cur = sp r d (cur ++ a)
  | [], r, d, cur, _, _, _ => by simp
  | c :: a, r, d, cur, ha, hr, hd => by
    simp only [List.all_cons, Bool.and_eq_true] at ha
    obtain ⟨h1, h2⟩ := turn_at ha.1 d
    rw [List.cons_append, sp_step (by simp [hr]) (by rw [h1]; omega) (fun h => h2 h.2), h1, sp_word a r d _ ha.2 hr hd]
    simp

/-- A text that leaves no mark: what it holds is taken whole. -/
def Whole (x : Bs) : Prop := ∀ (r : Bs) (d : Int) (cur : Bs), r ≠ [] → 0 ≤ d → sp (x ++ r) d cur = sp r d (cur ++ x)

theorem sp_kids : ∀ (ks : List Bs) (r : Bs) (d : Int) (cur : Bs), (∀ k ∈ ks, Whole k) → r ≠ [] → 1 ≤ d → sp (ks.flatMap (32 :: ·) ++ r) d cur = sp r d (cur ++ ks.flatMap (32 :: ·))
  | [], r, d, cur, _, _, _ => by simp
  | k :: ks, r, d, cur, hk, hr, hd => by
    have ht : turn 32 d = d := by simp [turn]
    simp only [List.flatMap_cons, List.cons_append, List.append_assoc]
    rw [sp_step (by simp [hr]) (by rw [ht]; omega) (by rw [ht]; omega), ht, hk k (by simp) _ _ _ (by simp [hr]) (by omega), sp_kids ks r d _ (fun k' h' => hk k' (by simp [h'])) hr hd]
    simp

theorem whole_say (op : Bs) (ks : List Bs) (hop : op.all isAt = true) (hk : ∀ k ∈ ks, Whole k) : Whole (say op ks) := by
  intro r d cur hr hd
  have t1 : turn 91 d = d + 1 := by simp [turn]
  have t2 : turn 93 (d + 1) = d := by simp [turn]
  unfold say
  simp only [List.cons_append, List.append_assoc]
  rw [sp_step (by simp) (by rw [t1]; omega) (by rw [t1]; omega), t1, sp_word op _ _ _ hop (by simp) (by omega), sp_kids ks _ _ _ hk (by simp) (by omega)]
  simp only [List.nil_append]
  rw [sp_step hr (by rw [t2]; omega) (by simp), t2]
  simp

theorem whole_tx : ∀ (T : Tm), T.ok → Whole T.tx
  | .atom a, h => fun r d cur hr hd => sp_word a r d cur (atomR_all h) hr hd
  | .pair x y, h => whole_say _ _ (by decide) (by intro k hk; simp at hk; rcases hk with rfl | rfl; exact whole_tx x h.1; exact whole_tx y h.2)
  | .hash x, h => whole_say _ _ (by decide) (by intro k hk; simp at hk; subst hk; exact whole_tx x h)
  | .mac x y, h => whole_say _ _ (by decide) (by intro k hk; simp at hk; rcases hk with rfl | rfl; exact whole_tx x h.1; exact whole_tx y h.2)
  | .shut x y, h => whole_say _ _ (by decide) (by intro k hk; simp at hk; rcases hk with rfl | rfl; exact whole_tx x h.1; exact whole_tx y h.2)
  | .pub a, h => whole_say _ _ (by decide) (by intro k hk; simp at hk; subst hk; exact fun r d cur hr hd => sp_word k r d cur (atomR_all h) hr hd)
  | .dh a b, h => whole_say _ _ (by decide) (by intro k hk; simp at hk; rcases hk with rfl | rfl; exact fun r d cur hr hd => sp_word k r d cur (atomR_all h.1) hr hd; exact fun r d cur hr hd => sp_word k r d cur (atomR_all h.2.1) hr hd)

theorem sp_top : ∀ (ks : List Bs) (cur : Bs), (∀ k ∈ ks, Whole k) → sp (ks.flatMap (32 :: ·) ++ [93]) 0 cur = some (cur :: ks)
  | [], cur, _ => by simp [sp, turn]
  | k :: ks, cur, hk => by
    have ht : turn 32 0 = 0 := by simp [turn]
    simp only [List.flatMap_cons, List.cons_append, List.append_assoc]
    rw [sp, if_neg (by simp), ht, if_neg (by omega), if_pos ⟨rfl, rfl⟩, hk k (by simp) _ _ _ (by simp) (by omega), List.nil_append, sp_top ks k (fun k' h' => hk k' (by simp [h']))]
    rfl

theorem args_of {op : Bs} {ks : List Bs} (hop : op.all isAt = true) (hk : ∀ k ∈ ks, Whole k) : args (say op ks) = some (op :: ks) := by
  have hl : (say op ks).length < 2 ∨ (say op ks).head? ≠ some 91 ∨ (say op ks).getLast? ≠ some 93 → False := by
    intro h
    rcases h with h | h | h
    · unfold say at h; simp at h; omega
    · simp [say] at h
    · apply h
      unfold say
      rw [← List.append_assoc, ← List.cons_append, List.getLast?_append]
      rfl
  unfold args
  rw [if_neg hl]
  unfold say
  rw [List.tail_cons, sp_word op _ _ _ hop (by simp) (by omega), sp_top ks _ hk]
  simp

theorem args_tx {T : Tm} (hT : T.ok) (h : T.isAtom = false) : args T.tx = some (T.op :: T.kids.map Tm.tx) := by
  rw [tx_say T h]
  refine args_of (op_all T) ?_
  intro k hk
  obtain ⟨K, hK, rfl⟩ := List.mem_map.1 hk
  exact whole_tx K (kid_ok hT hK)

/-! ### how deep -/

def mk (n : Nat) (op : Bs) (ks : List Bs) : Option Tm :=
  match ks.mapM (pz n) with
  | none => none
  | some Ts => build op Ts

theorem mapM_tx (n : Nat) : ∀ (Ts : List Tm), (∀ T ∈ Ts, T.ok ∧ T.deep ≤ n) → (Ts.map Tm.tx).mapM (pz n) = some Ts
  | [], _ => rfl
  | T :: Ts, h => by
    have h1 : pz n T.tx = some T := pz_some.2 ⟨(h T (by simp)).1, (h T (by simp)).2, rfl⟩
    rw [List.map_cons, List.mapM_cons, h1, mapM_tx n Ts fun t ht => h t (by simp [ht])]
    rfl

theorem mapM_out (n : Nat) : ∀ (ks : List Bs) (Ts : List Tm), ks.mapM (pz n) = some Ts → ks = Ts.map Tm.tx ∧ ∀ T ∈ Ts, T.ok ∧ T.deep ≤ n
  | [], Ts, h => by simp at h; subst h; simp
  | k :: ks, Ts, h => by
    rw [List.mapM_cons] at h
    cases h1 : pz n k with
    | none => rw [h1] at h; cases h
    | some T =>
      cases h2 : ks.mapM (pz n) with
      | none => rw [h1, h2] at h; cases h
      | some Us =>
        rw [h1, h2] at h
        cases h
        obtain ⟨a, b, c⟩ := pz_some.1 h1
        obtain ⟨e, f⟩ := mapM_out n ks Us h2
        refine ⟨by rw [List.map_cons, c, e], ?_⟩
        intro T' hT'
        rcases List.mem_cons.1 hT' with rfl | hT'
        · exact ⟨a, b⟩
        · exact f _ hT'

theorem pz_node {t : Bs} {n : Nat} {T : Tm} (ha : atomR t = false) (h : pz n t = some T) : T.isAtom = false := by
  cases hT : T.isAtom with
  | false => rfl
  | true =>
    obtain ⟨a, _, c⟩ := pz_some.1 h
    match T, hT, a, c with
    | .atom x, _, a, c =>
      have : atomR x = true := a
      rw [show x = t from c, ha] at this
      cases this

theorem pz_none_args {t : Bs} {n : Nat} (ha : atomR t = false) (h : args t = none) : pz n t = none := by
  cases hp : pz n t with
  | none => rfl
  | some T =>
    obtain ⟨a, _, c⟩ := pz_some.1 hp
    have := args_tx a (pz_node ha hp)
    rw [c, h] at this
    cases this

theorem node_deep {T : Tm} (h : T.isAtom = false) : 2 ≤ T.deep := by
  cases T <;> first | (simp [Tm.isAtom] at h; done) | skip
  all_goals simp [Tm.deep]
  all_goals first | (rename_i x y; have := deep_pos x; have := deep_pos y; omega) | (rename_i x; have := deep_pos x; omega)

theorem pz_one {t : Bs} (ha : atomR t = false) : pz 1 t = none := by
  cases hp : pz 1 t with
  | none => rfl
  | some T =>
    have := node_deep (pz_node ha hp)
    have := (pz_some.1 hp).2.1
    omega

theorem pz_succ {t : Bs} {n : Nat} {op : Bs} {ks : List Bs} (ha : atomR t = false) (h : args t = some (op :: ks)) : pz (n + 1) t = mk n op ks := by
  have h1 : ∀ T, pz (n + 1) t = some T → mk n op ks = some T := by
    intro T hT
    have hn := pz_node ha hT
    obtain ⟨a, b, c⟩ := pz_some.1 hT
    have e := args_tx a hn
    rw [c, h] at e
    simp only [Option.some.injEq, List.cons.injEq] at e
    obtain ⟨e1, e2⟩ := e
    unfold mk
    rw [e2, mapM_tx n T.kids fun k hk => ⟨kid_ok a hk, by have := kid_deep hk; omega⟩]
    show build op T.kids = some T
    rw [e1]
    exact build_of T hn ((ok_iff T hn).1 a).2
  have h2 : ∀ T, mk n op ks = some T → pz (n + 1) t = some T := by
    intro T hT
    unfold mk at hT
    cases hm : ks.mapM (pz n) with
    | none => rw [hm] at hT; cases hT
    | some Ts =>
      rw [hm] at hT
      obtain ⟨b1, b2, b3, b4⟩ := build_some (show build op Ts = some T from hT)
      obtain ⟨e, f⟩ := mapM_out n ks Ts hm
      obtain ⟨op', ks', e1, e2⟩ := args_say h
      cases e1
      refine pz_some.2 ⟨(ok_iff T b1).2 ⟨fun k hk => (f k (b3 ▸ hk)).1, b4⟩, ?_, ?_⟩
      · rw [deep_kids T b1, b3]
        have : ∀ (ks : List Tm) m, m ≤ n → (∀ k ∈ ks, k.deep ≤ n) → ks.foldl (fun m k => max m k.deep) m ≤ n := by
          intro ks
          induction ks with
          | nil => intro m hm _; simpa using hm
          | cons a ks ih => intro m hm hk; exact ih _ (by have := hk a (by simp); show max m a.deep ≤ n; omega) (fun k hk' => hk k (by simp [hk']))
        have := this Ts 0 (Nat.zero_le _) (fun k hk => (f k hk).2)
        omega
      · rw [tx_say T b1, b2, b3, e2, e]
  cases hp : pz (n + 1) t with
  | some T => exact (h1 T hp).symm
  | none =>
    cases hm : mk n op ks with
    | none => rfl
    | some T => rw [h2 T hm] at hp; cases hp

def dz (n : Nat) (t : Bs) : Nat := match pz n t with | some T => T.deep | none => 0

theorem dz_some {n : Nat} {t : Bs} {T : Tm} (h : pz n t = some T) : dz n t = T.deep := by unfold dz; rw [h]
theorem dz_none {n : Nat} {t : Bs} (h : pz n t = none) : dz n t = 0 := by unfold dz; rw [h]
theorem dz_zero {n : Nat} {t : Bs} (h : dz n t = 0) : pz n t = none := by
  cases hp : pz n t with
  | none => rfl
  | some T => rw [dz_some hp] at h; have := deep_pos T; omega
theorem dz_pos {n : Nat} {t : Bs} (h : dz n t ≠ 0) : ∃ T, pz n t = some T ∧ dz n t = T.deep := by
  cases hp : pz n t with
  | none => exact absurd (dz_none hp) h
  | some T => exact ⟨T, rfl, dz_some hp⟩
theorem dz_le (n : Nat) (t : Bs) : dz n t ≤ n := by
  unfold dz
  cases hp : pz n t with
  | none => exact Nat.zero_le _
  | some T => exact (pz_some.1 hp).2.1

def many (op : Bs) : Nat := if op = oPair ∨ op = oMac ∨ op = oShut ∨ op = oDh then 2 else if op = oHash ∨ op = oPub then 1 else 0
def secret (op : Bs) : Bool := decide (op = oPub) || decide (op = oDh)

theorem build_many {op : Bs} {Ts : List Tm} {T : Tm} (h : build op Ts = some T) : many op = Ts.length ∧ many op ≠ 0 := by
  obtain ⟨b1, b2, b3, b4⟩ := build_some h
  subst b2
  subst b3
  cases T <;> first | (simp [Tm.isAtom] at b1; done) | (simp [many, Tm.op, Tm.kids, oPair, oHash, oMac, oShut, oPub, oDh])

theorem mapM_length (n : Nat) {ks : List Bs} {Ts : List Tm} (h : ks.mapM (pz n) = some Ts) : Ts.length = ks.length := by
  have := (mapM_out n ks Ts h).1
  rw [this]; simp

theorem mk_many {n : Nat} {op : Bs} {ks : List Bs} (h : many op = 0 ∨ ks.length ≠ many op) : mk n op ks = none := by
  unfold mk
  cases hm : ks.mapM (pz n) with
  | none => rfl
  | some Ts =>
    show build op Ts = none
    cases hb : build op Ts with
    | none => rfl
    | some T =>
      have h1 := build_many hb
      have h2 := mapM_length n hm
      omega

theorem mk_zero {n : Nat} {op : Bs} {ks : List Bs} {x : Bs} (hx : x ∈ ks) (h : dz n x = 0) : mk n op ks = none := by
  unfold mk
  cases hm : ks.mapM (pz n) with
  | none => rfl
  | some Ts =>
    obtain ⟨e, f⟩ := mapM_out n ks Ts hm
    rw [e] at hx
    obtain ⟨T, hT, rfl⟩ := List.mem_map.1 hx
    have := pz_some.2 ⟨(f T hT).1, (f T hT).2, rfl⟩
    rw [dz_zero h] at this
    cases this

theorem one_atom {T : Tm} (h : T.deep = 1) : ∃ a, T = .atom a := by
  cases hT : T.isAtom with
  | false => have := node_deep hT; omega
  | true => cases T <;> first | exact ⟨_, rfl⟩ | (simp [Tm.isAtom] at hT)

theorem mk_one {n : Nat} {op x : Bs} {X : Tm} (h : pz n x = some X) : mk n op [x] = build op [X] := by
  unfold mk
  simp [h]
theorem mk_two {n : Nat} {op x y : Bs} {X Y : Tm} (h : pz n x = some X) (k : pz n y = some Y) : mk n op [x, y] = build op [X, Y] := by
  unfold mk
  simp [h, k]

theorem mk_hash {n : Nat} {x : Bs} (h : dz n x ≠ 0) : ∃ T, mk n oHash [x] = some T ∧ T.deep = dz n x + 1 := by
  obtain ⟨X, h1, h2⟩ := dz_pos h
  rw [mk_one h1, h2]
  exact ⟨_, rfl, rfl⟩
theorem mk_pub_yes {n : Nat} {x : Bs} (h : dz n x = 1) : ∃ T, mk n oPub [x] = some T ∧ T.deep = 2 := by
  obtain ⟨X, h1, h2⟩ := dz_pos (n := n) (t := x) (by omega)
  obtain ⟨a, rfl⟩ := one_atom (show X.deep = 1 by omega)
  rw [mk_one h1]
  exact ⟨_, rfl, rfl⟩
theorem deep_node {T : Tm} (h : 2 ≤ T.deep) : T.isAtom = false := by cases T <;> first | rfl | (simp [Tm.deep] at h)
theorem mk_pub_no {n : Nat} {x : Bs} (h : 2 ≤ dz n x) : mk n oPub [x] = none := by
  obtain ⟨X, h1, h2⟩ := dz_pos (n := n) (t := x) (by omega)
  rw [mk_one h1]
  have hn := deep_node (show 2 ≤ X.deep by omega)
  cases X <;> first | (simp [Tm.isAtom] at hn; done) | rfl
theorem mk_pms {n : Nat} {op x y : Bs} (hop : op = oPair ∨ op = oMac ∨ op = oShut) (h : dz n x ≠ 0) (k : dz n y ≠ 0) : ∃ T, mk n op [x, y] = some T ∧ T.deep = max (dz n x) (dz n y) + 1 := by
  obtain ⟨X, h1, h2⟩ := dz_pos h
  obtain ⟨Y, k1, k2⟩ := dz_pos k
  rw [mk_two h1 k1, h2, k2]
  rcases hop with rfl | rfl | rfl <;> exact ⟨_, rfl, rfl⟩
theorem mk_dh {n : Nat} {x y : Bs} (h : dz n x = 1) (k : dz n y = 1) : (gt x y = false → ∃ T, mk n oDh [x, y] = some T ∧ T.deep = 2) ∧ (gt x y = true → mk n oDh [x, y] = none) := by
  obtain ⟨X, h1, h2⟩ := dz_pos (n := n) (t := x) (by omega)
  obtain ⟨Y, k1, k2⟩ := dz_pos (n := n) (t := y) (by omega)
  obtain ⟨a, rfl⟩ := one_atom (show X.deep = 1 by omega)
  obtain ⟨b, rfl⟩ := one_atom (show Y.deep = 1 by omega)
  obtain rfl : a = x := (pz_some.1 h1).2.2
  obtain rfl : b = y := (pz_some.1 k1).2.2
  rw [mk_two h1 k1]
  refine ⟨fun hg => ⟨.dh a b, ?_, rfl⟩, fun hg => ?_⟩
  · simp [build, oDh, oPub, oShut, oMac, oHash, oPair, hg]
  · simp [build, oDh, oPub, oShut, oMac, oHash, oPair, hg]
theorem mk_dh_no {n : Nat} {x y : Bs} (h : 2 ≤ dz n x ∨ 2 ≤ dz n y) : mk n oDh [x, y] = none := by
  by_cases hx : dz n x = 0
  · exact mk_zero (x := x) (by simp) hx
  by_cases hy : dz n y = 0
  · exact mk_zero (x := y) (by simp) hy
  obtain ⟨X, h1, h2⟩ := dz_pos hx
  obtain ⟨Y, k1, k2⟩ := dz_pos hy
  rw [mk_two h1 k1]
  cases hb : build oDh [X, Y] with
  | none => rfl
  | some T =>
    obtain ⟨b1, b2, b3, b4⟩ := build_some hb
    cases T <;> first | (simp [Tm.op, oDh, oPair, oHash, oMac, oShut, oPub] at b2; done) | skip
    simp [Tm.kids] at b3
    obtain ⟨rfl, rfl⟩ := b3
    simp [Tm.deep] at h2 k2
    omega

theorem dz_mk_none {n : Nat} {t op : Bs} {ks : List Bs} (ha : atomR t = false) (h : args t = some (op :: ks)) (hm : mk n op ks = none) : dz (n + 1) t = 0 := dz_none (by rw [pz_succ ha h, hm])
theorem dz_mk_some {n : Nat} {t op : Bs} {ks : List Bs} {k : Nat} (ha : atomR t = false) (h : args t = some (op :: ks)) (hm : ∃ T, mk n op ks = some T ∧ T.deep = k) : dz (n + 1) t = k := by
  obtain ⟨T, h1, h2⟩ := hm
  rw [dz_some (by rw [pz_succ ha h, h1]), h2]
theorem many_cases (op : Bs) : many op = 0 ∨ (many op = 1 ∧ (op = oHash ∨ op = oPub)) ∨ (many op = 2 ∧ (op = oPair ∨ op = oMac ∨ op = oShut ∨ op = oDh)) := by
  unfold many
  split
  · right; right; exact ⟨rfl, by assumption⟩
  · split
    · right; left; exact ⟨rfl, by assumption⟩
    · left; rfl
end Go.Proofs.Ytonjohlecomeoaa.spm
