/- Several small texts, one behind the other. -/
import Derived.Test.YtdikjmhnjlalbaaGreatQi
import Derived.Test.YtdikjmhnjlalbaaGreatQd
import Derived.Test.YtdikjmhnjlalbaaGreatQg
import Derived.Test.YtdikjmhnjlalbaaGreatQb
import Derived.WalkLawsBesides
import Derived.Test.YtdikjmhnjlalbaaGreatQe
import Derived.Test.YtdikjmhnjlalbaaGreatBldq

/- Letters as plain data: what is right, the body, the macs, what is signed. Nothing here speaks of the program. -/
namespace Go.Proofs.YtdikjmhnjlalbaaGreat.ltp
open Go Go.RowKit Go.Proofs.YtdikjmhnjlalbaaGreat.tm Go.Proofs.YtdikjmhnjlalbaaGreat.spm Go.Proofs.YtdikjmhnjlalbaaGreat.mkp Go.Proofs.YtdikjmhnjlalbaaGreat.ltq Go.Proofs.YtdikjmhnjlalbaaGreat.ltv
set_option linter.unusedVariables false

/-- The macs of a kind that is signed. -/
def macsR (a b : Bs) : Bool := if a = [] then decide (b = []) else okT a && (decide (b = []) || okT b)
/-- how many parts a kind has; is it signed? -/
def parts (k : Int) : Nat := if k = 1 then 3 else if k = 2 then 2 else 1
def signed (k : Int) : Bool := decide (k = 1) || decide (k = 2)
def isKind (k : Int) : Bool := decide (1 ≤ k) && decide (k ≤ 4)
def nums (m : Lt) : Bool :=
  if m.k = 1 then endR m.f && decide (m.t = 0) && decide (m.c = 0)
  else if m.k = 2 then endR m.f && endR m.t && decide (m.c = 0)
  else if m.k = 3 then decide (m.f = 0) && endR m.t && decide (m.c = 0)
  else decide (m.f = 0) && endR m.t && timeR m.c
def partsR (m : Lt) : Bool := decide (m.ps.length = parts m.k) && m.ps.all okT
def macs (m : Lt) : Bool := if signed m.k then macsR m.a m.b else decide (m.a = []) && decide (m.b = [])
def right (m : Lt) : Bool := isKind m.k && nums m && partsR m && macs m

/-- The body of a letter's parts. -/
def body : List Bs → Bs
  | [] => []
  | [x] => x
  | x :: l => say oPair [x, body l]

def oGate : Bs := [103, 97, 116, 101]
def gate (lock : Bs) : Bs := say oHash [say oPair [oGate, lock]]
def gateR (lock : Bs) : Bs := if okT lock && okT (gate lock) then gate lock else []
def mac1 (m : Lt) (lock : Bs) : Bs := say oMac [gate lock, body m.ps]
def mac2 (m : Lt) (cookie : Bs) : Bs := say oMac [cookie, say oPair [body m.ps, m.a]]
def signs (m : Lt) : Bool := right m && signed m.k

def none0 : Lt := ⟨0, 0, 0, 0, [], [], []⟩
def signR (m : Lt) (lock : Bs) : Lt × Int :=
  if 8000 < lock.length then (none0, 2)
  else if signs m && okT lock then (if okT (mac1 m lock) then ({ m with a := mac1 m lock, b := [] }, 0) else (none0, 9))
  else (none0, 1)
def twiceR (m : Lt) (cookie : Bs) : Lt × Int :=
  if 8000 < cookie.length then (none0, 2)
  else if signs m && decide (m.a ≠ []) && okT cookie then (if okT (mac2 m cookie) then ({ m with b := mac2 m cookie }, 0) else (none0, 9))
  else (none0, 1)
def fits1 (m : Lt) (lock : Bs) : Bool := signs m && okT lock && decide (m.a ≠ []) && decide (m.a = mac1 m lock)
def fits2 (m : Lt) (cookie : Bs) : Bool := signs m && okT cookie && decide (m.b ≠ []) && decide (m.b = mac2 m cookie)

/-! ### as terms -/
def bodyT : List Tm → Tm
  | [] => .atom []
  | [x] => x
  | x :: l => .pair x (bodyT l)

theorem bodyT_tx : ∀ (l : List Tm), (bodyT l).tx = body (l.map Tm.tx)
  | [] => rfl
  | [x] => rfl
  | x :: y :: l => by
    have := bodyT_tx (y :: l)
    simp only [bodyT, Tm.tx, List.map_cons, body] at this ⊢
    rw [this]
theorem bodyT_ok : ∀ (l : List Tm), l ≠ [] → (∀ T ∈ l, T.ok) → (bodyT l).ok
  | [], h, _ => absurd rfl h
  | [x], _, h => h x (by simp)
  | x :: y :: l, _, h => ⟨h x (by simp), bodyT_ok (y :: l) (by simp) fun T hT => h T (by simp [List.mem_cons.1 hT])⟩

theorem all_terms : ∀ (l : List Bs), l.all okT = true → ∃ Ts : List Tm, Ts.map Tm.tx = l ∧ ∀ T ∈ Ts, T.ok ∧ T.tx.length ≤ 3000
  | [], _ => ⟨[], rfl, fun T h => by cases h⟩
  | a :: l, h => by
    simp only [List.all_cons, Bool.and_eq_true] at h
    obtain ⟨Ts, h1, h2⟩ := all_terms l h.2
    obtain ⟨T, hT⟩ := Option.isSome_iff_exists.1 h.1
    obtain ⟨b1, b2, b3, b4⟩ := term_some.1 hT
    refine ⟨T :: Ts, by rw [List.map_cons, b4, h1], fun U hU => ?_⟩
    rcases List.mem_cons.1 hU with rfl | hU
    · exact ⟨b2, by rw [b4]; exact b1⟩
    · exact h2 U hU

theorem okT_tx {T : Tm} (h : T.ok) : okT T.tx = decide (T.tx.length ≤ 3000 ∧ T.deep ≤ 24) := term_tx h

theorem gate_tx (L : Tm) : gate L.tx = (Tm.hash (.pair (.atom oGate) L)).tx := rfl
theorem gate_atom : (Tm.atom oGate).ok := (by decide : atomR oGate = true)
theorem gate_ok {L : Tm} (h : L.ok) : (Tm.hash (.pair (.atom oGate) L)).ok := ⟨gate_atom, h⟩

theorem okT_some {l : Bs} (h : okT l = true) : ∃ T : Tm, T.ok ∧ T.tx = l ∧ l.length ≤ 3000 ∧ T.deep ≤ 24 := by
  obtain ⟨T, hT⟩ := Option.isSome_iff_exists.1 h
  obtain ⟨b1, b2, b3, b4⟩ := term_some.1 hT
  exact ⟨T, b2, b4, b1, b3⟩
theorem okT_len {l : Bs} (h : okT l = true) : l.length ≤ 3000 := (okT_some h).choose_spec.2.2.1
theorem okT_ne {l : Bs} (h : okT l = true) : l ≠ [] := by
  rintro rfl
  revert h
  decide
theorem okT_nil : okT [] = false := by decide

theorem say_ne (op : Bs) (l : List Bs) : say op l ≠ [] := by simp [say]

/-- Of what is right the parts are. -/
theorem pair_right {X Y : Tm} (hX : X.ok) (hY : Y.ok) {op : Bs} (ho : op = oPair ∨ op = oMac ∨ op = oShut) (h : okT (say op [X.tx, Y.tx]) = true) : okT X.tx = true ∧ okT Y.tx = true := by
  have key : ∀ T : Tm, T.ok → T.tx = say op [X.tx, Y.tx] → X.deep ≤ T.deep → Y.deep ≤ T.deep → okT X.tx = true ∧ okT Y.tx = true := fun T hT e d1 d2 => by
    rw [← e, okT_tx hT] at h
    have h := of_decide_eq_true h
    have hl := congrArg List.length e
    simp [say] at hl
    rw [okT_tx hX, okT_tx hY]
    exact ⟨decide_eq_true (by omega), decide_eq_true (by omega)⟩
  rcases ho with rfl | rfl | rfl
  · exact key (.pair X Y) ⟨hX, hY⟩ rfl (by simp [Tm.deep]; omega) (by simp [Tm.deep]; omega)
  · exact key (.mac X Y) ⟨hX, hY⟩ rfl (by simp [Tm.deep]; omega) (by simp [Tm.deep]; omega)
  · exact key (.shut X Y) ⟨hX, hY⟩ rfl (by simp [Tm.deep]; omega) (by simp [Tm.deep]; omega)
theorem hash_right {X : Tm} (hX : X.ok) (h : okT (say oHash [X.tx]) = true) : okT X.tx = true := by
  rw [show say oHash [X.tx] = (Tm.hash X).tx from rfl, okT_tx (T := .hash X) hX] at h
  have h := of_decide_eq_true h
  simp [Tm.tx, Tm.deep, say] at h
  rw [okT_tx hX]
  exact decide_eq_true (by omega)

/-- What Make makes of two (not two secrets), the empty text if it is refused. -/
theorem made_two (op x y : Bs) (ho : op = oPair ∨ op = oMac ∨ op = oShut) : (makeR op [x, y]).1 = if okT x && okT y && okT (say op [x, y]) then say op [x, y] else [] := by
  have e1 : ¬ (400 < [x, y].length ∨ 8000 < op.length) := by rcases ho with rfl | rfl | rfl <;> simp [oPair, oMac, oShut]
  have e2 : ¬ (many op = 0 ∨ [x, y].length ≠ many op) := by
    have : [x, y].length = 2 := rfl
    rw [this]
    rcases ho with rfl | rfl | rfl <;> decide
  have e3 : secret op = false := by rcases ho with rfl | rfl | rfl <;> decide
  have e4 : ¬ op = oDh := by rcases ho with rfl | rfl | rfl <;> decide
  unfold makeR madeT finR rights
  rw [if_neg e1, if_neg e2, e3, if_neg e4]
  unfold okT
  simp only [List.all_cons, List.all_nil, Bool.and_true, Bool.not_false, Bool.true_or]
  cases (term x).isSome <;> cases (term y).isSome <;> cases (term (say op [x, y])).isSome <;> rfl
theorem made_one (x : Bs) : (makeR oHash [x]).1 = if okT x && okT (say oHash [x]) then say oHash [x] else [] := by
  have e1 : ¬ (400 < [x].length ∨ 8000 < oHash.length) := by simp [oHash]
  have e2 : ¬ (many oHash = 0 ∨ [x].length ≠ many oHash) := by
    have : [x].length = 1 := rfl
    rw [this]
    decide
  have e3 : secret oHash = false := by decide
  have e4 : ¬ oHash = oDh := by decide
  unfold makeR madeT finR rights
  rw [if_neg e1, if_neg e2, e3, if_neg e4]
  unfold okT
  simp only [List.all_cons, List.all_nil, Bool.and_true, Bool.not_false, Bool.true_or]
  cases (term x).isSome <;> cases (term (say oHash [x])).isSome <;> rfl

/-- GateKey of the program. -/
theorem gate_made (lock : Bs) : (makeR oHash [(makeR oPair [oGate, lock]).1]).1 = gateR lock := by
  rw [made_one, made_two _ _ _ (.inl rfl)]
  unfold gateR gate
  have hg : okT oGate = true := by decide
  rw [hg, Bool.true_and]
  cases hL : okT lock with
  | false => simp [okT_nil]
  | true =>
    obtain ⟨L, h1, h2, h3, h4⟩ := okT_some hL
    cases hP : okT (say oPair [oGate, lock]) with
    | true => simp [hP]
    | false =>
      have : okT (say oHash [say oPair [oGate, lock]]) = false := by
        cases h : okT (say oHash [say oPair [oGate, lock]]) with
        | false => rfl
        | true =>
          rw [← h2] at h hP
          rw [show say oPair [oGate, L.tx] = (Tm.pair (.atom oGate) L).tx from rfl] at h hP
          rw [hash_right (X := .pair (.atom oGate) L) ⟨gate_atom, h1⟩ h] at hP
          cases hP
      simp [this, okT_nil]

theorem right_ps {m : Lt} (h : right m = true) : m.ps.all okT = true ∧ m.ps.length = parts m.k := by
  unfold right partsR at h
  simp only [Bool.and_eq_true, decide_eq_true_eq] at h
  exact ⟨h.1.2.2, h.1.2.1⟩
theorem parts_pos (k : Int) : 1 ≤ parts k ∧ parts k ≤ 3 := by
  unfold parts; split
  · omega
  · split <;> omega

theorem body_some {m : Lt} (h : right m = true) : ∃ B : Tm, B.ok ∧ B.tx = body m.ps := by
  obtain ⟨h1, h2⟩ := right_ps h
  obtain ⟨Ts, e1, e2⟩ := all_terms m.ps h1
  refine ⟨bodyT Ts, bodyT_ok Ts ?_ fun T hT => (e2 T hT).1, by rw [bodyT_tx, e1]⟩
  rintro rfl
  have := parts_pos m.k
  rw [← e1] at h2
  simp at h2
  omega
theorem body_len {m : Lt} (h : right m = true) : (body m.ps).length ≤ 10000 := by
  obtain ⟨h1, h2⟩ := right_ps h
  have := parts_pos m.k
  have hl : ∀ x ∈ m.ps, x.length ≤ 3000 := fun x hx => okT_len (List.all_eq_true.1 h1 x hx)
  generalize m.ps = ps at h2 hl
  match ps, h2, hl with
  | [], h2, hl => simp [body]
  | [x], h2, hl => simp [body]; have := hl x (by simp); omega
  | [x, y], h2, hl =>
    have := hl x (by simp)
    have := hl y (by simp)
    simp [body, say, oPair]
    omega
  | [x, y, z], h2, hl =>
    have := hl x (by simp)
    have := hl y (by simp)
    have := hl z (by simp)
    simp [body, say, oPair]
    omega
  | x :: y :: z :: u :: l, h2, hl => simp at h2; omega

theorem signs_right {m : Lt} (h : signs m = true) : right m = true := by
  unfold signs at h; simp at h; exact h.1

/-- The first mac as the program makes it. -/
theorem mac1_made {m : Lt} {lock : Bs} (h : right m = true) (hL : okT lock = true) : (makeR oMac [gateR lock, body m.ps]).1 = if okT (mac1 m lock) then mac1 m lock else [] := by
  obtain ⟨B, b1, b2⟩ := body_some h
  obtain ⟨L, l1, l2, _, _⟩ := okT_some hL
  rw [made_two _ _ _ (.inr (.inl rfl))]
  unfold gateR mac1
  rw [hL, Bool.true_and]
  have hg : gate lock = (Tm.hash (.pair (.atom oGate) L)).tx := by rw [← l2, gate_tx]
  cases hG : okT (gate lock) with
  | true =>
    simp only [if_true, hG, Bool.true_and]
    cases hM : okT (say oMac [gate lock, body m.ps]) with
    | false => simp
    | true =>
      rw [hg, ← b2] at hM
      have := (pair_right (gate_ok l1) b1 (.inr (.inl rfl)) hM).2
      rw [b2] at this
      simp [this]
  | false =>
    have : okT (say oMac [gate lock, body m.ps]) = false := by
      cases hM : okT (say oMac [gate lock, body m.ps]) with
      | false => rfl
      | true =>
        rw [hg, ← b2] at hM
        have := (pair_right (gate_ok l1) b1 (.inr (.inl rfl)) hM).1
        rw [← hg, hG] at this
        cases this
    simp [this, okT_nil]

/-- .. and the second one. -/
theorem mac2_made {m : Lt} {cookie : Bs} (h : right m = true) (ha : okT m.a = true) (hC : okT cookie = true) : (makeR oMac [cookie, (makeR oPair [body m.ps, m.a]).1]).1 = if okT (mac2 m cookie) then mac2 m cookie else [] := by
  obtain ⟨B, b1, b2⟩ := body_some h
  obtain ⟨A, a1, a2, _, _⟩ := okT_some ha
  obtain ⟨C, c1, c2, _, _⟩ := okT_some hC
  rw [made_two _ _ _ (.inr (.inl rfl)), made_two _ _ _ (.inl rfl), hC, ha]
  unfold mac2
  have hp : say oPair [body m.ps, m.a] = (Tm.pair B A).tx := by rw [← b2, ← a2]; rfl
  simp only [Bool.true_and, Bool.and_true]
  cases hP : okT (say oPair [body m.ps, m.a]) with
  | true =>
    have : okT (body m.ps) = true := by
      have h2 := hP
      rw [← b2, ← a2] at h2
      have := (pair_right b1 a1 (.inl rfl) h2).1
      rw [b2] at this
      exact this
    simp [this, hP]
  | false =>
    have : okT (say oMac [cookie, say oPair [body m.ps, m.a]]) = false := by
      cases hM : okT (say oMac [cookie, say oPair [body m.ps, m.a]]) with
      | false => rfl
      | true =>
        rw [hp, ← c2] at hM
        have := (pair_right c1 (Y := .pair B A) ⟨b1, a1⟩ (.inr (.inl rfl)) hM).2
        rw [← hp, hP] at this
        cases this
    simp [this, okT_nil]

/-- The model looks whether the whole letter is right. -/
theorem right_mac1 {m : Lt} (h : signs m = true) (x : Bs) (hx : x ≠ []) : right { m with a := x, b := [] } = okT x := by
  unfold signs right at h
  simp only [Bool.and_eq_true] at h
  obtain ⟨⟨⟨⟨h1, h2⟩, h3⟩, h4⟩, h5⟩ := h
  unfold right nums partsR macs
  simp only
  unfold nums at h2
  unfold partsR at h3
  rw [h1, h2, h3, h5]
  simp [macsR, hx]
theorem right_mac2 {m : Lt} (h : signs m = true) (ha : m.a ≠ []) (x : Bs) (hx : x ≠ []) : right { m with b := x } = okT x := by
  unfold signs right at h
  simp only [Bool.and_eq_true] at h
  obtain ⟨⟨⟨⟨h1, h2⟩, h3⟩, h4⟩, h5⟩ := h
  unfold right nums partsR macs
  simp only
  unfold nums at h2
  unfold partsR at h3
  unfold macs at h4
  rw [h5] at h4
  simp [macsR, ha] at h4
  rw [h1, h2, h3, h5]
  simp [macsR, hx, ha, h4.1]
theorem mac_ok {m : Lt} (h : signs m = true) (ha : m.a ≠ []) : okT m.a = true := by
  unfold signs right at h
  simp only [Bool.and_eq_true] at h
  obtain ⟨⟨⟨⟨h1, h2⟩, h3⟩, h4⟩, h5⟩ := h
  unfold macs at h4
  rw [h5] at h4
  simp [macsR, ha] at h4
  exact h4.1

/-- Mac1Fits as the program asks it. -/
theorem fits1_eq (m : Lt) (lock : Bs) : (decide ((signR m lock).2 = 0) && decide ((signR m lock).1.a = m.a)) = fits1 m lock := by
  unfold signR fits1
  by_cases h8 : 8000 < lock.length
  · have : okT lock = false := by
      cases h : okT lock with
      | false => rfl
      | true => have := okT_len h; omega
    simp [h8, this]
  · rw [if_neg h8]
    cases h1 : signs m && okT lock with
    | false => simp
    | true =>
      simp only [if_true, Bool.true_and]
      cases hM : okT (mac1 m lock) with
      | true =>
        have hne := say_ne oMac [gate lock, body m.ps]
        simp only [if_true, decide_true, Bool.true_and]
        by_cases e : m.a = mac1 m lock
        · have : m.a ≠ [] := by rw [e]; exact hne
          simp [e]
          exact hne
        · have : ¬ mac1 m lock = m.a := fun h => e h.symm
          simp [e, this]
      | false =>
        simp only [Bool.false_eq_true, if_false]
        by_cases ha : m.a = []
        · simp [ha]
        · simp only [Bool.and_eq_true] at h1
          have h2 := mac_ok h1.1 ha
          have : ¬ m.a = mac1 m lock := fun h => by rw [h, hM] at h2; cases h2
          simp [this]
theorem fits2_eq (m : Lt) (cookie : Bs) : (decide ((twiceR m cookie).2 = 0) && decide ((twiceR m cookie).1.b = m.b)) = fits2 m cookie := by
  unfold twiceR fits2
  by_cases h8 : 8000 < cookie.length
  · have : okT cookie = false := by
      cases h : okT cookie with
      | false => rfl
      | true => have := okT_len h; omega
    simp [h8, this]
  · rw [if_neg h8]
    cases h1 : signs m && okT cookie with
    | false =>
      have : (signs m && decide (m.a ≠ []) && okT cookie) = false := by
        revert h1; cases signs m <;> cases okT cookie <;> simp
      rw [this]
      simp
    | true =>
      simp only [Bool.and_eq_true] at h1
      by_cases ha : m.a = []
      · have hb : m.b = [] := by
          have h := h1.1
          unfold signs right at h
          simp only [Bool.and_eq_true] at h
          obtain ⟨⟨⟨⟨_, _⟩, _⟩, h4⟩, h5⟩ := h
          unfold macs at h4
          rw [h5] at h4
          simp [macsR, ha] at h4
          exact h4
        simp [ha, hb]
      · have : (signs m && decide (m.a ≠ []) && okT cookie) = true := by simp [h1.1, h1.2, ha]
        simp only [this, if_true, Bool.true_and]
        cases hM : okT (mac2 m cookie) with
        | true =>
          have hne := say_ne oMac [cookie, say oPair [body m.ps, m.a]]
          simp only [if_true, decide_true, Bool.true_and]
          by_cases e : m.b = mac2 m cookie
          · have : m.b ≠ [] := by rw [e]; exact hne
            simp [e]
            exact hne
          · have : ¬ mac2 m cookie = m.b := fun h => e h.symm
            simp [e, this]
        | false =>
          simp only [Bool.false_eq_true, if_false]
          by_cases hb : m.b = []
          · simp [hb]
          · have h := h1.1
            unfold signs right at h
            simp only [Bool.and_eq_true] at h
            obtain ⟨⟨⟨⟨_, _⟩, _⟩, h4⟩, h5⟩ := h
            unfold macs at h4
            rw [h5] at h4
            simp [macsR, ha, hb] at h4
            have : ¬ m.b = mac2 m cookie := fun h => by rw [h, hM] at h4; exact absurd h4.2 (by simp)
            simp [this]
end Go.Proofs.YtdikjmhnjlalbaaGreat.ltp

/- Contracts of the methods args and op of the seven kinds of terms; how an interface value finds them. -/
namespace Go.Proofs.YtdikjmhnjlalbaaGreat.arg
open Go.RowKit Go.Proofs.YtdikjmhnjlalbaaGreat.tm Go.Proofs.YtdikjmhnjlalbaaGreat.lib Go.Proofs.YtdikjmhnjlalbaaGreat.rdr Go.Proofs.YtdikjmhnjlalbaaGreat.bld Go.Proofs.YtdikjmhnjlalbaaGreat.app
set_option linter.unusedVariables false

def ty : Tm → TypeId
  | .atom _ => 106
  | .pair _ _ => 112
  | .hash _ => 114
  | .mac _ _ => 116
  | .shut _ _ => 118
  | .pub _ => 121
  | .dh _ _ => 144

def inner : Tm → Value
  | .atom a => str a
  | .pair l r => .agg #[val l, val r]
  | .hash x => .agg #[val x]
  | .mac k x => .agg #[val k, val x]
  | .shut k x => .agg #[val k, val x]
  | .pub a => .agg #[str a]
  | .dh a b => .agg #[str a, str b]

def argsFn : Tm → FuncId
  | .atom _ => 146
  | .pair _ _ => 148
  | .hash _ => 150
  | .mac _ _ => 152
  | .shut _ _ => 154
  | .pub _ => 156
  | .dh _ _ => 160

def opFn : Tm → FuncId
  | .atom _ => 147
  | .pair _ _ => 149
  | .hash _ => 151
  | .mac _ _ => 153
  | .shut _ _ => 155
  | .pub _ => 157
  | .dh _ _ => 161

theorem val_eq (T : Tm) : val T = .iface (ty T) (inner T) := by cases T <;> rfl

theorem met_args (T : Tm) (w : World) : (method 286 (ty T) (inner T) "loop.example/g00784/impl.args").run Tryz.prog w = .ok (argsFn T, inner T) w := by
  cases T <;> kernel_rfl
theorem met_op (T : Tm) (w : World) : (method 286 (ty T) (inner T) "loop.example/g00784/impl.op").run Tryz.prog w = .ok (opFn T, inner T) w := by
  cases T <;> kernel_rfl
theorem inv_args (T : Tm) (w : World) : (callFunc (argsFn T) #[inner T]).run Tryz.prog w = .ok (.enter (argsFn T) #[inner T]) w := by
  cases T <;> kernel_rfl
theorem inv_op (T : Tm) (w : World) : (callFunc (opFn T) #[inner T]).run Tryz.prog w = .ok (.enter (opFn T) #[inner T]) w := by
  cases T <;> kernel_rfl

/-- A row just made. -/
theorem tms_new1 (w : World) (g : Nat) (hg : g = w.heap.size) (B : Nat) (hB : B ≤ w.heap.size) (x : Tm) (u : Value) (hu : u = val x) : Tms (w.alloc (.cells #[u] 84)) B (.slice (some ⟨g, 0, none⟩) 1 1) [x] := by
  subst hg
  subst hu
  exact ⟨rfl, .inr ⟨w.heap.size, 1, #[val x], rfl, hB, heap_alloc_new _ _, Nat.le_refl _, by unfold maxLen; omega, rfl, rfl⟩⟩
theorem tms_new2 (w : World) (g : Nat) (hg : g = w.heap.size) (B : Nat) (hB : B ≤ w.heap.size) (x y : Tm) (u v : Value) (hu : u = val x) (hv : v = val y) : Tms (w.alloc (.cells #[u, v] 84)) B (.slice (some ⟨g, 0, none⟩) 2 2) [x, y] := by
  subst hg
  subst hu
  subst hv
  exact ⟨rfl, .inr ⟨w.heap.size, 2, #[val x, val y], rfl, hB, heap_alloc_new _ _, Nat.le_refl _, by unfold maxLen; omega, rfl, rfl⟩⟩

def Kids (w : World) (ks : List Tm) (e : Ending) (w' : World) : Prop := ∃ v, e = .returned v ∧ Below w.heap.size w w' ∧ Tms w' w.heap.size v ks

set_option maxRecDepth 100000 in
theorem args_calls (T : Tm) (w : World) : Calls Tryz.prog (argsFn T) #[inner T] w (Kids w T.kids) := by
  cases T with
  | atom a =>
    simp only [argsFn, inner, Tm.kids]
    go_enter Tryz.func146, Tryz.ntmps146
    go_wp2_with fail
    go_ret
    exact ⟨_, rfl, Below.refl _ _, Tms.nil _ _⟩
  | pair x y =>
    simp only [argsFn, inner, Tm.kids]
    obtain ⟨tx, vx, ex⟩ := val_iface x
    obtain ⟨ty, vy, ey⟩ := val_iface y
    have EX := Lib.hid ex.symm
    have EY := Lib.hid ey.symm
    rw [ex, ey]
    clear ex ey
    go_enter Tryz.func148, Tryz.ntmps148
    go_wp2_with fail
    go_ret
    exact ⟨_, rfl, ((Below.refl _ _).alloc (Nat.le_refl _) _).alloc (by simp) _, tms_new2 (w.alloc _) _ (by simp) w.heap.size (by simp) x y _ _ EX.out EY.out⟩
  | hash x =>
    simp only [argsFn, inner, Tm.kids]
    obtain ⟨tx, vx, ex⟩ := val_iface x
    have EX := Lib.hid ex.symm
    rw [ex]
    clear ex
    go_enter Tryz.func150, Tryz.ntmps150
    go_wp2_with fail
    go_ret
    exact ⟨_, rfl, ((Below.refl _ _).alloc (Nat.le_refl _) _).alloc (by simp) _, tms_new1 (w.alloc _) _ (by simp) w.heap.size (by simp) x _ EX.out⟩
  | mac x y =>
    simp only [argsFn, inner, Tm.kids]
    obtain ⟨tx, vx, ex⟩ := val_iface x
    obtain ⟨ty, vy, ey⟩ := val_iface y
    have EX := Lib.hid ex.symm
    have EY := Lib.hid ey.symm
    rw [ex, ey]
    clear ex ey
    go_enter Tryz.func152, Tryz.ntmps152
    go_wp2_with fail
    go_ret
    exact ⟨_, rfl, ((Below.refl _ _).alloc (Nat.le_refl _) _).alloc (by simp) _, tms_new2 (w.alloc _) _ (by simp) w.heap.size (by simp) x y _ _ EX.out EY.out⟩
  | shut x y =>
    simp only [argsFn, inner, Tm.kids]
    obtain ⟨tx, vx, ex⟩ := val_iface x
    obtain ⟨ty, vy, ey⟩ := val_iface y
    have EX := Lib.hid ex.symm
    have EY := Lib.hid ey.symm
    rw [ex, ey]
    clear ex ey
    go_enter Tryz.func154, Tryz.ntmps154
    go_wp2_with fail
    go_ret
    exact ⟨_, rfl, ((Below.refl _ _).alloc (Nat.le_refl _) _).alloc (by simp) _, tms_new2 (w.alloc _) _ (by simp) w.heap.size (by simp) x y _ _ EX.out EY.out⟩
  | pub a =>
    simp only [argsFn, inner, Tm.kids]
    go_enter Tryz.func156, Tryz.ntmps156
    go_wp2_with fail
    go_ret
    exact ⟨_, rfl, ((Below.refl _ _).alloc (Nat.le_refl _) _).alloc (by simp) _, tms_new1 (w.alloc _) _ (by simp) w.heap.size (by simp) (.atom a) _ rfl⟩
  | dh a b =>
    simp only [argsFn, inner, Tm.kids]
    go_enter Tryz.func160, Tryz.ntmps160
    go_wp2_with fail
    go_ret
    exact ⟨_, rfl, ((Below.refl _ _).alloc (Nat.le_refl _) _).alloc (by simp) _, tms_new2 (w.alloc _) _ (by simp) w.heap.size (by simp) (.atom a) (.atom b) _ _ rfl rfl⟩

set_option maxRecDepth 100000 in
theorem op_calls (T : Tm) (w : World) : Calls Tryz.prog (opFn T) #[inner T] w fun e w' => e = .returned (str T.op) ∧ Below w.heap.size w w' := by
  cases T with
  | atom a =>
    simp only [opFn, inner, Tm.op]
    go_enter Tryz.func147, Tryz.ntmps147
    go_wp2_with fail
    go_ret
    first | exact ⟨rfl, Below.refl _ _⟩ | exact ⟨rfl, (Below.refl _ _).alloc (Nat.le_refl _) _⟩
  | pair x y =>
    simp only [opFn, inner, Tm.op]
    obtain ⟨tx, vx, ex⟩ := val_iface x
    rw [ex]
    clear ex
    obtain ⟨ty, vy, ey⟩ := val_iface y
    rw [ey]
    clear ey
    go_enter Tryz.func149, Tryz.ntmps149
    go_wp2_with fail
    go_ret
    first | exact ⟨rfl, Below.refl _ _⟩ | exact ⟨rfl, (Below.refl _ _).alloc (Nat.le_refl _) _⟩
  | hash x =>
    simp only [opFn, inner, Tm.op]
    obtain ⟨tx, vx, ex⟩ := val_iface x
    rw [ex]
    clear ex
    go_enter Tryz.func151, Tryz.ntmps151
    go_wp2_with fail
    go_ret
    first | exact ⟨rfl, Below.refl _ _⟩ | exact ⟨rfl, (Below.refl _ _).alloc (Nat.le_refl _) _⟩
  | mac x y =>
    simp only [opFn, inner, Tm.op]
    obtain ⟨tx, vx, ex⟩ := val_iface x
    rw [ex]
    clear ex
    obtain ⟨ty, vy, ey⟩ := val_iface y
    rw [ey]
    clear ey
    go_enter Tryz.func153, Tryz.ntmps153
    go_wp2_with fail
    go_ret
    first | exact ⟨rfl, Below.refl _ _⟩ | exact ⟨rfl, (Below.refl _ _).alloc (Nat.le_refl _) _⟩
  | shut x y =>
    simp only [opFn, inner, Tm.op]
    obtain ⟨tx, vx, ex⟩ := val_iface x
    rw [ex]
    clear ex
    obtain ⟨ty, vy, ey⟩ := val_iface y
    rw [ey]
    clear ey
    go_enter Tryz.func155, Tryz.ntmps155
    go_wp2_with fail
    go_ret
    first | exact ⟨rfl, Below.refl _ _⟩ | exact ⟨rfl, (Below.refl _ _).alloc (Nat.le_refl _) _⟩
  | pub a =>
    simp only [opFn, inner, Tm.op]
    go_enter Tryz.func157, Tryz.ntmps157
    go_wp2_with fail
    go_ret
    first | exact ⟨rfl, Below.refl _ _⟩ | exact ⟨rfl, (Below.refl _ _).alloc (Nat.le_refl _) _⟩
  | dh a b =>
    simp only [opFn, inner, Tm.op]
    go_enter Tryz.func161, Tryz.ntmps161
    go_wp2_with fail
    go_ret
    first | exact ⟨rfl, Below.refl _ _⟩ | exact ⟨rfl, (Below.refl _ _).alloc (Nat.le_refl _) _⟩
theorem Tms.one' {w : World} {B : Nat} {v : Value} {x : Tm} (h : Tms w B v [x]) : ∃ g cap, v = .slice (some ⟨g, 0, none⟩) 1 cap ∧ w.cell? ⟨g, 0, none⟩ = some (val x) ∧ g < w.heap.size := by
  obtain ⟨g, cap, e, c⟩ := Tms.one h
  exact ⟨g, cap, e, c, (World.ownsRow.lt h g (by rw [e]; rfl)).2⟩
theorem Tms.two' {w : World} {B : Nat} {v : Value} {x y : Tm} (h : Tms w B v [x, y]) : ∃ g cap, v = .slice (some ⟨g, 0, none⟩) 2 cap ∧ w.cell? ⟨g, 0, none⟩ = some (val x) ∧ w.cell? ⟨g, 1, none⟩ = some (val y) ∧ g < w.heap.size := by
  obtain ⟨g, cap, e, c, c'⟩ := Tms.two h
  exact ⟨g, cap, e, c, c', (World.ownsRow.lt h g (by rw [e]; rfl)).2⟩

end Go.Proofs.YtdikjmhnjlalbaaGreat.arg

/- Contracts of textOf and argTexts of the program. -/
namespace Go.Proofs.YtdikjmhnjlalbaaGreat.txt
open Go.RowKit Go.Proofs.YtdikjmhnjlalbaaGreat.tm Go.Proofs.YtdikjmhnjlalbaaGreat.lib Go.Proofs.YtdikjmhnjlalbaaGreat.rdr Go.Proofs.YtdikjmhnjlalbaaGreat.bld Go.Proofs.YtdikjmhnjlalbaaGreat.app Go.Proofs.YtdikjmhnjlalbaaGreat.arg
set_option linter.unusedVariables false

def TX (T : Tm) : Prop := ∀ w, Calls Tryz.prog 76 #[val T] w fun e w' => e = .returned (str T.tx) ∧ Below w.heap.size w w'
def AT (T : Tm) : Prop := ∀ w, Calls Tryz.prog 89 #[val T] w fun e w' => ∃ v, e = .returned v ∧ Below w.heap.size w w' ∧ Strs w' w.heap.size v (T.kids.map Tm.tx)

theorem kids_node (T : Tm) (h : T.isAtom = false) : (∃ x, T.kids = [x]) ∨ (∃ x y, T.kids = [x, y]) := by
  cases T with
  | atom a => cases h
  | pair x y => exact .inr ⟨x, y, rfl⟩
  | hash x => exact .inl ⟨x, rfl⟩
  | mac x y => exact .inr ⟨x, y, rfl⟩
  | shut x y => exact .inr ⟨x, y, rfl⟩
  | pub a => exact .inl ⟨.atom a, rfl⟩
  | dh a b => exact .inr ⟨.atom a, .atom b, rfl⟩

set_option maxHeartbeats 1000000 in
set_option maxRecDepth 100000 in
theorem at_node (T : Tm) (hn : T.isAtom = false) (ih : ∀ k ∈ T.kids, TX k) : AT T := by
  intro w
  have h1 := met_args T
  have h2 := inv_args T
  have h3 := args_calls T w
  rw [val_eq]
  rcases kids_node T hn with ⟨x, e1⟩ | ⟨x, y, e1⟩
  · rw [e1] at h3 ⊢
    have ix := ih x (by rw [e1]; simp)
    unfold TX at ix
    simp only [List.map_cons, List.map_nil]
    obtain ⟨X, hX⟩ : ∃ X, X = x.tx := ⟨_, rfl⟩
    rw [← hX] at ix ⊢
    clear e1 ih hn hX
    go_enter Tryz.func89, Tryz.ntmps89
    go_wp2_with fail
    refine h3.mono ?_
    rintro e w1 ⟨v, rfl, hb, hk⟩
    obtain ⟨g, cap, rfl, c0, hg⟩ := Tms.one' hk
    have HB := Lib.hid hb
    clear hb hk
    go_wp2_with fail
    refine wp_loop_rounds 2 ?_
    rw [rounds_succ]
    go_wp2_with fail
    refine (ix _).mono ?_
    rintro e w2 ⟨rfl, hb2⟩
    have HB2 := Lib.hid (HB.out.trans (hb2.mono HB.out.size))
    have hz := HB2.out.size
    clear hb2 c0
    go_wp2_with (at_builtin; refine wp_putS (.tmp 13) (.tmp 16) X w.heap.size _ [] rfl rfl rfl (Strs.nil _ _) rfl (by simp) hz ?_; intro v3 w3 t3 b3)
    have HB3 := Lib.hid (HB2.out.trans b3)
    have T3 := Lib.hid t3
    clear b3 t3
    rw [rounds_succ]
    go_wp2_with fail
    go_ret
    exact ⟨_, rfl, HB3.out, T3.out⟩
  · rw [e1] at h3 ⊢
    have ix := ih x (by rw [e1]; simp)
    have iy := ih y (by rw [e1]; simp)
    unfold TX at ix iy
    simp only [List.map_cons, List.map_nil]
    obtain ⟨X, hX⟩ : ∃ X, X = x.tx := ⟨_, rfl⟩
    obtain ⟨Y, hY⟩ : ∃ Y, Y = y.tx := ⟨_, rfl⟩
    rw [← hX] at ix ⊢
    rw [← hY] at iy ⊢
    clear e1 ih hn hX hY
    go_enter Tryz.func89, Tryz.ntmps89
    go_wp2_with fail
    refine h3.mono ?_
    rintro e w1 ⟨v, rfl, hb, hk⟩
    obtain ⟨g, cap, rfl, c0, c1, hg⟩ := Tms.two' hk
    have HB := Lib.hid hb
    clear hb hk
    go_wp2_with fail
    refine wp_loop_rounds 3 ?_
    rw [rounds_succ]
    go_wp2_with fail
    refine (ix _).mono ?_
    rintro e w2 ⟨rfl, hb2⟩
    have HB2 := Lib.hid (HB.out.trans (hb2.mono HB.out.size))
    have k1 := hb2.cell (p := ⟨g, 1, none⟩) hg
    rw [c1] at k1
    have hz := HB2.out.size
    have hg2 : g < w2.heap.size := Nat.lt_of_lt_of_le hg hb2.size
    clear hb2 c0 c1 hg
    go_wp2_with (at_builtin; refine wp_putS (.tmp 13) (.tmp 16) X w2.heap.size _ [] rfl rfl rfl (Strs.nil _ _) rfl (by simp) (Nat.le_refl _) ?_; intro v3 w3 t3 b3)
    have HB3 := Lib.hid (HB2.out.trans (b3.mono hz))
    have T3 := Lib.hid t3
    have m1 := b3.cell (p := ⟨g, 1, none⟩) hg2
    rw [k1] at m1
    have hz3 := HB3.out.size
    have hz32 := b3.size
    clear b3 t3 k1
    rw [rounds_succ]
    go_wp2_with fail
    refine (iy _).mono ?_
    rintro e w4 ⟨rfl, hb4⟩
    have HB4 := Lib.hid (HB3.out.trans (hb4.mono HB3.out.size))
    have T4 := Lib.hid (Strs.below T3.out hb4)
    have hz4 : w2.heap.size ≤ w4.heap.size := Nat.le_trans hz32 hb4.size
    clear hb4 m1
    go_wp2_with (at_builtin; refine wp_putS (.tmp 13) (.tmp 16) Y w2.heap.size _ [X] rfl rfl rfl T4.out rfl (by simp) hz4 ?_; intro v5 w5 t5 b5)
    have HB5 := Lib.hid (HB4.out.trans (b5.mono hz))
    have T5 := Lib.hid t5
    clear b5 t5
    rw [rounds_succ]
    go_wp2_with fail
    go_ret
    exact ⟨_, rfl, HB5.out, own_base T5.out hz⟩
end Go.Proofs.YtdikjmhnjlalbaaGreat.txt

/- Contract of textOf of the program: the text of a term. -/
namespace Go.Proofs.YtdikjmhnjlalbaaGreat.txo
open Go.RowKit Go.Proofs.YtdikjmhnjlalbaaGreat.tm Go.Proofs.YtdikjmhnjlalbaaGreat.lib Go.Proofs.YtdikjmhnjlalbaaGreat.rdr Go.Proofs.YtdikjmhnjlalbaaGreat.bld Go.Proofs.YtdikjmhnjlalbaaGreat.app Go.Proofs.YtdikjmhnjlalbaaGreat.arg Go.Proofs.YtdikjmhnjlalbaaGreat.txt
set_option linter.unusedVariables false

set_option maxRecDepth 100000 in
theorem tx_atom (a : Bs) : TX (.atom a) := by
  intro w
  have h1 := as_atom a
  simp only [val] at h1 ⊢
  go_enter Tryz.func76, Tryz.ntmps76
  go_wp2_with fail
  go_ret
  exact ⟨rfl, Below.refl _ _⟩

def joined : List Bs → Bs
  | [] => []
  | [a] => a
  | a :: l => a ++ 32 :: joined l

/-- Join by a blank. -/
theorem join_at (w : World) (B : Nat) (v : Value) (ls : List Bs) (h : Strs w B v ls) (hl : ls = [] ∨ (∃ a, ls = [a]) ∨ (∃ a b, ls = [a, b])) (hs : (joined ls).length ≤ 1000000) :
    Calls Tryz.prog 84 #[v, .string ⟨#[32]⟩] w fun e w' => e = .returned (str (joined ls)) ∧ Below w.heap.size w w' := by
  have hf : (v = .slice none 0 0 ∧ ls = []) ∨ ∃ g cap, v = .slice (some ⟨g, 0, none⟩) ls.length cap ∧ (∀ j l, ls[j]? = some l → w.cell? ⟨g, j, none⟩ = some (str l)) ∧ g < w.heap.size ∧ ls.length ≤ cap := by
    have h' := h
    obtain ⟨hl, h⟩ := h
    rcases h with ⟨rfl, h⟩ | ⟨g, cap, cur, rfl, hg, hh, hc1, hc2, hc3, hc4⟩
    · exact .inl ⟨rfl, List.eq_nil_of_length_eq_zero h⟩
    · refine .inr ⟨g, cap, rfl, fun j T hj => ?_, (World.ownsRow.lt h' g rfl).2, hc1⟩
      have := World.ownsRow.cells h' (g := g) rfl j (str T) (by rw [List.getElem?_map, hj]; rfl)
      rw [Addr.add_lit, Nat.zero_add] at this
      exact this
  rcases hf with ⟨rfl, rfl⟩ | ⟨g, cap, rfl, hc, hg, hcap⟩
  · exact (shj.join_none none 0 _ w).mono fun e w' ⟨h1, h2⟩ => ⟨h1, by rw [h2]; exact Below.refl _ _⟩
  · have ej : Lib.join ((ls.map fun l : Bs => (⟨l.toArray⟩ : ByteArray)).map (·.data.toList)) (⟨#[32]⟩ : ByteArray).data.toList = joined ls := by
      rcases hl with rfl | ⟨a, rfl⟩ | ⟨a, b, rfl⟩
      · rfl
      · simp [Lib.join, joined]
      · simp [Lib.join, joined]
    have := shj.join_some g 0 cap (ls.map fun l : Bs => ⟨l.toArray⟩) ⟨#[32]⟩ w (fun j x hx => by
      rw [List.getElem?_map] at hx
      cases hq : ls[j]? with
      | none => rw [hq] at hx; cases hx
      | some l => rw [hq] at hx; cases hx; rw [Nat.zero_add]; exact hc j l hq) hg (by rcases hl with rfl | ⟨a, rfl⟩ | ⟨a, b, rfl⟩ <;> simp) (by rw [List.length_map]; exact hcap) (by rw [ej]; omega)
    rw [ej, List.length_map] at this
    exact this

theorem joined_say (T : Tm) (h : T.isAtom = false) : 91 :: T.op ++ 32 :: joined (T.kids.map Tm.tx) ++ [93] = T.tx := by
  rw [tx_say T h]
  unfold say
  rcases kids_node T h with ⟨x, e⟩ | ⟨x, y, e⟩
  · rw [e]; simp [joined]
  · rw [e]; simp [joined]

theorem joined_len (T : Tm) (h : T.isAtom = false) : (joined (T.kids.map Tm.tx)).length ≤ T.tx.length := by
  rw [← joined_say T h]
  simp
  omega

theorem kids_three (T : Tm) (h : T.isAtom = false) : (T.kids.map Tm.tx = [] ∨ (∃ a, T.kids.map Tm.tx = [a]) ∨ (∃ a b, T.kids.map Tm.tx = [a, b])) := by
  rcases kids_node T h with ⟨x, e⟩ | ⟨x, y, e⟩
  · rw [e]; exact .inr (.inl ⟨_, rfl⟩)
  · rw [e]; exact .inr (.inr ⟨_, _, rfl⟩)

theorem add_at (a b c : Bs) (h : a ++ b = c) (hl : c.length ≤ 100000000) (w : World) : (Op.stringOp .add ⟨a.toArray⟩ ⟨b.toArray⟩).run Tryz.prog w = .ok (.string ⟨c.toArray⟩) w := by
  have hc := congrArg List.length h
  rw [List.length_append] at hc
  rw [run_string_add_sum w _ _ (by show a.toArray.size + b.toArray.size ≤ _; simp; omega), ← h, ByteArray.mk_append_mk]

theorem op_len (T : Tm) : T.op.length ≤ 4 := by cases T <;> simp [Tm.op, oPair, oHash, oMac, oShut, oPub, oDh]

theorem joined_of (op : Bs) (ls : List Bs) (h : (∃ a, ls = [a]) ∨ (∃ a b, ls = [a, b])) : 91 :: op ++ 32 :: joined ls ++ [93] = say op ls := by
  rcases h with ⟨a, rfl⟩ | ⟨a, b, rfl⟩ <;> simp [joined, say]

set_option maxHeartbeats 1000000 in
set_option maxRecDepth 100000 in
/-- opText, where its args lie in a row that strings.Join takes. -/
theorem opText_of (op : Bs) (v : Value) (ls : List Bs) (w : World) (hc : (∃ a, ls = [a]) ∨ (∃ a b, ls = [a, b])) (hop : op.length ≤ 10000) (hl : (joined ls).length ≤ 1000000)
    (HJ : Calls Tryz.prog 84 #[v, .string ⟨#[32]⟩] w fun e w' => e = .returned (str (joined ls)) ∧ Below w.heap.size w w') :
    Calls Tryz.prog 69 #[str op, v] w fun e w' => e = .returned (str (say op ls)) ∧ Below w.heap.size w w' := by
  have hsay := joined_of op ls hc
  obtain ⟨J, hJ⟩ : ∃ J, J = joined ls := ⟨_, rfl⟩
  obtain ⟨X, hX⟩ : ∃ X, X = say op ls := ⟨_, rfl⟩
  obtain ⟨S1, hS1⟩ : ∃ S, 91 :: op = S := ⟨_, rfl⟩
  obtain ⟨S2, hS2⟩ : ∃ S, S1 ++ [32] = S := ⟨_, rfl⟩
  obtain ⟨S3, hS3⟩ : ∃ S, S2 ++ J = S := ⟨_, rfl⟩
  rw [← hJ] at hsay hl HJ
  rw [← hX] at hsay ⊢
  have l1 : S1.length ≤ 10001 := by rw [← hS1]; simp; omega
  have l2 : S2.length ≤ 10002 := by rw [← hS2]; simp; omega
  have l3 : S3.length ≤ 2000000 := by rw [← hS3]; simp; omega
  have e4 : S3 ++ [93] = X := by rw [← hS3, ← hS2, ← hS1, ← hsay]; simp
  have l4 : X.length ≤ 2000001 := by rw [← e4]; simp; omega
  have f1 := add_at [91] op S1 hS1 (by omega)
  have f2 := add_at S1 [32] S2 hS2 (by omega)
  have f3 := add_at S2 J S3 hS3 (by omega)
  have f4 := add_at S3 [93] X e4 (by omega)
  have HJ2 := Lib.hid HJ
  clear HJ hc hJ hX hS1 hS2 hS3 hsay hop l1 l2 l3 l4 e4 hl
  go_enter Tryz.func69, Tryz.ntmps69
  go_wp2_with fail
  refine HJ2.out.mono ?_
  rintro e w3 ⟨rfl, hb3⟩
  have HB3 := Lib.hid hb3
  clear hb3
  go_wp2_with fail
  go_ret
  exact ⟨rfl, HB3.out⟩

/-- .. in a row of the call's own. -/
theorem opText_own (op : Bs) (B : Nat) (v : Value) (ls : List Bs) (w : World) (h : Strs w B v ls) (hc : (∃ a, ls = [a]) ∨ (∃ a b, ls = [a, b])) (hop : op.length ≤ 10000) (hl : (joined ls).length ≤ 1000000) :
    Calls Tryz.prog 69 #[str op, v] w fun e w' => e = .returned (str (say op ls)) ∧ Below w.heap.size w w' :=
  opText_of op v ls w hc hop hl (join_at w B v ls h (.inr hc) hl)

/-- .. of two texts that lie somewhere. -/
theorem opText_two (op x y : Bs) (g cap : Nat) (w : World) (c0 : w.cell? ⟨g, 0, none⟩ = some (str x)) (c1 : w.cell? ⟨g, 1, none⟩ = some (str y)) (hg : g < w.heap.size) (hcap : 2 ≤ cap) (hop : op.length ≤ 10000) (hx : x.length ≤ 400000) (hy : y.length ≤ 400000) :
    Calls Tryz.prog 69 #[str op, .slice (some ⟨g, 0, none⟩) 2 cap] w fun e w' => e = .returned (str (say op [x, y])) ∧ Below w.heap.size w w' := by
  refine opText_of op _ [x, y] w (.inr ⟨x, y, rfl⟩) hop (by simp [joined]; omega) ?_
  have ej : Lib.join (([x, y].map fun l : Bs => (⟨l.toArray⟩ : ByteArray)).map (·.data.toList)) (⟨#[32]⟩ : ByteArray).data.toList = joined [x, y] := by simp [Lib.join, joined]
  have := shj.join_some g 0 cap ([x, y].map fun l : Bs => ⟨l.toArray⟩) ⟨#[32]⟩ w (fun j z hz => by
    match j, hz with
    | 0, hz => simp at hz; subst hz; exact c0
    | 1, hz => simp at hz; subst hz; exact c1
    | j + 2, hz => simp at hz) hg (by simp) (by simpa using hcap) (by rw [ej]; simp [joined]; omega)
  rw [ej] at this
  exact this

set_option maxHeartbeats 1000000 in
set_option maxRecDepth 100000 in
theorem tx_node (T : Tm) (hn : T.isAtom = false) (hl : T.tx.length ≤ 1000000) (ih : ∀ k ∈ T.kids, TX k) : TX T := by
  intro w
  have h0 := as_atom_no T hn
  have h1 := met_op T
  have h2 := inv_op T
  have h3 := op_calls T
  have h4 := at_node T hn ih
  unfold AT at h4
  have hk2 : (∃ a, T.kids.map Tm.tx = [a]) ∨ (∃ a b, T.kids.map Tm.tx = [a, b]) := by
    rcases kids_node T hn with ⟨x, e⟩ | ⟨x, y, e⟩
    · exact .inl ⟨x.tx, by rw [e]; rfl⟩
    · exact .inr ⟨x.tx, y.tx, by rw [e]; rfl⟩
  have HO := fun w v B h => opText_own T.op B v (T.kids.map Tm.tx) w h hk2 (by have := op_len T; omega) (Nat.le_trans (joined_len T hn) hl)
  rw [← tx_say T hn] at HO
  obtain ⟨O, hO⟩ : ∃ O, O = T.op := ⟨_, rfl⟩
  obtain ⟨X, hX⟩ : ∃ X, X = T.tx := ⟨_, rfl⟩
  simp only [← hO] at h3 HO
  rw [← hX] at HO ⊢
  rw [val_eq] at h0 h4 ⊢
  have HO2 := Lib.hid HO
  clear HO hn ih hO hX hk2 hl
  go_enter Tryz.func76, Tryz.ntmps76
  go_wp2_with fail
  refine (h3 _).mono ?_
  rintro e w1 ⟨rfl, hb⟩
  have HB := Lib.hid hb
  clear hb
  go_wp2_with fail
  refine (h4 _).mono ?_
  rintro e w2 ⟨v, rfl, hb2, hs⟩
  have HB2 := Lib.hid (HB.out.trans (hb2.mono HB.out.size))
  have HS := Lib.hid hs
  clear hb2 hs
  go_wp2_with fail
  refine (HO2.out _ _ _ HS.out).mono ?_
  rintro e w3 ⟨rfl, hb3⟩
  have HB3 := Lib.hid (HB2.out.trans (hb3.mono HB2.out.size))
  clear hb3
  go_wp2_with fail
  go_ret
  exact ⟨rfl, HB3.out⟩

theorem tx_all : ∀ n (T : Tm), T.deep ≤ n → T.tx.length ≤ 1000000 → TX T
  | 0, T, h, _ => by have := deep_pos T; omega
  | n + 1, T, h, hl => by
    rcases isAtom_cases T with hn | ⟨a, rfl⟩
    · refine tx_node T hn hl fun k hk => tx_all n k (by have := kid_deep hk; omega) ?_
      have := joined_len T hn
      have : k.tx.length ≤ (joined (T.kids.map Tm.tx)).length := by
        rcases kids_node T hn with ⟨x, e⟩ | ⟨x, y, e⟩
        · rw [e] at hk ⊢; simp at hk; subst hk; simp [joined]
        · rw [e] at hk ⊢; simp at hk; rcases hk with rfl | rfl <;> simp [joined] <;> omega
      omega
    · exact tx_atom a

theorem textOf_calls (T : Tm) (h : T.tx.length ≤ 1000000) (w : World) : Calls Tryz.prog 76 #[val T] w fun e w' => e = .returned (str T.tx) ∧ Below w.heap.size w w' := tx_all T.deep T (Nat.le_refl _) h w

theorem argTexts_calls (T : Tm) (hn : T.isAtom = false) (h : T.tx.length ≤ 1000000) (w : World) : Calls Tryz.prog 89 #[val T] w fun e w' => ∃ v, e = .returned v ∧ Below w.heap.size w w' ∧ Strs w' w.heap.size v (T.kids.map Tm.tx) := by
  refine at_node T hn (fun k hk => tx_all k.deep k (Nat.le_refl _) ?_) w
  have := joined_len T hn
  have : k.tx.length ≤ (joined (T.kids.map Tm.tx)).length := by
    rcases kids_node T hn with ⟨x, e⟩ | ⟨x, y, e⟩
    · rw [e] at hk ⊢; simp at hk; subst hk; simp [joined]
    · rw [e] at hk ⊢; simp at hk; rcases hk with rfl | rfl <;> simp [joined] <;> omega
  omega
end Go.Proofs.YtdikjmhnjlalbaaGreat.txo

/- Small frames; a text and a code as a value. -/
namespace Go.Proofs.YtdikjmhnjlalbaaGreat.sop
open Go.RowKit Go.Proofs.YtdikjmhnjlalbaaGreat.tm Go.Proofs.YtdikjmhnjlalbaaGreat.lib Go.Proofs.YtdikjmhnjlalbaaGreat.rdr Go.Proofs.YtdikjmhnjlalbaaGreat.bld Go.Proofs.YtdikjmhnjlalbaaGreat.app
set_option linter.unusedVariables false

theorem fin2 {w w3 : World} {o0 : Obj} (h : Below (w.alloc o0).heap.size (w.alloc o0) w3) (a b : Value) (o : Obj) : Below w.heap.size w (((w3.setCell ⟨w.heap.size, 0, none⟩ a).setCell ⟨w.heap.size, 1, none⟩ b).alloc o) := by
  have hz := h.size
  simp at hz
  exact (((((Below.refl _ _).alloc (Nat.le_refl _) _).trans (h.mono (by simp))).setCell (by simp) _).setCell (by simp) _).alloc (by simp [World.setCell]; omega) _
theorem fin3 {w w3 : World} {o0 : Obj} (h : Below (w.alloc o0).heap.size (w.alloc o0) w3) (a b : Value) : Below w.heap.size w ((w3.setCell ⟨w.heap.size, 0, none⟩ a).setCell ⟨w.heap.size, 1, none⟩ b) :=
  ((((Below.refl _ _).alloc (Nat.le_refl _) _).trans (h.mono (by simp))).setCell (by simp) _).setCell (by simp) _

def outVal (r : Bs) (c : Int) : Value := .agg #[str r, .int .i64 c]

end Go.Proofs.YtdikjmhnjlalbaaGreat.sop
