/- Letters as plain data: what is right, the body, the macs, what is signed. Nothing here speaks of the program. -/
import Derived.Test.YtonjohlecomeoaaMkp
import Derived.Test.YtonjohlecomeoaaLtq
import Derived.Test.YtonjohlecomeoaaLtv
import Derived.Test.YtonjohlecomeoaaLtn
namespace Go.Proofs.Ytonjohlecomeoaa.ltp
open Go Go.RowKit Go.Proofs.Ytonjohlecomeoaa.tm Go.Proofs.Ytonjohlecomeoaa.spm Go.Proofs.Ytonjohlecomeoaa.mkp Go.Proofs.Ytonjohlecomeoaa.ltq Go.Proofs.Ytonjohlecomeoaa.ltv
set_option linter.unusedVariables false

/-- The macs of a kind that is signed. -/
def macsR (a b : Bs) : Bool := if a = [] then decide (b = []) else okT a && (decide (b = []) || okT b)
/-- how many parts a kind has; is it signed? -/
def parts (k : Int) : Nat := if k = 1 then 3 else if k = 2 then 2 else 1
def signed (k : Int) : Bool := decide (k = 1) || decide (k = 2)
def isKind (k : Int) : Bool := decide (1 ≤ k) && decide (k ≤ 4)
def nums (m : Lt) : Bool :=
  if m.k = 1 then endR m.f && decide (m.t = 0) && decide (m.c = 0)
  else if m.k = 2 then endR m.f && endR m.t && decide (m.c = 0)
  else if m.k = 3 then decide (m.f = 0) && endR m.t && decide (m.c = 0)
  else decide (m.f = 0) && endR m.t && timeR m.c
def partsR (m : Lt) : Bool := decide (m.ps.length = parts m.k) && m.ps.all okT
def macs (m : Lt) : Bool := if signed m.k then macsR m.a m.b else decide (m.a = []) && decide (m.b = [])
def right (m : Lt) : Bool := isKind m.k && nums m && partsR m && macs m

/-- The body of a letter's parts. -/
def body : List Bs → Bs
  | [] => []
  | [x] => x
  | x :: l => say oPair [x, body l]

def oGate : Bs := [103, 97, 116, 101]
def gate (lock : Bs) : Bs := say oHash [say oPair [oGate, lock]]
def gateR (lock : Bs) : Bs := if okT lock && okT (gate lock) then gate lock else []
def mac1 (m : Lt) (lock : Bs) : Bs := say oMac [gate lock, body m.ps]
def mac2 (m : Lt) (cookie : Bs) : Bs := say oMac [cookie, say oPair [body m.ps, m.a]]
def signs (m : Lt) : Bool := right m && signed m.k

def none0 : Lt := ⟨0, 0, 0, 0, [], [], []⟩
def signR (m : Lt) (lock : Bs) : Lt × Int :=
  if 8000 < lock.length then (none0, 2)
  else if signs m && okT lock then (if okT (mac1 m lock) then ({ m with a := mac1 m lock, b := [] }, 0) else (none0, 9))
  else (none0, 1)
def twiceR (m : Lt) (cookie : Bs) : Lt × Int :=
  if 8000 < cookie.length then (none0, 2)
  else if signs m && decide (m.a ≠ []) && okT cookie then (if okT (mac2 m cookie) then ({ m with b := mac2 m cookie }, 0) else (none0, 9))
  else (none0, 1)
def fits1 (m : Lt) (lock : Bs) : Bool := signs m && okT lock && decide (m.a ≠ []) && decide (m.a = mac1 m lock)
def fits2 (m : Lt) (cookie : Bs) : Bool := signs m && okT cookie && decide (m.b ≠ []) && decide (m.b = mac2 m cookie)

/-! ### as terms -/
def bodyT : List Tm → Tm
  | [] => .atom []
  | [x] => x
  | x :: l => .pair x (bodyT l)

theorem bodyT_tx : ∀ (l : List Tm), (bodyT l).tx = body (l.map Tm.tx)
  | [] => rfl
  | [x] => rfl
  | x :: y :: l => by
    have := bodyT_tx (y :: l)
    simp only [bodyT, Tm.tx, List.map_cons, body] at this ⊢
    rw [this]
theorem bodyT_ok : ∀ (l : List Tm), l ≠ [] → (∀ T ∈ l, T.ok) → (bodyT l).ok
  | [], h, _ => absurd rfl h
  | [x], _, h => h x (by simp)
  | x :: y :: l, _, h => ⟨h x (by simp), bodyT_ok (y :: l) (by simp) fun T hT => h T (by simp [List.mem_cons.1 hT])⟩

theorem all_terms : ∀ (l : List Bs), l.all okT = true → ∃ Ts : List Tm, Ts.map Tm.tx = l ∧ ∀ T ∈ Ts, T.ok ∧ T.tx.length ≤ 3000
  | [], _ => ⟨[], rfl, fun T h => by cases h⟩
  | a :: l, h => by
    simp only [List.all_cons, Bool.and_eq_true] at h
    obtain ⟨Ts, h1, h2⟩ := all_terms l h.2
    obtain ⟨T, hT⟩ := Option.isSome_iff_exists.1 h.1
    obtain ⟨b1, b2, b3, b4⟩ := term_some.1 hT
    refine ⟨T :: Ts, by rw [List.map_cons, b4, h1], fun U hU => ?_⟩
    rcases List.mem_cons.1 hU with rfl | hU
    · exact ⟨b2, by rw [b4]; exact b1⟩
    · exact h2 U hU

theorem okT_tx {T : Tm} (h : T.ok) : okT T.tx = decide (T.tx.length ≤ 3000 ∧ T.deep ≤ 24) := term_tx h

theorem gate_tx (L : Tm) : gate L.tx = (Tm.hash (.pair (.atom oGate) L)).tx := rfl
theorem gate_atom : (Tm.atom oGate).ok := (by decide : atomR oGate = true)
theorem gate_ok {L : Tm} (h : L.ok) : (Tm.hash (.pair (.atom oGate) L)).ok := ⟨gate_atom, h⟩

theorem okT_some {l : Bs} (h : okT l = true) : ∃ T : Tm, T.ok ∧ T.tx = l ∧ l.length ≤ 3000 ∧ T.deep ≤ 24 := by
  obtain ⟨T, hT⟩ := Option.isSome_iff_exists.1 h
  obtain ⟨b1, b2, b3, b4⟩ := term_some.1 hT
  exact ⟨T, b2, b4, b1, b3⟩
theorem okT_len {l : Bs} (h : okT l = true) : l.length ≤ 3000 := (okT_some h).choose_spec.2.2.1
theorem okT_ne {l : Bs} (h : okT l = true) : l ≠ [] := by
  rintro rfl
  revert h
  decide
theorem okT_nil : okT [] = false := by decide

theorem say_ne (op : Bs) (l : List Bs) : say op l ≠ [] := by simp [say]

/-- Of what is right the parts are. -/
theorem pair_right {X Y : Tm} (hX : X.ok) (hY : Y.ok) {op : Bs} (ho : op = oPair ∨ op = oMac ∨ op = oShut) (h : okT (say op [X.tx, Y.tx]) = true) : okT X.tx = true ∧ okT Y.tx = true := by
  have key : ∀ T : Tm, T.ok → T.tx = say op [X.tx, Y.tx] → X.deep ≤ T.deep → Y.deep ≤ T.deep → okT X.tx = true ∧ okT Y.tx = true := fun T hT e d1 d2 => by
    rw [← e, okT_tx hT] at h
    have h := of_decide_eq_true h
    have hl := congrArg List.length e
    simp [say] at hl
    rw [okT_tx hX, okT_tx hY]
    exact ⟨decide_eq_true (by omega), decide_eq_true (by omega)⟩
  rcases ho with rfl | rfl | rfl
  · exact key (.pair X Y) ⟨hX, hY⟩ rfl (by simp [Tm.deep]; omega) (by simp [Tm.deep]; omega)
  · exact key (.mac X Y) ⟨hX, hY⟩ rfl (by simp [Tm.deep]; omega) (by simp [Tm.deep]; omega)
  · exact key (.shut X Y) ⟨hX, hY⟩ rfl (by simp [Tm.deep]; omega) (by simp [Tm.deep]; omega)
theorem hash_right {X : Tm} (hX : X.ok) (h : okT (say oHash [X.tx]) = true) : okT X.tx = true := by
  rw [show say oHash [X.tx] = (Tm.hash X).tx from rfl, okT_tx (T := .hash X) hX] at h
  have h := of_decide_eq_true h
  simp [Tm.tx, Tm.deep, say] at h
  rw [okT_tx hX]
  exact decide_eq_true (by omega)

/-- What Make makes of two (not two secrets), the empty text if it is refused. -/
theorem made_two (op x y : Bs) (ho : op = oPair ∨ op = oMac ∨ op = oShut) : (makeR op [x, y]).1 = if okT x && okT y && okT (say op [x, y]) then say op [x, y] else [] := by
  have e1 : ¬ (400 < [x, y].length ∨ 8000 < op.length) := by rcases ho with rfl | rfl | rfl <;> simp [oPair, oMac, oShut]
  have e2 : ¬ (many op = 0 ∨ [x, y].length ≠ many op) := by
    have : [x, y].length = 2 := rfl
    rw [this]
    rcases ho with rfl | rfl | rfl <;> decide
  have e3 : secret op = false := by rcases ho with rfl | rfl | rfl <;> decide
  have e4 : ¬ op = oDh := by rcases ho with rfl | rfl | rfl <;> decide
  unfold makeR madeT finR rights
  rw [if_neg e1, if_neg e2, e3, if_neg e4]
  unfold okT
  simp only [List.all_cons, List.all_nil, Bool.and_true, Bool.not_false, Bool.true_or]
  cases (term x).isSome <;> cases (term y).isSome <;> cases (term (say op [x, y])).isSome <;> rfl
theorem made_one (x : Bs) : (makeR oHash [x]).1 = if okT x && okT (say oHash [x]) then say oHash [x] else [] := by
  have e1 : ¬ (400 < [x].length ∨ 8000 < oHash.length) := by simp [oHash]
  have e2 : ¬ (many oHash = 0 ∨ [x].length ≠ many oHash) := by
    have : [x].length = 1 := rfl
    rw [this]
    decide
  have e3 : secret oHash = false := by decide
  have e4 : ¬ oHash = oDh := by decide
  unfold makeR madeT finR rights
  rw [if_neg e1, if_neg e2, e3, if_neg e4]
  unfold okT
  simp only [List.all_cons, List.all_nil, Bool.and_true, Bool.not_false, Bool.true_or]
  cases (term x).isSome <;> cases (term (say oHash [x])).isSome <;> rfl

/-- GateKey of the program. -/
theorem gate_made (lock : Bs) : (makeR oHash [(makeR oPair [oGate, lock]).1]).1 = gateR lock := by
  rw [made_one, made_two _ _ _ (.inl rfl)]
  unfold gateR gate
  have hg : okT oGate = true := by decide
  rw [hg, Bool.true_and]
  cases hL : okT lock with
  | false => simp [okT_nil]
  | true =>
    obtain ⟨L, h1, h2, h3, h4⟩ := okT_some hL
    cases hP : okT (say oPair [oGate, lock]) with
    | true => simp [hP]
    | false =>
      have : okT (say oHash [say oPair [oGate, lock]]) = false := by
        cases h : okT (say oHash [say oPair [oGate, lock]]) with
        | false => rfl
        | true =>
          rw [← h2] at h hP
          rw [show say oPair [oGate, L.tx] = (Tm.pair (.atom oGate) L).tx from rfl] at h hP
          rw [hash_right (X := .pair (.atom oGate) L) ⟨gate_atom, h1⟩ h] at hP
          cases hP
      simp [this, okT_nil]

theorem right_ps {m : Lt} (h : right m = true) : m.ps.all okT = true ∧ m.ps.length = parts m.k := by
  unfold right partsR at h
  simp only [Bool.and_eq_true, decide_eq_true_eq] at h
  exact ⟨h.1.2.2, h.1.2.1⟩
theorem parts_pos (k : Int) : 1 ≤ parts k ∧ parts k ≤ 3 := by
  unfold parts; split
  · omega
  · split <;> omega

theorem body_some {m : Lt} (h : right m = true) : ∃ B : Tm, B.ok ∧ B.tx = body m.ps := by
  obtain ⟨h1, h2⟩ := right_ps h
  obtain ⟨Ts, e1, e2⟩ := all_terms m.ps h1
  refine ⟨bodyT Ts, bodyT_ok Ts ?_ fun T hT => (e2 T hT).1, by rw [bodyT_tx, e1]⟩
  rintro rfl
  have := parts_pos m.k
  rw [← e1] at h2
  simp at h2
  omega
theorem body_len {m : Lt} (h : right m = true) : (body m.ps).length ≤ 10000 := by
  obtain ⟨h1, h2⟩ := right_ps h
  have := parts_pos m.k
  have hl : ∀ x ∈ m.ps, x.length ≤ 3000 := fun x hx => okT_len (List.all_eq_true.1 h1 x hx)
  generalize m.ps = ps at h2 hl
  match ps, h2, hl with
  | [], h2, hl => simp [body]
  | [x], h2, hl => simp [body]; have := hl x (by simp); omega
  | [x, y], h2, hl =>
    have := hl x (by simp)
    have := hl y (by simp)
    simp [body, say, oPair]
    omega
  | [x, y, z], h2, hl =>
    have := hl x (by simp)
    have := hl y (by simp)
    have := hl z (by simp)
    simp [body, say, oPair]
    omega
  | x :: y :: z :: u :: l, h2, hl => simp at h2; omega

theorem signs_right {m : Lt} (h : signs m = true) : right m = true := by
  unfold signs at h; simp at h; exact h.1

/-- The first mac as the program makes it. -/
theorem mac1_made {m : Lt} {lock : Bs} (h : right m = true) (hL : okT lock = true) : (makeR oMac [gateR lock, body m.ps]).1 = if okT (mac1 m lock) then mac1 m lock else [] := by
  obtain ⟨B, b1, b2⟩ := body_some h
  obtain ⟨L, l1, l2, _, _⟩ := okT_some hL
  rw [made_two _ _ _ (.inr (.inl rfl))]
  unfold gateR mac1
  rw [hL, Bool.true_and]
  have hg : gate lock = (Tm.hash (.pair (.atom oGate) L)).tx := by rw [← l2, gate_tx]
  cases hG : okT (gate lock) with
  | true =>
    simp only [if_true, hG, Bool.true_and]
    cases hM : okT (say oMac [gate lock, body m.ps]) with
    | false => simp
    | true =>
      rw [hg, ← b2] at hM
      have := (pair_right (gate_ok l1) b1 (.inr (.inl rfl)) hM).2
      rw [b2] at this
      simp [this]
  | false =>
    have : okT (say oMac [gate lock, body m.ps]) = false := by
      cases hM : okT (say oMac [gate lock, body m.ps]) with
      | false => rfl
      | true =>
        rw [hg, ← b2] at hM
        have := (pair_right (gate_ok l1) b1 (.inr (.inl rfl)) hM).1
        rw [← hg, hG] at this
        cases this
    simp [this, okT_nil]

/-- .. and the second one. -/
theorem mac2_made {m : Lt} {cookie : Bs} (h : right m = true) (ha : okT m.a = true) (hC : okT cookie = true) : (makeR oMac [cookie, (makeR oPair [body m.ps, m.a]).1]).1 = if okT (mac2 m cookie) then mac2 m cookie else [] := by
  obtain ⟨B, b1, b2⟩ := body_some h
  obtain ⟨A, a1, a2, _, _⟩ := okT_some ha
  obtain ⟨C, c1, c2, _, _⟩ := okT_some hC
  rw [made_two _ _ _ (.inr (.inl rfl)), made_two _ _ _ (.inl rfl), hC, ha]
  unfold mac2
  have hp : say oPair [body m.ps, m.a] = (Tm.pair B A).tx := by rw [← b2, ← a2]; rfl
  simp only [Bool.true_and, Bool.and_true]
  cases hP : okT (say oPair [body m.ps, m.a]) with
  | true =>
    have : okT (body m.ps) = true := by
      have h2 := hP
      rw [← b2, ← a2] at h2
      have := (pair_right b1 a1 (.inl rfl) h2).1
      rw [b2] at this
      exact this
    simp [this, hP]
  | false =>
    have : okT (say oMac [cookie, say oPair [body m.ps, m.a]]) = false := by
      cases hM : okT (say oMac [cookie, say oPair [body m.ps, m.a]]) with
      | false => rfl
      | true =>
        rw [hp, ← c2] at hM
        have := (pair_right c1 (Y := .pair B A) ⟨b1, a1⟩ (.inr (.inl rfl)) hM).2
        rw [← hp, hP] at this
        cases this
    simp [this, okT_nil]

/-- The model looks whether the whole letter is right. -/
theorem right_mac1 {m : Lt} (h : signs m = true) (x : Bs) (hx : x ≠ []) : right { m with a := x, b := [] } = okT x := by
  unfold signs right at h
  simp only [Bool.and_eq_true] at h
  obtain ⟨⟨⟨⟨h1, h2⟩, h3⟩, h4⟩, h5⟩ := h
  unfold right nums partsR macs
  simp only
  unfold nums at h2
  unfold partsR at h3
  rw [h1, h2, h3, h5]
  simp [macsR, hx]
theorem right_mac2 {m : Lt} (h : signs m = true) (ha : m.a ≠ []) (x : Bs) (hx : x ≠ []) : right { m with b := x } = okT x := by
  unfold signs right at h
  simp only [Bool.and_eq_true] at h
  obtain ⟨⟨⟨⟨h1, h2⟩, h3⟩, h4⟩, h5⟩ := h
  unfold right nums partsR macs
  simp only
  unfold nums at h2
  unfold partsR at h3
  unfold macs at h4
  rw [h5] at h4
  simp [macsR, ha] at h4
  rw [h1, h2, h3, h5]
  simp [macsR, hx, ha, h4.1]
theorem mac_ok {m : Lt} (h : signs m = true) (ha : m.a ≠ []) : okT m.a = true := by
  unfold signs right at h
  simp only [Bool.and_eq_true] at h
  obtain ⟨⟨⟨⟨h1, h2⟩, h3⟩, h4⟩, h5⟩ := h
  unfold macs at h4
  rw [h5] at h4
  simp [macsR, ha] at h4
  exact h4.1

/-- Mac1Fits as the program asks it. -/
theorem fits1_eq (m : Lt) (lock : Bs) : (decide ((signR m lock).2 = 0) && decide ((signR m lock).1.a = m.a)) = fits1 m lock := by
  unfold signR fits1
  by_cases h8 : 8000 < lock.length
  · have : okT lock = false := by
      cases h : okT lock with
      | false => rfl
      | true => have := okT_len h; omega
    simp [h8, this]
  · rw [if_neg h8]
    cases h1 : signs m && okT lock with
    | false => simp
    | true =>
      simp only [if_true, Bool.true_and]
      cases hM : okT (mac1 m lock) with
      | true =>
        have hne := say_ne oMac [gate lock, body m.ps]
        simp only [if_true, decide_true, Bool.true_and]
        by_cases e : m.a = mac1 m lock
        · have : m.a ≠ [] := by rw [e]; exact hne
          simp [e]
          exact hne
        · have : ¬ mac1 m lock = m.a := fun h => e h.symm
          simp [e, this]
      | false =>
        simp only [Bool.false_eq_true, if_false]
        by_cases ha : m.a = []
        · simp [ha]
        · simp only [Bool.and_eq_true] at h1
          have h2 := mac_ok h1.1 ha
          have : ¬ m.a = mac1 m lock := fun h => by rw [h, hM] at h2; cases h2
          simp [this]
theorem fits2_eq (m : Lt) (cookie : Bs) : (decide ((twiceR m cookie).2 = 0) && decide ((twiceR m cookie).1.b = m.b)) = fits2 m cookie := by
  unfold twiceR fits2
  by_cases h8 : 8000 < cookie.length
  · have : okT cookie = false := by
      cases h : okT cookie with
      | false => rfl
      | true => have := okT_len h; omega
    simp [h8, this]
  · rw [if_neg h8]
    cases h1 : signs m && okT cookie with
    | false =>
      have : (signs m && decide (m.a ≠ []) && okT cookie) = false := by
        revert h1; cases signs m <;> cases okT cookie <;> simp
      rw [this]
      simp
    | true =>
      simp only [Bool.and_eq_true] at h1
      by_cases ha : m.a = []
      · have hb : m.b = [] := by
          have h := h1.1
          unfold signs right at h
          simp only [Bool.and_eq_true] at h
          obtain ⟨⟨⟨⟨_, _⟩, _⟩, h4⟩, h5⟩ := h
          unfold macs at h4
          rw [h5] at h4
          simp [macsR, ha] at h4
          exact h4
        simp [ha, hb]
      · have : (signs m && decide (m.a ≠ []) && okT cookie) = true := by simp [h1.1, h1.2, ha]
        simp only [this, if_true, Bool.true_and]
        cases hM : okT (mac2 m cookie) with
        | true =>
          have hne := say_ne oMac [cookie, say oPair [body m.ps, m.a]]
          simp only [if_true, decide_true, Bool.true_and]
          by_cases e : m.b = mac2 m cookie
          · have : m.b ≠ [] := by rw [e]; exact hne
            simp [e]
            exact hne
          · have : ¬ mac2 m cookie = m.b := fun h => e h.symm
            simp [e, this]
        | false =>
          simp only [Bool.false_eq_true, if_false]
          by_cases hb : m.b = []
          · simp [hb]
          · have h := h1.1
            unfold signs right at h
            simp only [Bool.and_eq_true] at h
            obtain ⟨⟨⟨⟨_, _⟩, _⟩, h4⟩, h5⟩ := h
            unfold macs at h4
            rw [h5] at h4
            simp [macsR, ha, hb] at h4
            have : ¬ m.b = mac2 m cookie := fun h => by rw [h, hM] at h4; exact absurd h4.2 (by simp)
            simp [this]
end Go.Proofs.Ytonjohlecomeoaa.ltp
