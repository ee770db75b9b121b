/- Several small texts, one behind the other. -/
import Derived.Test.YtonjohlecomeoaaGreatQa
import Derived.Test.YtonjohlecomeoaaGreatQc
import Derived.Test.YtonjohlecomeoaaGreatLibq
import Derived.Laws.CopyOwn
import Derived.Laws.MakeOwn
import Derived.Laws.OwnMore
import Derived.Lib.BufferWrite
import Derived.Lib.UnsafeStr
import Derived.Lib.QuietBelow

/- Letters as plain data: what is right, the body, the macs, what is signed. Nothing here speaks of the program. -/
namespace Go.Proofs.YtonjohlecomeoaaGreat.ltp
open Go Go.RowKit Go.Proofs.YtonjohlecomeoaaGreat.tm Go.Proofs.YtonjohlecomeoaaGreat.spm Go.Proofs.YtonjohlecomeoaaGreat.mkp Go.Proofs.YtonjohlecomeoaaGreat.ltq Go.Proofs.YtonjohlecomeoaaGreat.ltv
set_option linter.unusedVariables false

/-- The macs of a kind that is signed. -/
def macsR (a b : Bs) : Bool := if a = [] then decide (b = []) else okT a && (decide (b = []) || okT b)
/-- how many parts a kind has; is it signed? -/
def parts (k : Int) : Nat := if k = 1 then 3 else if k = 2 then 2 else 1
def signed (k : Int) : Bool := decide (k = 1) || decide (k = 2)
def isKind (k : Int) : Bool := decide (1 ≤ k) && decide (k ≤ 4)
def nums (m : Lt) : Bool :=
  if m.k = 1 then endR m.f && decide (m.t = 0) && decide (m.c = 0)
  else if m.k = 2 then endR m.f && endR m.t && decide (m.c = 0)
  else if m.k = 3 then decide (m.f = 0) && endR m.t && decide (m.c = 0)
  else decide (m.f = 0) && endR m.t && timeR m.c
def partsR (m : Lt) : Bool := decide (m.ps.length = parts m.k) && m.ps.all okT
def macs (m : Lt) : Bool := if signed m.k then macsR m.a m.b else decide (m.a = []) && decide (m.b = [])
def right (m : Lt) : Bool := isKind m.k && nums m && partsR m && macs m

/-- The body of a letter's parts. -/
def body : List Bs → Bs
  | [] => []
  | [x] => x
  | x :: l => say oPair [x, body l]

def oGate : Bs := [103, 97, 116, 101]
def gate (lock : Bs) : Bs := say oHash [say oPair [oGate, lock]]
def gateR (lock : Bs) : Bs := if okT lock && okT (gate lock) then gate lock else []
def mac1 (m : Lt) (lock : Bs) : Bs := say oMac [gate lock, body m.ps]
def mac2 (m : Lt) (cookie : Bs) : Bs := say oMac [cookie, say oPair [body m.ps, m.a]]
def signs (m : Lt) : Bool := right m && signed m.k

def none0 : Lt := ⟨0, 0, 0, 0, [], [], []⟩
def signR (m : Lt) (lock : Bs) : Lt × Int :=
  if 8000 < lock.length then (none0, 2)
  else if signs m && okT lock then (if okT (mac1 m lock) then ({ m with a := mac1 m lock, b := [] }, 0) else (none0, 9))
  else (none0, 1)
def twiceR (m : Lt) (cookie : Bs) : Lt × Int :=
  if 8000 < cookie.length then (none0, 2)
  else if signs m && decide (m.a ≠ []) && okT cookie then (if okT (mac2 m cookie) then ({ m with b := mac2 m cookie }, 0) else (none0, 9))
  else (none0, 1)
def fits1 (m : Lt) (lock : Bs) : Bool := signs m && okT lock && decide (m.a ≠ []) && decide (m.a = mac1 m lock)
def fits2 (m : Lt) (cookie : Bs) : Bool := signs m && okT cookie && decide (m.b ≠ []) && decide (m.b = mac2 m cookie)

/-! ### as terms -/
def bodyT : List Tm → Tm
  | [] => .atom []
  | [x] => x
  | x :: l => .pair x (bodyT l)

theorem bodyT_tx : ∀ (l : List Tm), (bodyT l).tx = body (l.map Tm.tx)
  | [] => rfl
  | [x] => rfl
  | x :: y :: l => by
    have := bodyT_tx (y :: l)
    simp only [bodyT, Tm.tx, List.map_cons, body] at this ⊢
    rw [this]
theorem bodyT_ok : ∀ (l : List Tm), l ≠ [] → (∀ T ∈ l, T.ok) → (bodyT l).ok
  | [], h, _ => absurd rfl h
  | [x], _, h => h x (by simp)
  | x :: y :: l, _, h => ⟨h x (by simp), bodyT_ok (y :: l) (by simp) fun T hT => h T (by simp [List.mem_cons.1 hT])⟩

theorem all_terms : ∀ (l : List Bs), l.all okT = true → ∃ Ts : List Tm, Ts.map Tm.tx = l ∧ ∀ T ∈ Ts, T.ok ∧ T.tx.length ≤ 3000
  | [], _ => ⟨[], rfl, fun T h => by cases h⟩
  | a :: l, h => by
    simp only [List.all_cons, Bool.and_eq_true] at h
    obtain ⟨Ts, h1, h2⟩ := all_terms l h.2
    obtain ⟨T, hT⟩ := Option.isSome_iff_exists.1 h.1
    obtain ⟨b1, b2, b3, b4⟩ := term_some.1 hT
    refine ⟨T :: Ts, by rw [List.map_cons, b4, h1], fun U hU => ?_⟩
    rcases List.mem_cons.1 hU with rfl | hU
    · exact ⟨b2, by rw [b4]; exact b1⟩
    · exact h2 U hU

theorem okT_tx {T : Tm} (h : T.ok) : okT T.tx = decide (T.tx.length ≤ 3000 ∧ T.deep ≤ 24) := term_tx h

theorem gate_tx (L : Tm) : gate L.tx = (Tm.hash (.pair (.atom oGate) L)).tx := rfl
theorem gate_atom : (Tm.atom oGate).ok := (by decide : atomR oGate = true)
theorem gate_ok {L : Tm} (h : L.ok) : (Tm.hash (.pair (.atom oGate) L)).ok := ⟨gate_atom, h⟩

theorem okT_some {l : Bs} (h : okT l = true) : ∃ T : Tm, T.ok ∧ T.tx = l ∧ l.length ≤ 3000 ∧ T.deep ≤ 24 := by
  obtain ⟨T, hT⟩ := Option.isSome_iff_exists.1 h
  obtain ⟨b1, b2, b3, b4⟩ := term_some.1 hT
  exact ⟨T, b2, b4, b1, b3⟩
theorem okT_len {l : Bs} (h : okT l = true) : l.length ≤ 3000 := (okT_some h).choose_spec.2.2.1
theorem okT_ne {l : Bs} (h : okT l = true) : l ≠ [] := by
  rintro rfl
  revert h
  decide
theorem okT_nil : okT [] = false := by decide

theorem say_ne (op : Bs) (l : List Bs) : say op l ≠ [] := by simp [say]

/-- Of what is right the parts are. -/
theorem pair_right {X Y : Tm} (hX : X.ok) (hY : Y.ok) {op : Bs} (ho : op = oPair ∨ op = oMac ∨ op = oShut) (h : okT (say op [X.tx, Y.tx]) = true) : okT X.tx = true ∧ okT Y.tx = true := by
  have key : ∀ T : Tm, T.ok → T.tx = say op [X.tx, Y.tx] → X.deep ≤ T.deep → Y.deep ≤ T.deep → okT X.tx = true ∧ okT Y.tx = true := fun T hT e d1 d2 => by
    rw [← e, okT_tx hT] at h
    have h := of_decide_eq_true h
    have hl := congrArg List.length e
    simp [say] at hl
    rw [okT_tx hX, okT_tx hY]
    exact ⟨decide_eq_true (by omega), decide_eq_true (by omega)⟩
  rcases ho with rfl | rfl | rfl
  · exact key (.pair X Y) ⟨hX, hY⟩ rfl (by simp [Tm.deep]; omega) (by simp [Tm.deep]; omega)
  · exact key (.mac X Y) ⟨hX, hY⟩ rfl (by simp [Tm.deep]; omega) (by simp [Tm.deep]; omega)
  · exact key (.shut X Y) ⟨hX, hY⟩ rfl (by simp [Tm.deep]; omega) (by simp [Tm.deep]; omega)
theorem hash_right {X : Tm} (hX : X.ok) (h : okT (say oHash [X.tx]) = true) : okT X.tx = true := by
  rw [show say oHash [X.tx] = (Tm.hash X).tx from rfl, okT_tx (T := .hash X) hX] at h
  have h := of_decide_eq_true h
  simp [Tm.tx, Tm.deep, say] at h
  rw [okT_tx hX]
  exact decide_eq_true (by omega)

/-- What Make makes of two (not two secrets), the empty text if it is refused. -/
theorem made_two (op x y : Bs) (ho : op = oPair ∨ op = oMac ∨ op = oShut) : (makeR op [x, y]).1 = if okT x && okT y && okT (say op [x, y]) then say op [x, y] else [] := by
  have e1 : ¬ (400 < [x, y].length ∨ 8000 < op.length) := by rcases ho with rfl | rfl | rfl <;> simp [oPair, oMac, oShut]
  have e2 : ¬ (many op = 0 ∨ [x, y].length ≠ many op) := by
    have : [x, y].length = 2 := rfl
    rw [this]
    rcases ho with rfl | rfl | rfl <;> decide
  have e3 : secret op = false := by rcases ho with rfl | rfl | rfl <;> decide
  have e4 : ¬ op = oDh := by rcases ho with rfl | rfl | rfl <;> decide
  unfold makeR madeT finR rights
  rw [if_neg e1, if_neg e2, e3, if_neg e4]
  unfold okT
  simp only [List.all_cons, List.all_nil, Bool.and_true, Bool.not_false, Bool.true_or]
  cases (term x).isSome <;> cases (term y).isSome <;> cases (term (say op [x, y])).isSome <;> rfl
theorem made_one (x : Bs) : (makeR oHash [x]).1 = if okT x && okT (say oHash [x]) then say oHash [x] else [] := by
  have e1 : ¬ (400 < [x].length ∨ 8000 < oHash.length) := by simp [oHash]
  have e2 : ¬ (many oHash = 0 ∨ [x].length ≠ many oHash) := by
    have : [x].length = 1 := rfl
    rw [this]
    decide
  have e3 : secret oHash = false := by decide
  have e4 : ¬ oHash = oDh := by decide
  unfold makeR madeT finR rights
  rw [if_neg e1, if_neg e2, e3, if_neg e4]
  unfold okT
  simp only [List.all_cons, List.all_nil, Bool.and_true, Bool.not_false, Bool.true_or]
  cases (term x).isSome <;> cases (term (say oHash [x])).isSome <;> rfl

/-- GateKey of the program. -/
theorem gate_made (lock : Bs) : (makeR oHash [(makeR oPair [oGate, lock]).1]).1 = gateR lock := by
  rw [made_one, made_two _ _ _ (.inl rfl)]
  unfold gateR gate
  have hg : okT oGate = true := by decide
  rw [hg, Bool.true_and]
  cases hL : okT lock with
  | false => simp [okT_nil]
  | true =>
    obtain ⟨L, h1, h2, h3, h4⟩ := okT_some hL
    cases hP : okT (say oPair [oGate, lock]) with
    | true => simp [hP]
    | false =>
      have : okT (say oHash [say oPair [oGate, lock]]) = false := by
        cases h : okT (say oHash [say oPair [oGate, lock]]) with
        | false => rfl
        | true =>
          rw [← h2] at h hP
          rw [show say oPair [oGate, L.tx] = (Tm.pair (.atom oGate) L).tx from rfl] at h hP
          rw [hash_right (X := .pair (.atom oGate) L) ⟨gate_atom, h1⟩ h] at hP
          cases hP
      simp [this, okT_nil]

theorem right_ps {m : Lt} (h : right m = true) : m.ps.all okT = true ∧ m.ps.length = parts m.k := by
  unfold right partsR at h
  simp only [Bool.and_eq_true, decide_eq_true_eq] at h
  exact ⟨h.1.2.2, h.1.2.1⟩
theorem parts_pos (k : Int) : 1 ≤ parts k ∧ parts k ≤ 3 := by
  unfold parts; split
  · omega
  · split <;> omega

theorem body_some {m : Lt} (h : right m = true) : ∃ B : Tm, B.ok ∧ B.tx = body m.ps := by
  obtain ⟨h1, h2⟩ := right_ps h
  obtain ⟨Ts, e1, e2⟩ := all_terms m.ps h1
  refine ⟨bodyT Ts, bodyT_ok Ts ?_ fun T hT => (e2 T hT).1, by rw [bodyT_tx, e1]⟩
  rintro rfl
  have := parts_pos m.k
  rw [← e1] at h2
  simp at h2
  omega
theorem body_len {m : Lt} (h : right m = true) : (body m.ps).length ≤ 10000 := by
  obtain ⟨h1, h2⟩ := right_ps h
  have := parts_pos m.k
  have hl : ∀ x ∈ m.ps, x.length ≤ 3000 := fun x hx => okT_len (List.all_eq_true.1 h1 x hx)
  generalize m.ps = ps at h2 hl
  match ps, h2, hl with
  | [], h2, hl => simp [body]
  | [x], h2, hl => simp [body]; have := hl x (by simp); omega
  | [x, y], h2, hl =>
    have := hl x (by simp)
    have := hl y (by simp)
    simp [body, say, oPair]
    omega
  | [x, y, z], h2, hl =>
    have := hl x (by simp)
    have := hl y (by simp)
    have := hl z (by simp)
    simp [body, say, oPair]
    omega
  | x :: y :: z :: u :: l, h2, hl => simp at h2; omega

theorem signs_right {m : Lt} (h : signs m = true) : right m = true := by
  unfold signs at h; simp at h; exact h.1

/-- The first mac as the program makes it. -/
theorem mac1_made {m : Lt} {lock : Bs} (h : right m = true) (hL : okT lock = true) : (makeR oMac [gateR lock, body m.ps]).1 = if okT (mac1 m lock) then mac1 m lock else [] := by
  obtain ⟨B, b1, b2⟩ := body_some h
  obtain ⟨L, l1, l2, _, _⟩ := okT_some hL
  rw [made_two _ _ _ (.inr (.inl rfl))]
  unfold gateR mac1
  rw [hL, Bool.true_and]
  have hg : gate lock = (Tm.hash (.pair (.atom oGate) L)).tx := by rw [← l2, gate_tx]
  cases hG : okT (gate lock) with
  | true =>
    simp only [if_true, hG, Bool.true_and]
    cases hM : okT (say oMac [gate lock, body m.ps]) with
    | false => simp
    | true =>
      rw [hg, ← b2] at hM
      have := (pair_right (gate_ok l1) b1 (.inr (.inl rfl)) hM).2
      rw [b2] at this
      simp [this]
  | false =>
    have : okT (say oMac [gate lock, body m.ps]) = false := by
      cases hM : okT (say oMac [gate lock, body m.ps]) with
      | false => rfl
      | true =>
        rw [hg, ← b2] at hM
        have := (pair_right (gate_ok l1) b1 (.inr (.inl rfl)) hM).1
        rw [← hg, hG] at this
        cases this
    simp [this, okT_nil]

/-- .. and the second one. -/
theorem mac2_made {m : Lt} {cookie : Bs} (h : right m = true) (ha : okT m.a = true) (hC : okT cookie = true) : (makeR oMac [cookie, (makeR oPair [body m.ps, m.a]).1]).1 = if okT (mac2 m cookie) then mac2 m cookie else [] := by
  obtain ⟨B, b1, b2⟩ := body_some h
  obtain ⟨A, a1, a2, _, _⟩ := okT_some ha
  obtain ⟨C, c1, c2, _, _⟩ := okT_some hC
  rw [made_two _ _ _ (.inr (.inl rfl)), made_two _ _ _ (.inl rfl), hC, ha]
  unfold mac2
  have hp : say oPair [body m.ps, m.a] = (Tm.pair B A).tx := by rw [← b2, ← a2]; rfl
  simp only [Bool.true_and, Bool.and_true]
  cases hP : okT (say oPair [body m.ps, m.a]) with
  | true =>
    have : okT (body m.ps) = true := by
      have h2 := hP
      rw [← b2, ← a2] at h2
      have := (pair_right b1 a1 (.inl rfl) h2).1
      rw [b2] at this
      exact this
    simp [this, hP]
  | false =>
    have : okT (say oMac [cookie, say oPair [body m.ps, m.a]]) = false := by
      cases hM : okT (say oMac [cookie, say oPair [body m.ps, m.a]]) with
      | false => rfl
      | true =>
        rw [hp, ← c2] at hM
        have := (pair_right c1 (Y := .pair B A) ⟨b1, a1⟩ (.inr (.inl rfl)) hM).2
        rw [← hp, hP] at this
        cases this
    simp [this, okT_nil]

/-- The model looks whether the whole letter is right. -/
theorem right_mac1 {m : Lt} (h : signs m = true) (x : Bs) (hx : x ≠ []) : right { m with a := x, b := [] } = okT x := by
  unfold signs right at h
  simp only [Bool.and_eq_true] at h
  obtain ⟨⟨⟨⟨h1, h2⟩, h3⟩, h4⟩, h5⟩ := h
  unfold right nums partsR macs
  simp only
  unfold nums at h2
  unfold partsR at h3
  rw [h1, h2, h3, h5]
  simp [macsR, hx]
theorem right_mac2 {m : Lt} (h : signs m = true) (ha : m.a ≠ []) (x : Bs) (hx : x ≠ []) : right { m with b := x } = okT x := by
  unfold signs right at h
  simp only [Bool.and_eq_true] at h
  obtain ⟨⟨⟨⟨h1, h2⟩, h3⟩, h4⟩, h5⟩ := h
  unfold right nums partsR macs
  simp only
  unfold nums at h2
  unfold partsR at h3
  unfold macs at h4
  rw [h5] at h4
  simp [macsR, ha] at h4
  rw [h1, h2, h3, h5]
  simp [macsR, hx, ha, h4.1]
theorem mac_ok {m : Lt} (h : signs m = true) (ha : m.a ≠ []) : okT m.a = true := by
  unfold signs right at h
  simp only [Bool.and_eq_true] at h
  obtain ⟨⟨⟨⟨h1, h2⟩, h3⟩, h4⟩, h5⟩ := h
  unfold macs at h4
  rw [h5] at h4
  simp [macsR, ha] at h4
  exact h4.1

/-- Mac1Fits as the program asks it. -/
theorem fits1_eq (m : Lt) (lock : Bs) : (decide ((signR m lock).2 = 0) && decide ((signR m lock).1.a = m.a)) = fits1 m lock := by
  unfold signR fits1
  by_cases h8 : 8000 < lock.length
  · have : okT lock = false := by
      cases h : okT lock with
      | false => rfl
      | true => have := okT_len h; omega
    simp [h8, this]
  · rw [if_neg h8]
    cases h1 : signs m && okT lock with
    | false => simp
    | true =>
      simp only [if_true, Bool.true_and]
      cases hM : okT (mac1 m lock) with
      | true =>
        have hne := say_ne oMac [gate lock, body m.ps]
        simp only [if_true, decide_true, Bool.true_and]
        by_cases e : m.a = mac1 m lock
        · have : m.a ≠ [] := by rw [e]; exact hne
          simp [e]
          exact hne
        · have : ¬ mac1 m lock = m.a := fun h => e h.symm
          simp [e, this]
      | false =>
        simp only [Bool.false_eq_true, if_false]
        by_cases ha : m.a = []
        · simp [ha]
        · simp only [Bool.and_eq_true] at h1
          have h2 := mac_ok h1.1 ha
          have : ¬ m.a = mac1 m lock := fun h => by rw [h, hM] at h2; cases h2
          simp [this]
theorem fits2_eq (m : Lt) (cookie : Bs) : (decide ((twiceR m cookie).2 = 0) && decide ((twiceR m cookie).1.b = m.b)) = fits2 m cookie := by
  unfold twiceR fits2
  by_cases h8 : 8000 < cookie.length
  · have : okT cookie = false := by
      cases h : okT cookie with
      | false => rfl
      | true => have := okT_len h; omega
    simp [h8, this]
  · rw [if_neg h8]
    cases h1 : signs m && okT cookie with
    | false =>
      have : (signs m && decide (m.a ≠ []) && okT cookie) = false := by
        revert h1; cases signs m <;> cases okT cookie <;> simp
      rw [this]
      simp
    | true =>
      simp only [Bool.and_eq_true] at h1
      by_cases ha : m.a = []
      · have hb : m.b = [] := by
          have h := h1.1
          unfold signs right at h
          simp only [Bool.and_eq_true] at h
          obtain ⟨⟨⟨⟨_, _⟩, _⟩, h4⟩, h5⟩ := h
          unfold macs at h4
          rw [h5] at h4
          simp [macsR, ha] at h4
          exact h4
        simp [ha, hb]
      · have : (signs m && decide (m.a ≠ []) && okT cookie) = true := by simp [h1.1, h1.2, ha]
        simp only [this, if_true, Bool.true_and]
        cases hM : okT (mac2 m cookie) with
        | true =>
          have hne := say_ne oMac [cookie, say oPair [body m.ps, m.a]]
          simp only [if_true, decide_true, Bool.true_and]
          by_cases e : m.b = mac2 m cookie
          · have : m.b ≠ [] := by rw [e]; exact hne
            simp [e]
            exact hne
          · have : ¬ mac2 m cookie = m.b := fun h => e h.symm
            simp [e, this]
        | false =>
          simp only [Bool.false_eq_true, if_false]
          by_cases hb : m.b = []
          · simp [hb]
          · have h := h1.1
            unfold signs right at h
            simp only [Bool.and_eq_true] at h
            obtain ⟨⟨⟨⟨_, _⟩, _⟩, h4⟩, h5⟩ := h
            unfold macs at h4
            rw [h5] at h4
            simp [macsR, ha, hb] at h4
            have : ¬ m.b = mac2 m cookie := fun h => by rw [h, hM] at h4; exact absurd h4.2 (by simp)
            simp [this]
end Go.Proofs.YtonjohlecomeoaaGreat.ltp

/- Mix as a plain function. -/
namespace Go.Proofs.YtonjohlecomeoaaGreat.hdp
open Go Go.RowKit Go.Proofs.YtonjohlecomeoaaGreat.tm Go.Proofs.YtonjohlecomeoaaGreat.spm Go.Proofs.YtonjohlecomeoaaGreat.mkp Go.Proofs.YtonjohlecomeoaaGreat.ltq Go.Proofs.YtonjohlecomeoaaGreat.ltv Go.Proofs.YtonjohlecomeoaaGreat.ltp
set_option linter.unusedVariables false

def mixT (c t : Bs) : Bs := say oHash [say oPair [c, t]]
def mixR (c t : Bs) : Bs := if okT c && okT t && okT (mixT c t) then mixT c t else []

/-- It is the text of something that a term could be, were it not for its size. -/
def Txt (c : Bs) : Prop := ∃ C : Tm, C.ok ∧ C.tx = c

theorem Txt.of {c : Bs} (h : okT c = true) : Txt c := by
  obtain ⟨C, h1, h2, _, _⟩ := okT_some h
  exact ⟨C, h1, h2⟩
theorem Txt.mix {c t : Bs} (hc : Txt c) (ht : Txt t) : Txt (mixT c t) := by
  obtain ⟨C, h1, rfl⟩ := hc
  obtain ⟨T, h3, rfl⟩ := ht
  exact ⟨.hash (.pair C T), ⟨h1, h3⟩, rfl⟩
theorem Txt.hash {c : Bs} (hc : Txt c) : Txt (say oHash [c]) := by
  obtain ⟨C, h1, rfl⟩ := hc
  exact ⟨.hash C, h1, rfl⟩
theorem Txt.shut {c t : Bs} (hc : Txt c) (ht : Txt t) : Txt (say oShut [c, t]) := by
  obtain ⟨C, h1, rfl⟩ := hc
  obtain ⟨T, h3, rfl⟩ := ht
  exact ⟨.shut C T, ⟨h1, h3⟩, rfl⟩

theorem mix_parts {c t : Bs} (hc : Txt c) (ht : Txt t) (h : okT (mixT c t) = true) : okT c = true ∧ okT t = true := by
  obtain ⟨C, h1, rfl⟩ := hc
  obtain ⟨T, h3, rfl⟩ := ht
  have := hash_right (X := .pair C T) ⟨h1, h3⟩ h
  exact pair_right h1 h3 (.inl rfl) this

theorem mixR_eq {c t : Bs} (hc : Txt c) (ht : Txt t) : mixR c t = if okT (mixT c t) then mixT c t else [] := by
  unfold mixR
  cases h : okT (mixT c t) with
  | false => simp
  | true =>
    obtain ⟨h1, h2⟩ := mix_parts hc ht h
    simp [h1, h2]
theorem mixR_nil (t : Bs) : mixR [] t = [] := by simp [mixR, okT_nil]
theorem mixR_nil2 (c : Bs) : mixR c [] = [] := by simp [mixR, okT_nil]
theorem mixR_len (c t : Bs) : (mixR c t).length ≤ 3000 := by
  unfold mixR
  split
  · rename_i h
    simp only [Bool.and_eq_true] at h
    exact okT_len h.2
  · simp

/-- .. as it is mixed on. -/
theorem mixR_on {c t : Bs} (hc : Txt c) (ht : Txt t) : mixR (if okT c then c else []) t = if okT (mixT c t) then mixT c t else [] := by
  cases h : okT c with
  | true => simp only [if_true]; exact mixR_eq hc ht
  | false =>
    simp only [Bool.false_eq_true, if_false]
    rw [mixR_nil]
    cases h2 : okT (mixT c t) with
    | false => simp
    | true => rw [(mix_parts hc ht h2).1] at h; cases h

/-- Mix of the program. -/
theorem mix_made (c t : Bs) : (makeR oHash [(makeR oPair [c, t]).1]).1 = mixR c t := by
  rw [made_one, made_two _ _ _ (.inl rfl)]
  unfold mixR mixT
  cases hc : okT c with
  | false => simp [okT_nil]
  | true =>
    cases ht : okT t with
    | false => simp [okT_nil]
    | true =>
      simp only [Bool.true_and]
      cases hP : okT (say oPair [c, t]) with
      | true => simp [hP]
      | false =>
        have : okT (say oHash [say oPair [c, t]]) = false := by
          cases h : okT (say oHash [say oPair [c, t]]) with
          | false => rfl
          | true =>
            obtain ⟨C, c1, c2⟩ := Txt.of hc
            obtain ⟨T, t1, t2⟩ := Txt.of ht
            rw [← c2, ← t2] at h hP
            have := hash_right (X := .pair C T) ⟨c1, t1⟩ h
            rw [show (Tm.pair C T).tx = say oPair [C.tx, T.tx] from rfl, hP] at this
            cases this
        simp [this, okT_nil]

theorem hash_made (c : Bs) (hc : Txt c) : (makeR oHash [c]).1 = if okT (say oHash [c]) then say oHash [c] else [] := by
  rw [made_one]
  cases h : okT (say oHash [c]) with
  | false => simp
  | true =>
    obtain ⟨C, c1, rfl⟩ := hc
    simp [hash_right c1 h]
end Go.Proofs.YtonjohlecomeoaaGreat.hdp

/- AtomRight, of the program and of the model: each returns what the plain function atomR says. -/
namespace Go.Proofs.YtonjohlecomeoaaGreat.atm
open Go.RowKit Go.Proofs.YtonjohlecomeoaaGreat.tm Go.Proofs.YtonjohlecomeoaaGreat.lib Go.Proofs.YtonjohlecomeoaaGreat.rdr
set_option linter.unusedVariables false

/-! ### AtomRight, of the program and of the model; a term's atom -/

theorem atom_no {s : ByteArray} {k : Nat} (h : k < s.size) (hk : isAt s[k] = false) : atomR s.data.toList = false := by
  have hm : s[k] ∈ s.data.toList := by
    have h' : k < s.data.toList.length := by simpa using h
    have : s[k] = s.data.toList[k] := rfl
    rw [this]
    exact List.getElem_mem h'
  cases e : atomR s.data.toList with
  | false => rfl
  | true => have := List.all_eq_true.1 (atomR_all e) _ hm; rw [hk] at this; cases this

theorem atom_yes {s : ByteArray} (h1 : 1 ≤ s.size) (h2 : s.size ≤ 8) (h : ∀ j (hj : j < s.size), isAt s[j] = true) : atomR s.data.toList = true := by
  unfold atomR
  simp only [Bool.and_eq_true, decide_eq_true_eq, List.all_eq_true]
  have e : s.data.toList.length = s.size := rfl
  refine ⟨⟨by omega, by omega⟩, ?_⟩
  intro c hc
  obtain ⟨i, hi, rfl⟩ := List.mem_iff_getElem.1 hc
  exact h i hi

theorem atom_size {s : ByteArray} (h : s.size < 1 ∨ 8 < s.size) : atomR s.data.toList = false := by
  cases e : atomR s.data.toList with
  | false => rfl
  | true => have := atomR_len e; have e' : s.data.toList.length = s.size := rfl; omega

set_option maxRecDepth 100000 in
theorem implAtom_calls (s : ByteArray) (hs : s.size ≤ maxLen) (w : World) :
    Calls Tryz.prog 52 #[.string s] w fun e w' => e = .returned (.bool (atomR s.data.toList)) ∧ w = w' := by
  unfold maxLen at hs
  by_cases h0 : s.size < 1
  · have HE := Lib.hid (atom_size (s := s) (.inl h0))
    have ne : s.toList.isEmpty = true := by rw [isEmpty_eq]; simpa using h0
    go_enter Tryz.func52, Tryz.ntmps52
    go_wp2
    all_goals go_ret
    all_goals exact ⟨ret_bool HE.out.symm, rfl⟩
  have ne : s.toList.isEmpty = false := by rw [isEmpty_eq]; simpa using h0
  by_cases h1 : 8 < s.size
  · have HE := Lib.hid (atom_size (s := s) (.inr h1))
    have d1 : decide (8 < (s.size : Int)) = true := by simp; omega
    go_enter Tryz.func52, Tryz.ntmps52
    go_wp2
    all_goals go_ret
    all_goals exact ⟨ret_bool HE.out.symm, rfl⟩
  have d1 : decide (8 < (s.size : Int)) = false := by simp; omega
  go_enter Tryz.func52, Tryz.ntmps52
  go_wp2
  go_loop [3, 13, 14, 15, 16, 17, 18, 19, 20, 21] (fun _ i _ _ _ _ _ _ _ _ => ∃ k : Nat, k ≤ s.size ∧ i = .int .i64 k ∧ ∀ j (hj : j < s.size), j < k → isAt s[j] = true) (fun _ i _ _ _ _ _ _ _ _ => s.size - (intOf i).toNat)
  case atStart => exact ⟨0, Nat.zero_le _, rfl, fun j _ hj => by omega⟩
  case round =>
    obtain ⟨k, hk, rfl, hall⟩ := hrel
    have HA := Lib.hid hall
    clear hall
    by_cases hlt : k < s.size
    · cases hx : isAt s[k]
      all_goals
        have HX := Lib.hid hx
        have a1 := isAtomByte_calls s[k]
        rw [hx] at a1
        clear hx
        go_wp2_with (go_at_call 104; refine (a1 _).mono ?_; rintro e w2 ⟨rfl, rfl⟩)
      · go_ret
        exact ⟨ret_bool (atom_no hlt HX.out).symm, rfl⟩
      · go_round
        case rel =>
          refine ⟨k + 1, by omega, by go_num, fun j hj hj' => ?_⟩
          by_cases e : j = k
          · subst e; exact HX.out
          · exact HA.out j hj (by omega)
        case measure => simp [intOf]; omega
    · go_wp2
      go_ret
      exact ⟨ret_bool (atom_yes (by omega) (by omega) fun j hj => HA.out j hj (by omega)).symm, rfl⟩

theorem isAt_no {c : UInt8} (h1 : (c.toNat : Int) < 97 ∨ 122 < (c.toNat : Int)) (h2 : (c.toNat : Int) < 48 ∨ 57 < (c.toNat : Int)) : isAt c = false := by
  unfold isAt
  rw [let_eq, dig_eq]
  simp only [Bool.or_eq_false_iff, Bool.and_eq_false_iff, decide_eq_false_iff_not]
  omega
theorem isAt_yes {c : UInt8} (h : (97 ≤ (c.toNat : Int) ∧ (c.toNat : Int) ≤ 122) ∨ (48 ≤ (c.toNat : Int) ∧ (c.toNat : Int) ≤ 57)) : isAt c = true := by
  unfold isAt
  rw [let_eq, dig_eq]
  simp only [Bool.or_eq_true, Bool.and_eq_true, decide_eq_true_eq]
  omega

set_option maxRecDepth 100000 in
theorem specAtom_calls (s : ByteArray) (hs : s.size ≤ maxLen) (w : World) :
    Calls Tryz.prog 38 #[.string s] w fun e w' => e = .returned (.bool (atomR s.data.toList)) ∧ w = w' := by
  unfold maxLen at hs
  go_enter Tryz.func38, Tryz.ntmps38
  go_wp2
  go_loop [3] (fun i => ∃ k : Nat, k ≤ s.size ∧ i = .int .i64 k ∧ ∀ j (hj : j < s.size), j < k → isAt s[j] = true) (fun i => s.size - (intOf i).toNat)
  case atStart => exact ⟨0, Nat.zero_le _, rfl, fun j _ hj => by omega⟩
  case round =>
    obtain ⟨k, hk, rfl, hall⟩ := hrel
    have HA := Lib.hid hall
    clear hall
    by_cases hlt : k < s.size
    · go_wp2
      all_goals first
        | (go_ret
           refine ⟨ret_bool (atom_no hlt (isAt_no ?_ ?_)).symm, rfl⟩
           all_goals omega)
        | (go_round
           case rel =>
             refine ⟨k + 1, by omega, by go_num, fun j hj hj' => ?_⟩
             by_cases e : j = k
             · subst e; exact isAt_yes (by omega)
             · exact HA.out j hj (by omega)
           case measure => simp [intOf]; omega)
    · have e : k = s.size := by omega
      subst e
      by_cases h1 : s.size < 1
      · have HE := Lib.hid (atom_size (s := s) (.inl h1))
        go_wp2
        all_goals go_ret
        all_goals exact ⟨ret_bool (by first | exact HE.out.symm | (rw [HE.out]; simp; done) | (rw [HE.out]; simp; omega)), rfl⟩
      · by_cases h8 : 8 < s.size
        · have HE := Lib.hid (atom_size (s := s) (.inr h8))
          go_wp2
          all_goals go_ret
          all_goals exact ⟨ret_bool (by first | exact HE.out.symm | (rw [HE.out]; simp; done) | (rw [HE.out]; simp; omega)), rfl⟩
        · have HE := Lib.hid (atom_yes (s := s) (by omega) (by omega) fun j hj => HA.out j hj hj)
          go_wp2
          all_goals go_ret
          all_goals exact ⟨ret_bool (by first | exact HE.out.symm | (rw [HE.out]; simp; done) | (rw [HE.out]; simp; omega)), rfl⟩
end Go.Proofs.YtonjohlecomeoaaGreat.atm

/- Small laws of my own: a block of bytes that the call makes by make and fills by copy; join. -/
namespace Go.Proofs.YtonjohlecomeoaaGreat.row
open Go.RowKit Go.Proofs.YtonjohlecomeoaaGreat.lib
set_option linter.unusedVariables false

def u8s (l : List UInt8) : List Value := l.map fun b => Value.int .u8 b.toNat
/-- Block g holds the bytes l, and no more. -/
def Row (w : World) (g : Nat) (l : List UInt8) : Prop := w.heap[g]? = some (.cells (u8s l).toArray 5 (0, 0))

theorem Row.own {w : World} {g B : Nat} {l : List UInt8} (h : Row w g l) (hB : B ≤ g) (hl : l.length ≤ maxLen) : B8 w B (.slice (some ⟨g, 0, none⟩) l.length l.length) l := by
  refine ⟨by simp, .inr ⟨g, l.length, (u8s l).toArray, rfl, hB, h, Nat.le_refl _, hl, by simp [u8s], ?_⟩⟩
  rw [List.toList_toArray, List.take_of_length_le (by simp [u8s])]
  rfl

section
variable {w : World} {ops : Array Oper} {rest : List Oper} {o : Oper} {a : Act} {Q : Exit → Act → World → Prop}

set_option maxRecDepth 100000 in
theorem wp_make (l c : Operand) (n : Nat) (kl kc : IntKind) (L C : Int) (hgd : o.guard = none) (ho : o.op = Op.makeSlice 44 l c)
    (hl : a.eval l = .int kl L) (hc : a.eval c = .int kc C) (hL : L = (n : Int)) (hC : C = (n : Int)) (hn : n ≤ 281474976710656)
    (h : ∀ w', Row w' w.heap.size (List.replicate n 0) → Below w.heap.size w w' → w'.heap.size = w.heap.size + 1 →
      wpList Tryz.prog ops Q rest (a.put o.dst (.slice (some ⟨w.heap.size, 0, none⟩) n n)) w') : wpList Tryz.prog ops Q (o :: rest) a w := by
  obtain ⟨i0, hi, hz0, hz1, hz2⟩ := info_parts infoE
  refine wpList_plain hgd fun K hK => ?_
  subst hL
  subst hC
  have hrun := run_make (P := Tryz.prog) w 44 5 i0 (.int .u8 0) Tryz.underlying44 hi hz0 kl kc n n (by omega) (by omega) (by rw [hz2]; omega) (by omega)
  simp only [Int.toNat_natCast, hz1, Nat.mul_one] at hrun
  unfold Oper.wp
  simp [execOp, ho, hl, hc, hrun, Result.andThen]
  refine hK _ _ (h _ ?_ ((Below.refl _ _).alloc (Nat.le_refl _) _) (by simp))
  unfold Row
  rw [heap_alloc_new]
  have e : madeCells (Value.int .u8 0).cells n = (u8s (List.replicate n 0)).toArray := by
    apply Array.toList_inj.1
    show (madeCells #[Value.int .u8 0] n).toList = _
    rw [toList_madeCells_one]
    simp [u8s]
  rw [e]

set_option maxRecDepth 100000 in
theorem wp_copyS (d s : Operand) (g off dLen dCap : Nat) (ao : Option Addr) (l : List UInt8) (b : ByteArray) (B : Nat) (hgd : o.guard = none)
    (ho : o.op = .call { callee := .builtin .copy, args := #[d, s], argTypes := #[44, 9] })
    (hd : a.eval d = .slice ao dLen dCap) (hs : a.eval s = .string b) (hao : 0 < b.size → ao = some ⟨g, off, none⟩) (hrow : Row w g l) (hle : b.size ≤ dLen) (hfit : off + b.size ≤ l.length) (hB : B ≤ g)
    (h : ∀ w', Row w' g (l.take off ++ (b.data.toList ++ l.drop (off + b.size))) → Below B w w' → w'.heap.size = w.heap.size → wpList Tryz.prog ops Q rest (a.put o.dst (goInt b.size)) w') :
    wpList Tryz.prog ops Q (o :: rest) a w := by
  have hsz : (Tryz.prog.info? 5).map (·.size) = some 1 := by
    obtain ⟨i0, hi, hz0, hz1, hz2⟩ := info_parts infoE
    rw [hi]
    simpa using hz1
  refine wpList_plain hgd fun K hK => ?_
  by_cases h0 : b.size = 0
  · have hrun := Lib.run_copy_empty_string (P := Tryz.prog) w 44 9 o.type 5 ao dLen dCap b Tryz.underlying44 (by simp [hsz]) h0
    unfold Oper.wp execOp
    simp only [ho, resolve, invoke, builtin, Sem.run_bind, Sem.run_pure, Result.andThen_ok, List.map_toArray, List.map_cons, List.map_nil, hd, hs, hrun]
    have e : b.data.toList = [] := List.eq_nil_of_length_eq_zero (by simpa using h0)
    have := h w (by rw [e, h0]; simpa using hrow) (Below.refl _ _) rfl
    rw [h0] at this
    exact hK _ _ this
  · obtain rfl := hao (by omega)
    have hrun := Lib.run_copy_row_string (P := Tryz.prog) w 44 9 o.type 5 g off dLen dCap b (u8s l).toArray 5 Tryz.underlying44 hsz hrow hle (by simpa [u8s] using hfit)
    unfold Oper.wp execOp
    simp only [ho, resolve, invoke, builtin, Sem.run_bind, Sem.run_pure, Result.andThen_ok, List.map_toArray, List.map_cons, List.map_nil, hd, hs, hrun]
    refine hK _ _ (h _ ?_ (below_setRow (Below.refl _ _) hB _) (by simp))
    unfold Row
    rw [setRow_heap w g _ _ _ _ hrow]
    congr 3
    simp [u8s, Lib.byteCells, List.map_take, List.map_drop]
end

set_option maxRecDepth 100000 in
theorem wp_strRow {w : World} {ops : Array Oper} {rest : List Oper} {o : Oper} {a : Act} {Q : Exit → Act → World → Prop} (x : Operand) (g n : Nat) (l : List UInt8) (hgd : o.guard = none) (ho : o.op = .convert 44 9 x)
    (hs : a.eval x = .slice (some ⟨g, 0, none⟩) n n) (hrow : Row w g l) (hn : l.length = n) (hm : n ≤ 1000000000)
    (h : wpList Tryz.prog ops Q rest (a.put o.dst (.string ⟨l.toArray⟩)) w) : wpList Tryz.prog ops Q (o :: rest) a w := by
  subst hn
  exact wp_str x g _ l hgd ho hs (hrow.own (Nat.le_refl _) (by unfold maxLen; omega)) h

theorem append_data (x y : ByteArray) : (⟨(x.data.toList ++ y.data.toList).toArray⟩ : ByteArray) = x ++ y := by
  apply ByteArray.ext
  apply Array.toList_inj.1
  simp

theorem empty_list : ByteArray.empty.data.toList = [] := rfl

theorem join_one (n : Nat) (x : List UInt8) (k : Nat) (hx : x.length = k) (hn : n = k) :
    (List.replicate n (0 : UInt8)).take 0 ++ (x ++ (List.replicate n (0 : UInt8)).drop (0 + k)) = x := by
  subst hn
  simp

theorem join_two (x y : List UInt8) (k m : Nat) (hx : x.length = k) (hy : y.length = m) :
    ((List.replicate (k + m) (0 : UInt8)).take 0 ++ (x ++ (List.replicate (k + m) (0 : UInt8)).drop (0 + k))).take k ++
      (y ++ ((List.replicate (k + m) (0 : UInt8)).take 0 ++ (x ++ (List.replicate (k + m) (0 : UInt8)).drop (0 + k))).drop (k + m)) = x ++ y := by
  subst hx
  subst hy
  simp

end Go.Proofs.YtonjohlecomeoaaGreat.row

/- Contracts: strings.Clone. -/
namespace Go.Proofs.YtonjohlecomeoaaGreat.clo
open Go.RowKit Go.Proofs.YtonjohlecomeoaaGreat.lib Go.Proofs.YtonjohlecomeoaaGreat.row
set_option linter.unusedVariables false

theorem clone0 (s : ByteArray) (h : s.size = 0) : s = ByteArray.empty := by
  apply ByteArray.ext
  exact Array.eq_empty_of_size_eq_zero h

set_option maxRecDepth 100000 in
theorem wp_unsafeStr {w : World} {ops : Array Oper} {rest : List Oper} {o : Oper} {a : Act} {Q : Exit → Act → World → Prop} (p n : Operand) (g : Nat) (l : List UInt8) (N : Int) (B : Nat) (hgd : o.guard = none)
    (ho : o.op = .call { callee := .builtin .unsafeString, args := #[p, n], argTypes := #[173, 3] })
    (hp : a.eval p = .pointer (some ⟨g, 0, none⟩)) (hn : a.eval n = .int .i64 N) (hN : N = (l.length : Int)) (h0 : l ≠ []) (hrow : Row w g l) (hm : l.length ≤ 1000000000) (hB : B ≤ g)
    (h : ∀ w', Below B w w' → wpList Tryz.prog ops Q rest (a.put o.dst (.string ⟨l.toArray⟩)) w') : wpList Tryz.prog ops Q (o :: rest) a w := by
  refine wpList_plain hgd fun K hK => ?_
  subst hN
  have hco : Tryz.prog.cellsOf 5 = 1 := by kernel_rfl
  have hrun := Lib.run_unsafeString_row (P := Tryz.prog) w 173 3 o.type 5 Tryz.underlying173 hco g (u8s l).toArray.size (by unfold World.shape?; rw [hrow]) l h0 (by simp [u8s]) (by omega)
    (fun j x hx => by
      have hj : j < l.length := (List.getElem?_eq_some_iff.1 hx).1
      rw [Addr.add_lit, Nat.zero_add, cell_of_row _ g j _ 5 (0, 0) hrow]
      simp [u8s, hx])
  unfold Oper.wp execOp
  simp only [ho, resolve, invoke, builtin, Sem.run_bind, Sem.run_pure, Result.andThen_ok, List.map_toArray, List.map_cons, List.map_nil, hp, hn, hrun]
  exact hK _ _ (h _ (Lib.below_freeze (Below.refl _ _) (p := ⟨g, 0, none⟩) hB _))

set_option maxRecDepth 100000 in
theorem sliteClone_calls (s : ByteArray) (hs : s.size ≤ 1000000) (w : World) :
    Calls Tryz.prog 110 #[.string s] w fun e w' => e = .returned (.string s) ∧ Below w.heap.size w w' := by
  by_cases h0 : s.size = 0
  · obtain rfl := clone0 s h0
    go_enter Tryz.func110, Tryz.ntmps110
    go_wp2
    go_ret
    exact ⟨rfl, Below.refl _ _⟩
  · have hb0 : ((s.size : Int) == 0) = false := by rw [beq_eq_false_iff_ne]; omega
    have hp : 0 < s.size := by omega
    have hne := Lib.hid (show s.data.toList ≠ [] from fun e => h0 (by have := congrArg List.length e; simpa using this))
    clear h0
    go_enter Tryz.func110, Tryz.ntmps110
    go_wp2_with (first
      | (at_make; refine wp_make (.tmp 8) (.tmp 8) s.size .i64 .i64 _ _ rfl rfl rfl rfl rfl rfl (by omega) ?_; intro w1 hr1 hb1 hz1)
      | (refine wp_copyS (.tmp 10) (.tmp 11) w.heap.size 0 _ _ _ _ s w.heap.size rfl rfl rfl rfl (fun _ => rfl) hr1 (by omega) (by simp) (Nat.le_refl _) ?_; intro w2 hr2 hb2 hz2; rw [join_one s.size s.data.toList s.size (by simp) rfl] at hr2)
      | (refine wp_unsafeStr (.tmp 14) (.tmp 16) w.heap.size s.data.toList _ w.heap.size rfl rfl rfl rfl (by simp) hne.out hr2 (by simp; omega) (Nat.le_refl _) ?_; intro w3 hb3))
    go_ret
    exact ⟨ret_str (by simp), hb1.trans (hb2.trans hb3)⟩

theorem clone_calls (s : ByteArray) (hs : s.size ≤ 1000000) (w : World) :
    Calls Tryz.prog 60 #[.string s] w fun e w' => e = .returned (.string s) ∧ Below w.heap.size w w' := by
  go_enter Tryz.func60, Tryz.ntmps60
  go_wp2_with (go_at_call 110; refine (sliteClone_calls s hs _).mono ?_; rintro e w1 ⟨rfl, hb1⟩)
  go_ret
  exact ⟨rfl, hb1⟩

/-- A block of three cells, as the walk wants it told. -/
theorem three_cells {w : World} {g : Nat} {x y z : Value} {t : TypeId} (h : w.heap[g]? = some (.cells #[x, y, z] t (0, 0))) :
    w.cell? ⟨g, 0, none⟩ = some x ∧ w.cell? ⟨g, 1, none⟩ = some y ∧ w.cell? ⟨g, 2, none⟩ = some z ∧ w.frozen? ⟨g, 0, none⟩ = false ∧ w.frozen? ⟨g, 1, none⟩ = false ∧ w.frozen? ⟨g, 2, none⟩ = false :=
  ⟨by rw [cell_of_row w g 0 _ t (0, 0) h]; rfl, by rw [cell_of_row w g 1 _ t (0, 0) h]; rfl, by rw [cell_of_row w g 2 _ t (0, 0) h]; rfl,
    frozen_of_row w g 0 _ t h, frozen_of_row w g 1 _ t h, frozen_of_row w g 2 _ t h⟩

theorem new_kept {w w2 : World} {o : Obj} (h : Below (w.alloc o).heap.size (w.alloc o) w2) : w2.heap[w.heap.size]? = some o := by
  rw [h.block w.heap.size (by simp)]
  exact heap_alloc_new w o
end Go.Proofs.YtonjohlecomeoaaGreat.clo

/- Small frames; a text and a code as a value. -/
namespace Go.Proofs.YtonjohlecomeoaaGreat.sop
open Go.RowKit Go.Proofs.YtonjohlecomeoaaGreat.tm Go.Proofs.YtonjohlecomeoaaGreat.lib Go.Proofs.YtonjohlecomeoaaGreat.rdr Go.Proofs.YtonjohlecomeoaaGreat.bld Go.Proofs.YtonjohlecomeoaaGreat.app
set_option linter.unusedVariables false

theorem fin2 {w w3 : World} {o0 : Obj} (h : Below (w.alloc o0).heap.size (w.alloc o0) w3) (a b : Value) (o : Obj) : Below w.heap.size w (((w3.setCell ⟨w.heap.size, 0, none⟩ a).setCell ⟨w.heap.size, 1, none⟩ b).alloc o) := by
  have hz := h.size
  simp at hz
  exact (((((Below.refl _ _).alloc (Nat.le_refl _) _).trans (h.mono (by simp))).setCell (by simp) _).setCell (by simp) _).alloc (by simp [World.setCell]; omega) _
theorem fin3 {w w3 : World} {o0 : Obj} (h : Below (w.alloc o0).heap.size (w.alloc o0) w3) (a b : Value) : Below w.heap.size w ((w3.setCell ⟨w.heap.size, 0, none⟩ a).setCell ⟨w.heap.size, 1, none⟩ b) :=
  ((((Below.refl _ _).alloc (Nat.le_refl _) _).trans (h.mono (by simp))).setCell (by simp) _).setCell (by simp) _

def outVal (r : Bs) (c : Int) : Value := .agg #[str r, .int .i64 c]

end Go.Proofs.YtonjohlecomeoaaGreat.sop

/- Small laws on letters that are handed back. -/
namespace Go.Proofs.YtonjohlecomeoaaGreat.sgv
open Go.RowKit Go.Proofs.YtonjohlecomeoaaGreat.tm Go.Proofs.YtonjohlecomeoaaGreat.lib Go.Proofs.YtonjohlecomeoaaGreat.rdr Go.Proofs.YtonjohlecomeoaaGreat.bld Go.Proofs.YtonjohlecomeoaaGreat.app Go.Proofs.YtonjohlecomeoaaGreat.mrk Go.Proofs.YtonjohlecomeoaaGreat.mrs Go.Proofs.YtonjohlecomeoaaGreat.ltv
set_option linter.unusedVariables false

def outA (m : Lt) (v : Value) (c : Int) : Array Value := #[.int .i64 m.k, .int .i64 m.f, .int .i64 m.t, .int .i64 m.c, v, str m.a, str m.b, .int .i64 c]

theorem Wrs.set {w : World} {B : Nat} {v : Value} {ls : List Bs} (h : Wrs w B v ls) {p : Addr} (hp : p.block < B) (x : Value) : Wrs (w.setCell p x) B v ls := by
  rcases h with h | ⟨g, off, cap, e, hB, hg, hc, hf⟩
  · exact .inl h
  · refine .inr ⟨g, off, cap, e, hB, by simpa [World.setCell] using hg, fun j l hj => ?_, fun j hj => ?_⟩
    · rw [World.cell?_setCell_other _ _ _ _ (fun e' => by have := congrArg Addr.block e'; simp at this; omega)]; exact hc j l hj
    · rw [World.frozen?_setCell]; exact hf j hj
theorem Wrs.base {w : World} {B B' : Nat} {v : Value} {ls : List Bs} (h : Wrs w B v ls) (hB : B' ≤ B) : Wrs w B' v ls := by
  rcases h with h | ⟨g, off, cap, e, hb, r⟩
  · exact .inl h
  · exact .inr ⟨g, off, cap, e, by omega, r⟩
theorem Wrs.below {w w' : World} {B : Nat} {v : Value} {ls : List Bs} (h : Wrs w B v ls) (k : Below w.heap.size w w') : Wrs w' B v ls := by
  rcases h with h | ⟨g, off, cap, e, hB, hg, hc, hf⟩
  · exact .inl h
  · refine .inr ⟨g, off, cap, e, hB, Nat.lt_of_lt_of_le hg k.size, fun j l hj => ?_, fun j hj => ?_⟩
    · rw [← hc j l hj]; exact k.cell (p := ⟨g, off + j, none⟩) hg
    · rw [← hf j hj]; exact k.frozen (p := ⟨g, off + j, none⟩) hg
theorem set8 {B : Nat} {w w' : World} (h : Below B w w') {b : Nat} (hb : B ≤ b) (v0 v1 v2 v3 v4 v5 v6 v7 : Value) : Below B w ((((((((w'.setCell ⟨b, 0, none⟩ v0).setCell ⟨b, 1, none⟩ v1).setCell ⟨b, 2, none⟩ v2).setCell ⟨b, 3, none⟩ v3).setCell ⟨b, 4, none⟩ v4).setCell ⟨b, 5, none⟩ v5).setCell ⟨b, 6, none⟩ v6).setCell ⟨b, 7, none⟩ v7) :=
  (((((((h.setCell hb _).setCell hb _).setCell hb _).setCell hb _).setCell hb _).setCell hb _).setCell hb _).setCell hb _
theorem wset8 {B B' : Nat} {w : World} {u : Value} {ls : List Bs} (h : Wrs w B u ls) {b : Nat} (hb : b < B) (hB : B' ≤ B) (v0 v1 v2 v3 v4 v5 v6 v7 : Value) : Wrs ((((((((w.setCell ⟨b, 0, none⟩ v0).setCell ⟨b, 1, none⟩ v1).setCell ⟨b, 2, none⟩ v2).setCell ⟨b, 3, none⟩ v3).setCell ⟨b, 4, none⟩ v4).setCell ⟨b, 5, none⟩ v5).setCell ⟨b, 6, none⟩ v6).setCell ⟨b, 7, none⟩ v7) B' u ls :=
  Wrs.base (Wrs.set (Wrs.set (Wrs.set (Wrs.set (Wrs.set (Wrs.set (Wrs.set (Wrs.set h hb _) hb _) hb _) hb _) hb _) hb _) hb _) hb _) hB
theorem eight {w : World} {b : Nat} {v0 v1 v2 v3 v4 v5 v6 v7 : Value} {t : TypeId} (h : w.heap[b]? = some (.cells #[v0, v1, v2, v3, v4, v5, v6, v7] t (0, 0))) :
    w.cell? ⟨b, 0, none⟩ = some v0 ∧ w.cell? ⟨b, 1, none⟩ = some v1 ∧ w.cell? ⟨b, 2, none⟩ = some v2 ∧ w.cell? ⟨b, 3, none⟩ = some v3 ∧ w.cell? ⟨b, 4, none⟩ = some v4 ∧ w.cell? ⟨b, 5, none⟩ = some v5 ∧ w.cell? ⟨b, 6, none⟩ = some v6 ∧ w.cell? ⟨b, 7, none⟩ = some v7 ∧ b < w.heap.size ∧ ∀ o, w.frozen? ⟨b, o, none⟩ = false := by
  refine ⟨?_, ?_, ?_, ?_, ?_, ?_, ?_, ?_, (Array.getElem?_eq_some_iff.1 h).1, fun o => by simp [World.frozen?, h]⟩ <;> (rw [cell_of_row w b _ _ t (0, 0) h]; rfl)
theorem alloc2 (w : World) (a b : Obj) : ((w.alloc a).alloc b).heap[w.heap.size]? = some a ∧ ((w.alloc a).alloc b).heap[w.heap.size + 1]? = some b := by
  refine ⟨(Below.heap_alloc _ _ _ (by simp)).trans (heap_alloc_new w a), ?_⟩
  have := heap_alloc_new (w.alloc a) b
  rw [World.size_alloc] at this
  exact this
end Go.Proofs.YtonjohlecomeoaaGreat.sgv

/- Small laws about worlds that only grew since some base: what the walks of chapter 7 lean on. -/
namespace Go.Proofs.YtonjohlecomeoaaGreat.blw
open Go.RowKit
set_option linter.unusedVariables false

theorem al0 {w : World} (o : Obj) : Below w.heap.size w (w.alloc o) := (Below.refl _ _).alloc (Nat.le_refl _) o
theorem al1 {w W : World} (h : Below w.heap.size w W) (o : Obj) : Below w.heap.size w (W.alloc o) := h.alloc h.size o
theorem al2 {w W : World} (h : Below w.heap.size w W) (o p : Obj) : Below w.heap.size w ((W.alloc o).alloc p) := al1 (al1 h o) p
theorem al3 {w W : World} (h : Below w.heap.size w W) (o p q : Obj) : Below w.heap.size w (((W.alloc o).alloc p).alloc q) := al1 (al2 h o p) q
theorem al4 {w W : World} (h : Below w.heap.size w W) (o p q r : Obj) : Below w.heap.size w ((((W.alloc o).alloc p).alloc q).alloc r) := al1 (al3 h o p q) r
theorem on {F : FuncId} {args : Array Value} {w W : World} {v : Value} (k : Below w.heap.size w W) (h : Calls Tryz.prog F args W fun e w' => e = .returned v ∧ Below W.heap.size W w') :
    Calls Tryz.prog F args W fun e w' => e = .returned v ∧ Below w.heap.size w w' :=
  h.mono (by rintro e w' ⟨rfl, hb⟩; exact ⟨rfl, k.trans (hb.mono k.size)⟩)
theorem still {F : FuncId} {args : Array Value} {w W : World} {v : Value} (k : Below w.heap.size w W) (h : Calls Tryz.prog F args W fun e w' => e = .returned v ∧ W = w') :
    Calls Tryz.prog F args W fun e w' => e = .returned v ∧ Below w.heap.size w w' :=
  h.mono (by rintro e w' ⟨rfl, rfl⟩; exact ⟨rfl, k⟩)
/-- .. back to an older base. -/
theorem base {w w0 W : World} (k : Below w.heap.size w w0) (h : Below w0.heap.size w0 W) : Below w.heap.size w W := k.trans (h.mono k.size)
theorem keptB {W W' : World} {b : Nat} {o : Obj} (h : W.heap[b]? = some o) (k : Below W.heap.size W W') : W'.heap[b]? = some o :=
  (k.block b (Array.getElem?_eq_some_iff.1 h).1).trans h
theorem keptA {W : World} {b : Nat} {o : Obj} (h : W.heap[b]? = some o) (p : Obj) : (W.alloc p).heap[b]? = some o := keptB h (al0 p)
theorem cellB {W W' : World} {b i : Nat} {v : Value} (h : W.cell? ⟨b, i, none⟩ = some v) (k : Below W.heap.size W W') (hb : b < W.heap.size) : W'.cell? ⟨b, i, none⟩ = some v := (k.cell (p := ⟨b, i, none⟩) hb).trans h
end Go.Proofs.YtonjohlecomeoaaGreat.blw
