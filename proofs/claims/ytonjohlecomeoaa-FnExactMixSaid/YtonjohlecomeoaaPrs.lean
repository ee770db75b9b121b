/- Contracts of readAtom, readOp, readOne: they read what the plain function rd reads, or refuse. -/
import Derived.Test.YtonjohlecomeoaaApp
import Derived.Test.YtonjohlecomeoaaAtm
import Derived.Test.YtonjohlecomeoaaClo
namespace Go.Proofs.Ytonjohlecomeoaa.prs
open Go.RowKit Go.Proofs.Ytonjohlecomeoaa.tm Go.Proofs.Ytonjohlecomeoaa.lib Go.Proofs.Ytonjohlecomeoaa.rdr Go.Proofs.Ytonjohlecomeoaa.bld Go.Proofs.Ytonjohlecomeoaa.app
set_option linter.unusedVariables false

theorem implAtom_at (l : Bs) (hl : l.length ≤ 4000000000) (t : Bool) (h : atomR l = t) (w : World) :
    Calls Try.prog 28 #[.string ⟨l.toArray⟩] w fun e w' => e = .returned (.bool t) ∧ w = w' := by
  have := atm.implAtom_calls ⟨l.toArray⟩ (by unfold maxLen; show l.toArray.size ≤ _; simp; omega) w
  rw [show atomR (⟨l.toArray⟩ : ByteArray).data.toList = t from h] at this
  exact this

theorem drop_len (s : ByteArray) (p : Nat) : (s.data.toList.drop p).length = s.size - p := by rw [List.length_drop]; rfl

theorem str_size (l : Bs) : (⟨l.toArray⟩ : ByteArray).size = l.length := by show l.toArray.size = _; simp

set_option maxRecDepth 100000 in
theorem readAtom_yes (w : World) (b : Nat) (s : ByteArray) (p : Nat) (h : Rdr w b s p) (hp : p ≤ s.size) (hs : s.size ≤ 3000) (ha : atomR (word (s.data.toList.drop p)) = true) :
    Calls Try.prog 101 #[.pointer (some ⟨b, 0, none⟩)] w fun e w' =>
      e = .returned (val (.atom (word (s.data.toList.drop p)))) ∧ Only b w w' ∧ Rdr w' b s (p + (word (s.data.toList.drop p)).length) := by
  have a1 := implAtom_at (word (s.data.toList.drop p)) (by have := atomR_len ha; omega) true ha
  have hn := (atomR_len ha).2
  have H := Lib.hid h
  clear h ha
  simp only [val]
  obtain ⟨W, hW⟩ : ∃ W, W = word (s.data.toList.drop p) := ⟨_, rfl⟩
  have r1 := readWord_calls w b s p H.out hp (by omega)
  rw [← hW] at a1 hn r1 ⊢
  clear hW
  go_enter Try.func101, Try.ntmps101
  go_wp2_with fail
  refine r1.mono ?_
  rintro e w1 ⟨rfl, ho, hr⟩
  have HO := Lib.hid ho
  have HR := Lib.hid hr
  clear ho hr
  go_wp2_with (first | (go_at_call 28; refine (a1 _).mono ?_; rintro e w2 ⟨rfl, rfl⟩) | (go_at_call 33; refine (clo.clone_calls _ (by rw [str_size]; omega) _).mono ?_; rintro e w2 ⟨rfl, hb2⟩))
  go_ret
  exact ⟨rfl, HO.out.trans (Only.of_below hb2), Rdr.below HR.out hb2⟩

set_option maxRecDepth 100000 in
theorem readAtom_no (w : World) (b : Nat) (s : ByteArray) (p : Nat) (h : Rdr w b s p) (hp : p ≤ s.size) (hs : s.size ≤ 3000) (ha : atomR (word (s.data.toList.drop p)) = false) :
    Calls Try.prog 101 #[.pointer (some ⟨b, 0, none⟩)] w fun e w' => e = fault 1 ∧ Only b w w' := by
  have a1 := implAtom_at (word (s.data.toList.drop p)) (by have := word_le (s.data.toList.drop p); have := drop_len s p; omega) false ha
  have H := Lib.hid h
  clear h ha
  go_enter Try.func101, Try.ntmps101
  go_wp2_with fail
  refine (readWord_calls w b s p H.out hp (by omega)).mono ?_
  rintro e w1 ⟨rfl, ho, hr⟩
  have HO := Lib.hid ho
  clear ho hr
  go_wp2_with (first | (go_at_call 28; refine (a1 _).mono ?_; rintro e w2 ⟨rfl, rfl⟩) | (go_at_call 74; refine (refuse_calls _ _).mono ?_; rintro e w' ⟨rfl, rfl⟩))
  exact ⟨rfl, rfl, HO.out⟩

/-- What readOne is to do with fuel n (at the depth 25 - n). -/
def RO (n : Nat) : Prop := ∀ (w : World) (b : Nat) (s : ByteArray) (p : Nat) (d : Int), Rdr w b s p → p ≤ s.size → s.size ≤ 3000 → d + n = 25 →
  (∀ T r, rd n (s.data.toList.drop p) = some (T, r) → Calls Try.prog 84 #[.pointer (some ⟨b, 0, none⟩), .int .i64 d] w fun e w' => e = .returned (val T) ∧ Only b w w' ∧ Rdr w' b s (p + T.tx.length)) ∧
  (rd n (s.data.toList.drop p) = none → Calls Try.prog 84 #[.pointer (some ⟨b, 0, none⟩), .int .i64 d] w fun e w' => e = fault 1 ∧ Only b w w')

/-- What readOp is to do, where '[' stands. -/
def RP (n : Nat) : Prop := ∀ (w : World) (b : Nat) (s : ByteArray) (p : Nat) (d : Int), Rdr w b s p → p < s.size → s.size ≤ 3000 → d + n = 24 → 0 ≤ d → nx (s.data.toList.drop p) = 91 →
  (∀ T r, rd (n + 1) (s.data.toList.drop p) = some (T, r) → Calls Try.prog 100 #[.pointer (some ⟨b, 0, none⟩), .int .i64 d] w fun e w' => e = .returned (val T) ∧ Only b w w' ∧ Rdr w' b s (p + T.tx.length)) ∧
  (rd (n + 1) (s.data.toList.drop p) = none → Calls Try.prog 100 #[.pointer (some ⟨b, 0, none⟩), .int .i64 d] w fun e w' => e = fault 1 ∧ Only b w w')

theorem nx_head (l : Bs) (h : nx l = 91) : l.head? = some 91 := by
  cases l with
  | nil => exact absurd h (by decide)
  | cons c l => simp [nx] at h; simp [h]
theorem nx_head_no (l : Bs) (h : nx l ≠ 91) : ¬ l.head? = some 91 := by
  cases l with
  | nil => simp
  | cons c l => simp [nx] at h; simpa using h

set_option maxRecDepth 100000 in
theorem ro_zero : RO 0 := by
  intro w b s p d h hp hs hd
  obtain rfl : d = 25 := by omega
  refine ⟨fun T r e => by simp [rd] at e, fun _ => ?_⟩
  go_enter Try.func84, Try.ntmps84
  go_wp2_with (go_at_call 74; refine (refuse_calls _ _).mono ?_; rintro e w' ⟨rfl, rfl⟩)
  exact ⟨rfl, rfl, Only.refl _ _⟩

set_option maxRecDepth 100000 in
theorem ro_succ (n : Nat) (hn : n ≤ 23) (hp' : RP n) : RO (n + 1) := by
  intro w b s p d h hp hs hd
  have dd : decide (24 < d) = false := by simp; omega
  by_cases h91 : nx (s.data.toList.drop p) = 91
  · have hlt : p < s.size := by
      rcases Nat.lt_or_ge p s.size with h' | h'
      · exact h'
      · rw [nx_end s p h'] at h91; exact absurd h91 (by decide)
    have K : ∀ w1, Still w w1 → _ := fun w1 k => hp' w1 b s p d (k.rdr h) hlt hs (by omega) (by omega) h91
    have H := Lib.hid h
    have HK := Lib.hid K
    have H91 := Lib.hid h91
    clear h K hp' h91 hd
    refine ⟨fun T r e => ?_, fun e => ?_⟩
    all_goals
      have HE := Lib.hid e
      clear e
      go_enter Try.func84, Try.ntmps84
      go_wp2_with fail
      refine (next_calls _ _ _ _ H.out hp (by omega)).mono ?_
      rintro e w1 ⟨rfl, h1⟩
      rw [H91.out]
      have k1 := HK.out w1 h1
      have H1 := Lib.hid h1
      have HK1 := Lib.hid k1
      clear h1 k1
      go_wp2_with fail
    · refine (HK1.out.1 T r HE.out).mono ?_
      rintro e w2 ⟨rfl, ho, hr⟩
      go_wp2_with fail
      go_ret
      exact ⟨rfl, (H1.out.only b).trans ho, hr⟩
    · refine (HK1.out.2 HE.out).mono ?_
      rintro e w2 ⟨rfl, ho⟩
      exact ⟨rfl, rfl, (H1.out.only b).trans ho⟩
  · have e1 : rd (n + 1) (s.data.toList.drop p) = if atomR (word (s.data.toList.drop p)) then some (.atom (word (s.data.toList.drop p)), past (s.data.toList.drop p)) else none := by
      rw [rd, if_neg (nx_head_no _ h91)]
    have d91 : (((nx (s.data.toList.drop p)).toNat : Int) == 91) = false := by
      rw [beq_eq_false_iff_ne]; intro e; exact h91 (UInt8.toNat_inj.1 (by show _ = 91; omega))
    have H := Lib.hid h
    clear h hp' h91 hd
    refine ⟨fun T r e => ?_, fun e => ?_⟩
    · rw [e1] at e
      split at e
      · rename_i ha
        simp only [Option.some.injEq, Prod.mk.injEq] at e
        obtain ⟨rfl, rfl⟩ := e
        have HA := Lib.hid ha
        clear ha e1
        go_enter Try.func84, Try.ntmps84
        go_wp2_with fail
        refine (next_calls _ _ _ _ H.out hp (by omega)).mono ?_
        rintro e w1 ⟨rfl, h1⟩
        have H1 := Lib.hid h1
        clear h1
        go_wp2_with fail
        refine (readAtom_yes w1 b s p (H1.out.rdr H.out) hp hs HA.out).mono ?_
        rintro e w2 ⟨rfl, ho, hr⟩
        go_wp2_with fail
        go_ret
        exact ⟨rfl, (H1.out.only b).trans ho, hr⟩
      · cases e
    · rw [e1] at e
      split at e
      · cases e
      · rename_i ha
        have HA := Lib.hid (show atomR (word (s.data.toList.drop p)) = false by simpa using ha)
        clear ha e1 e
        go_enter Try.func84, Try.ntmps84
        go_wp2_with fail
        refine (next_calls _ _ _ _ H.out hp (by omega)).mono ?_
        rintro e w1 ⟨rfl, h1⟩
        have H1 := Lib.hid h1
        clear h1
        go_wp2_with fail
        refine (readAtom_no w1 b s p (H1.out.rdr H.out) hp hs HA.out).mono ?_
        rintro e w2 ⟨rfl, ho⟩
        exact ⟨rfl, rfl, (H1.out.only b).trans ho⟩

/-- The list of the args, told from the middle on. -/
def cont (ts : List Tm) : Option (List Tm × Bs) → Option (List Tm × Bs)
  | none => none
  | some (us, r) => some (ts ++ us, r)

theorem cont_none {ts : List Tm} {o : Option (List Tm × Bs)} (h : cont ts o = none) : o = none := by cases o <;> simp [cont] at h ⊢

theorem rdArgs_stop {f : Bs → Option (Tm × Bs)} {k : Nat} {l : Bs} (h : nx l ≠ 32) : rdArgs f k l = some ([], l) := by
  cases k with
  | zero => rfl
  | succ k =>
    cases l with
    | nil => rfl
    | cons c l => simp [nx] at h; simp [rdArgs, h]

theorem rdArgs_none {f : Bs → Option (Tm × Bs)} {k : Nat} {l : Bs} (h : f l = none) : rdArgs f (k + 1) (32 :: l) = none := by simp [rdArgs, h]
theorem rdArgs_some {f : Bs → Option (Tm × Bs)} {k : Nat} {l : Bs} {T : Tm} {r : Bs} (h : f l = some (T, r)) : rdArgs f (k + 1) (32 :: l) = cont [T] (rdArgs f k r) := by
  simp only [rdArgs, if_true, h]
  cases rdArgs f k r with
  | none => rfl
  | some q => rfl
theorem cont_cont (ts us : List Tm) (o : Option (List Tm × Bs)) : cont ts (cont us o) = cont (ts ++ us) o := by
  cases o with
  | none => rfl
  | some q => simp [cont]

/-- The relation at the head of the loop. -/
structure Loop (n b B : Nat) (w : World) (s : ByteArray) (O : Option (List Tm × Bs)) (v : Value) (wr : World) (q : Nat) (ts : List Tm) (k : Nat) : Prop where
  le : q ≤ s.size
  only : Only b w wr
  rdr : Rdr wr b s q
  own : Tms wr B v ts
  fuel : (s.data.toList.drop q).length ≤ k
  told : O = cont ts (rdArgs (rd n) k (s.data.toList.drop q))
  few : ts.length ≤ q

theorem rd_next {n : Nat} {s : ByteArray} {q : Nat} {T : Tm} {r : Bs} (hq : q ≤ s.size) (h : rd n (s.data.toList.drop q) = some (T, r)) : q + T.tx.length ≤ s.size ∧ r = s.data.toList.drop (q + T.tx.length) := by
  have e := (rd_sound n _ _ _ h).1
  have hl := congrArg List.length e
  rw [List.length_append, drop_len] at hl
  refine ⟨by omega, ?_⟩
  have : (s.data.toList.drop q).drop T.tx.length = r := by rw [e]; simp
  rw [← this, List.drop_drop]

theorem nx_cons {s : ByteArray} {q : Nat} {c : UInt8} (h : nx (s.data.toList.drop q) = c) (hc : c ≠ 0) : q < s.size ∧ s.data.toList.drop q = c :: s.data.toList.drop (q + 1) := by
  have hlt : q < s.size := by
    rcases Nat.lt_or_ge q s.size with h' | h'
    · exact h'
    · rw [nx_end s q h'] at h; exact absurd h.symm hc
  refine ⟨hlt, ?_⟩
  rw [nx_lt s q hlt] at h
  rw [drop_lt s q hlt, h]

def Done (b : Nat) (s : ByteArray) (p : Nat) (w : World) (R : Option (Tm × Bs)) (e : Ending) (w' : World) : Prop :=
  (∀ T r, R = some (T, r) → e = .returned (val T) ∧ Only b w w' ∧ Rdr w' b s (p + T.tx.length)) ∧ (R = none → e = fault 1 ∧ Only b w w')

theorem Done.no {b : Nat} {s : ByteArray} {p : Nat} {w : World} {R : Option (Tm × Bs)} {w' : World} (h : R = none) (k : Only b w w') : Done b s p w R (fault 1) w' :=
  ⟨fun T r e => (by rw [h] at e; cases e), fun _ => ⟨rfl, k⟩⟩
theorem Done.yes {b : Nat} {s : ByteArray} {p : Nat} {w : World} {R : Option (Tm × Bs)} {w' : World} {T : Tm} {r : Bs} (h : R = some (T, r)) (k : Only b w w') (m : Rdr w' b s (p + T.tx.length)) : Done b s p w R (.returned (val T)) w' :=
  ⟨fun T' r' e => (by rw [h] at e; cases e; exact ⟨rfl, k, m⟩), fun e => (by rw [h] at e; cases e)⟩

theorem closed_no {op : Bs} {ts : List Tm} {l : Bs} (h : nx l ≠ 93) : closed op (some (ts, l)) = none := by
  cases l with
  | nil => rfl
  | cons c l => simp [nx] at h; simp [closed, h]
theorem closed_yes {op : Bs} {ts : List Tm} {l : Bs} : closed op (some (ts, 93 :: l)) = (build op ts).map fun t => (t, l) := by simp [closed]

theorem place_of {n : Nat} {s : ByteArray} {p q : Nat} {T : Tm} (hp : p ≤ s.size) (hq : q ≤ s.size) (h : rd n (s.data.toList.drop p) = some (T, s.data.toList.drop q)) : p + T.tx.length = q := by
  have e := congrArg List.length (rd_sound n _ _ _ h).1
  rw [List.length_append, drop_len, drop_len] at e
  omega

set_option maxHeartbeats 1000000 in
set_option maxRecDepth 100000 in
theorem rp_done (n : Nat) (ro : RO n) (w : World) (b : Nat) (s : ByteArray) (p : Nat) (d : Int) (h : Rdr w b s p) (hp : p < s.size) (hs : s.size ≤ 3000) (hd : d + n = 24) (hd0 : 0 ≤ d) (h91 : nx (s.data.toList.drop p) = 91) :
    Calls Try.prog 100 #[.pointer (some ⟨b, 0, none⟩), .int .i64 d] w (Done b s p w (rd (n + 1) (s.data.toList.drop p))) := by
  obtain ⟨_, e91⟩ := nx_cons h91 (by decide)
  have hb := (two h).2.2.2.2
  obtain ⟨O, hO⟩ : ∃ O, O = rdArgs (rd n) (past (s.data.toList.drop (p + 1))).length (past (s.data.toList.drop (p + 1))) := ⟨_, rfl⟩
  obtain ⟨op, hop⟩ : ∃ op, op = word (s.data.toList.drop (p + 1)) := ⟨_, rfl⟩
  have erd : rd (n + 1) (s.data.toList.drop p) = closed op O := by
    rw [rd, if_pos (nx_head _ h91), e91, hO, hop]
    rfl
  have epd := past_drop s (p + 1)
  rw [← hop] at epd
  have hle : p + 1 + op.length ≤ s.size := by
    have := word_le (s.data.toList.drop (p + 1))
    rw [← hop, drop_len] at this
    omega
  obtain ⟨R, hR⟩ : ∃ R, R = rd (n + 1) (s.data.toList.drop p) := ⟨_, rfl⟩
  rw [← hR]
  have er : R = closed op O := by rw [hR, erd]
  have rw1 : ∀ w1, Rdr w1 b s (p + 1) → _ := fun w1 k => readWord_calls w1 b s (p + 1) k (by omega) (by omega)
  rw [← hop] at rw1
  have H := Lib.hid h
  have H91 := Lib.hid h91
  have HO := Lib.hid hO
  have EPD := Lib.hid epd
  have HW := Lib.hid rw1
  have HD := Lib.hid hd
  have HR := Lib.hid hR
  have ER := Lib.hid er
  have HRO := Lib.hid ro
  have dw2 : d ≤ 24 := by omega
  clear h e91 h91 hO hop erd epd rw1 hd hR er ro
  go_enter Try.func100, Try.ntmps100
  go_wp2_with fail
  refine (skip_yes _ b s p 91 H.out hp (by omega) H91.out).mono ?_
  rintro e w1 ⟨rfl, o1, r1⟩
  have O1 := Lib.hid o1
  have R1 := Lib.hid r1
  clear o1 r1
  go_wp2_with fail
  refine (HW.out w1 R1.out).mono ?_
  rintro e w2 ⟨rfl, o2, r2⟩
  have O2 := Lib.hid (O1.out.trans o2)
  have R2 := Lib.hid r2
  clear o2 r2
  go_wp2_with fail
  go_loopw [6, 11, 12, 13, 14, 15, 16, 17, 18, 19, 20, 21, 22] (fun v _ _ _ _ _ _ _ _ _ _ _ _ wr => ∃ q ts k, Loop n b w.heap.size w s O v wr q ts k) (fun _ _ _ _ _ _ _ _ _ _ _ _ _ wr => s.size - atOf wr b)
  case atStart =>
    refine ⟨p + 1 + op.length, [], (past (s.data.toList.drop (p + 1))).length, hle, O2.out, R2.out, Tms.nil _ _, ?_, ?_, by simp⟩
    · rw [EPD.out]; exact Nat.le_refl _
    · rw [HO.out, EPD.out]
      cases rdArgs (rd n) _ _ <;> rfl
  case round =>
    obtain ⟨q, ts, k, L⟩ := hrel
    have HL := Lib.hid L
    have HAT := Lib.hid (atOf_rdr L.rdr)
    have hq := L.le
    have hfew := L.few
    by_cases h32 : nx (s.data.toList.drop q) = 32
    · obtain ⟨hq1, e32⟩ := nx_cons h32 (by decide)
      have hk : ∃ k', k = k' + 1 := by
        have := L.fuel
        rw [e32] at this
        simp at this
        exact ⟨k - 1, by omega⟩
      obtain ⟨k, rfl⟩ := hk
      have H32 := Lib.hid h32
      have E32 := Lib.hid e32
      clear L h32 e32
      cases hrd : rd n (s.data.toList.drop (q + 1)) with
      | none =>
        have HRD := Lib.hid hrd
        have hno : R = none := by
          rw [ER.out, HL.out.told, E32.out, rdArgs_none hrd]; rfl
        have HNO := Lib.hid hno
        clear hrd hno
        go_wp2_with fail
        refine (next_calls _ _ _ _ HL.out.rdr hq (by omega)).mono ?_
        rintro e w3 ⟨rfl, h3⟩
        rw [H32.out]
        have H3 := Lib.hid h3
        clear h3
        go_wp2_with fail
        refine (skip_yes _ b s q 32 (H3.out.rdr HL.out.rdr) hq1 (by omega) H32.out).mono ?_
        rintro e w4 ⟨rfl, o4, r4⟩
        have O4 := Lib.hid (((HL.out.only).trans (H3.out.only b)).trans o4)
        have R4 := Lib.hid r4
        clear o4 r4
        go_wp2_with fail
        refine ((HRO.out w4 b s (q + 1) _ R4.out (by omega) hs (by have := HD.out; omega)).2 HRD.out).mono ?_
        rintro e w5 ⟨rfl, o5⟩
        exact ⟨rfl, Done.no HNO.out (O4.out.trans o5)⟩
      | some z =>
        obtain ⟨T, r⟩ := z
        obtain ⟨hq2, rfl⟩ := rd_next (by omega) hrd
        have HRD := Lib.hid hrd
        clear hrd
        go_wp2_with fail
        refine (next_calls _ _ _ _ HL.out.rdr hq (by omega)).mono ?_
        rintro e w3 ⟨rfl, h3⟩
        rw [H32.out]
        have H3 := Lib.hid h3
        clear h3
        go_wp2_with fail
        refine (skip_yes _ b s q 32 (H3.out.rdr HL.out.rdr) hq1 (by omega) H32.out).mono ?_
        rintro e w4 ⟨rfl, o4, r4⟩
        have O4 := Lib.hid ((H3.out.only b).trans o4)
        have R4 := Lib.hid r4
        clear o4 r4
        go_wp2_with fail
        refine ((HRO.out w4 b s (q + 1) _ R4.out (by omega) hs (by have := HD.out; omega)).1 T _ HRD.out).mono ?_
        rintro e w5 ⟨rfl, o5, r5⟩
        have O5 := Lib.hid (O4.out.trans o5)
        have R5 := Lib.hid r5
        have T5 := Lib.hid (Tms.only HL.out.own O5.out hb)
        clear o5 r5
        have hz5 : w.heap.size ≤ w5.heap.size := Nat.le_trans HL.out.only.size O5.out.size
        obtain ⟨tt, vv, ev⟩ := val_iface T
        rw [ev]
        have EV := Lib.hid ev.symm
        clear ev
        go_wp2_with (at_builtin; refine wp_putT (.tmp 16) (.tmp 21) T _ EV.out w.heap.size _ ts rfl rfl rfl T5.out rfl (by omega) hz5 ?_; intro v6 w6 t6 b6)
        have T6 := Lib.hid t6
        have O6 := Lib.hid (only_below (HL.out.only.trans O5.out) b6)
        have R6 := Lib.hid (rdr_below R5.out b6 hb)
        clear t6 b6
        go_roundw
        case rel =>
          refine ⟨q + 1 + T.tx.length, ts ++ [T], k, hq2, O6.out, R6.out, T6.out, ?_, ?_, ?_⟩
          · have := HL.out.fuel
            rw [drop_len] at this ⊢
            omega
          · rw [HL.out.told, E32.out, rdArgs_some HRD.out, cont_cont]
          · have := HL.out.few
            simp
            omega
        case measure =>
          rw [HAT.out, atOf_rdr R6.out]
          omega
    · have H32 := Lib.hid h32
      have htold : O = some (ts, s.data.toList.drop q) := by rw [L.told, rdArgs_stop h32]; simp [cont]
      have d32 : (((nx (s.data.toList.drop q)).toNat : Int) == 32) = false := by
        rw [beq_eq_false_iff_ne]; intro e; exact h32 (UInt8.toNat_inj.1 (by show _ = 32; omega))
      have HT := Lib.hid htold
      clear h32 htold L
      by_cases h93 : nx (s.data.toList.drop q) = 93
      · obtain ⟨hq1, e93⟩ := nx_cons h93 (by decide)
        have H93 := Lib.hid h93
        have er2 : R = (build op ts).map fun t => (t, s.data.toList.drop (q + 1)) := by
          rw [ER.out, HT.out, e93, closed_yes]
        have ER2 := Lib.hid er2
        clear h93 e93 er2
        go_wp2_with fail
        refine (next_calls _ _ _ _ HL.out.rdr hq (by omega)).mono ?_
        rintro e w3 ⟨rfl, h3⟩
        have H3 := Lib.hid h3
        clear h3
        go_wp2_with fail
        refine (skip_yes _ b s q 93 (H3.out.rdr HL.out.rdr) hq1 (by omega) H93.out).mono ?_
        rintro e w4 ⟨rfl, o4, r4⟩
        have O4 := Lib.hid ((H3.out.only b).trans o4)
        have R4 := Lib.hid r4
        have T4 := Lib.hid (Tms.only HL.out.own O4.out hb)
        clear o4 r4
        go_wp2_with fail
        rcases hbd : build op ts with _ | T
        · have HBD := Lib.hid hbd
          clear hbd
          refine (build_no op ts HBD.out w4 w.heap.size _ T4.out).mono ?_
          rintro e w5 ⟨rfl, h5⟩
          exact ⟨rfl, Done.no (by rw [ER2.out, HBD.out]; rfl) ((HL.out.only.trans O4.out).trans (h5.only b))⟩
        · have HBD := Lib.hid hbd
          clear hbd
          refine (build_yes op ts T HBD.out w4 w.heap.size _ T4.out).mono ?_
          rintro e w5 ⟨rfl, h5⟩
          have H5 := Lib.hid h5
          clear h5
          go_wp2_with fail
          go_ret
          have e3 : R = some (T, s.data.toList.drop (q + 1)) := by rw [ER2.out, HBD.out]; rfl
          refine Done.yes e3 ((HL.out.only.trans O4.out).trans (H5.out.only b)) ?_
          rw [place_of (n := n + 1) (s := s) (q := q + 1) (by omega) (by omega) (by rw [← HR.out]; exact e3)]
          exact H5.out.rdr R4.out
      · have hno : R = none := by rw [ER.out, HT.out, closed_no h93]
        have HNO := Lib.hid hno
        have H93 := Lib.hid h93
        clear hno h93
        go_wp2_with fail
        refine (next_calls _ _ _ _ HL.out.rdr hq (by omega)).mono ?_
        rintro e w3 ⟨rfl, h3⟩
        have H3 := Lib.hid h3
        clear h3
        go_wp2_with fail
        refine (skip_no _ b s q 93 (H3.out.rdr HL.out.rdr) hq (by omega) H93.out).mono ?_
        rintro e w4 ⟨rfl, o4⟩
        exact ⟨rfl, Done.no HNO.out ((HL.out.only.trans (H3.out.only b)).trans o4)⟩

theorem rp_all (n : Nat) (ro : RO n) : RP n := fun w b s p d h hp hs hd hd0 h91 =>
  ⟨fun T r e => (rp_done n ro w b s p d h hp hs hd hd0 h91).mono fun _ _ k => k.1 T r e, fun e => (rp_done n ro w b s p d h hp hs hd hd0 h91).mono fun _ _ k => k.2 e⟩

theorem ro_all : ∀ n, n ≤ 24 → RO n
  | 0, _ => ro_zero
  | n + 1, h => ro_succ n (by omega) (rp_all n (ro_all n (by omega)))
end Go.Proofs.Ytonjohlecomeoaa.prs
