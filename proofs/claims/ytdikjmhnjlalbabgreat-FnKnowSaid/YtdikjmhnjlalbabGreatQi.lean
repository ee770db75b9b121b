/- Several small texts, one behind the other. -/
import Derived.Test.YtdikjmhnjlalbabGreatQg
import Derived.Test.YtdikjmhnjlalbabGreatQe
import Derived.Test.YtdikjmhnjlalbabGreatQd
import Derived.Defers
import Derived.Recover

/- Contracts of readAtom, readOp, readOne: they read what the plain function rd reads, or refuse. -/
namespace Go.Proofs.YtdikjmhnjlalbabGreat.prs
open Go.RowKit Go.Proofs.YtdikjmhnjlalbabGreat.tm Go.Proofs.YtdikjmhnjlalbabGreat.lib Go.Proofs.YtdikjmhnjlalbabGreat.rdr Go.Proofs.YtdikjmhnjlalbabGreat.bld Go.Proofs.YtdikjmhnjlalbabGreat.app
set_option linter.unusedVariables false

theorem implAtom_at (l : Bs) (hl : l.length ≤ 4000000000) (t : Bool) (h : atomR l = t) (w : World) :
    Calls Tryz.prog 103 #[.string ⟨l.toArray⟩] w fun e w' => e = .returned (.bool t) ∧ w = w' := by
  have := atm.implAtom_calls ⟨l.toArray⟩ (by unfold maxLen; show l.toArray.size ≤ _; simp; omega) w
  rw [show atomR (⟨l.toArray⟩ : ByteArray).data.toList = t from h] at this
  exact this

theorem drop_len (s : ByteArray) (p : Nat) : (s.data.toList.drop p).length = s.size - p := by rw [List.length_drop]; rfl

theorem str_size (l : Bs) : (⟨l.toArray⟩ : ByteArray).size = l.length := by show l.toArray.size = _; simp

set_option maxRecDepth 100000 in
theorem readAtom_yes (w : World) (b : Nat) (s : ByteArray) (p : Nat) (h : Rdr w b s p) (hp : p ≤ s.size) (hs : s.size ≤ 3000) (ha : atomR (word (s.data.toList.drop p)) = true) :
    Calls Tryz.prog 92 #[.pointer (some ⟨b, 0, none⟩)] w fun e w' =>
      e = .returned (val (.atom (word (s.data.toList.drop p)))) ∧ Only b w w' ∧ Rdr w' b s (p + (word (s.data.toList.drop p)).length) := by
  have a1 := implAtom_at (word (s.data.toList.drop p)) (by have := atomR_len ha; omega) true ha
  have hn := (atomR_len ha).2
  have H := Lib.hid h
  clear h ha
  simp only [val]
  obtain ⟨W, hW⟩ : ∃ W, W = word (s.data.toList.drop p) := ⟨_, rfl⟩
  have r1 := readWord_calls w b s p H.out hp (by omega)
  rw [← hW] at a1 hn r1 ⊢
  clear hW
  go_enter Tryz.func92, Tryz.ntmps92
  go_wp2_with fail
  refine r1.mono ?_
  rintro e w1 ⟨rfl, ho, hr⟩
  have HO := Lib.hid ho
  have HR := Lib.hid hr
  clear ho hr
  go_wp2_with (first | (go_at_call 103; refine (a1 _).mono ?_; rintro e w2 ⟨rfl, rfl⟩) | (go_at_call 104; refine (clo.clone_calls _ (by rw [str_size]; omega) _).mono ?_; rintro e w2 ⟨rfl, hb2⟩))
  go_ret
  exact ⟨rfl, HO.out.trans (Only.of_below hb2), Rdr.below HR.out hb2⟩

set_option maxRecDepth 100000 in
theorem readAtom_no (w : World) (b : Nat) (s : ByteArray) (p : Nat) (h : Rdr w b s p) (hp : p ≤ s.size) (hs : s.size ≤ 3000) (ha : atomR (word (s.data.toList.drop p)) = false) :
    Calls Tryz.prog 92 #[.pointer (some ⟨b, 0, none⟩)] w fun e w' => e = fault 1 ∧ Only b w w' := by
  have a1 := implAtom_at (word (s.data.toList.drop p)) (by have := word_le (s.data.toList.drop p); have := drop_len s p; omega) false ha
  have H := Lib.hid h
  clear h ha
  go_enter Tryz.func92, Tryz.ntmps92
  go_wp2_with fail
  refine (readWord_calls w b s p H.out hp (by omega)).mono ?_
  rintro e w1 ⟨rfl, ho, hr⟩
  have HO := Lib.hid ho
  clear ho hr
  go_wp2_with (first | (go_at_call 103; refine (a1 _).mono ?_; rintro e w2 ⟨rfl, rfl⟩) | (go_at_call 73; refine (refuse_calls _ _).mono ?_; rintro e w' ⟨rfl, rfl⟩))
  exact ⟨rfl, rfl, HO.out⟩

/-- What readOne is to do with fuel n (at the depth 25 - n). -/
def RO (n : Nat) : Prop := ∀ (w : World) (b : Nat) (s : ByteArray) (p : Nat) (d : Int), Rdr w b s p → p ≤ s.size → s.size ≤ 3000 → d + n = 25 →
  (∀ T r, rd n (s.data.toList.drop p) = some (T, r) → Calls Tryz.prog 74 #[.pointer (some ⟨b, 0, none⟩), .int .i64 d] w fun e w' => e = .returned (val T) ∧ Only b w w' ∧ Rdr w' b s (p + T.tx.length)) ∧
  (rd n (s.data.toList.drop p) = none → Calls Tryz.prog 74 #[.pointer (some ⟨b, 0, none⟩), .int .i64 d] w fun e w' => e = fault 1 ∧ Only b w w')

/-- What readOp is to do, where '[' stands. -/
def RP (n : Nat) : Prop := ∀ (w : World) (b : Nat) (s : ByteArray) (p : Nat) (d : Int), Rdr w b s p → p < s.size → s.size ≤ 3000 → d + n = 24 → 0 ≤ d → nx (s.data.toList.drop p) = 91 →
  (∀ T r, rd (n + 1) (s.data.toList.drop p) = some (T, r) → Calls Tryz.prog 91 #[.pointer (some ⟨b, 0, none⟩), .int .i64 d] w fun e w' => e = .returned (val T) ∧ Only b w w' ∧ Rdr w' b s (p + T.tx.length)) ∧
  (rd (n + 1) (s.data.toList.drop p) = none → Calls Tryz.prog 91 #[.pointer (some ⟨b, 0, none⟩), .int .i64 d] w fun e w' => e = fault 1 ∧ Only b w w')

theorem nx_head (l : Bs) (h : nx l = 91) : l.head? = some 91 := by
  cases l with
  | nil => exact absurd h (by decide)
  | cons c l => simp [nx] at h; simp [h]
theorem nx_head_no (l : Bs) (h : nx l ≠ 91) : ¬ l.head? = some 91 := by
  cases l with
  | nil => simp
  | cons c l => simp [nx] at h; simpa using h

set_option maxRecDepth 100000 in
theorem ro_zero : RO 0 := by
  intro w b s p d h hp hs hd
  obtain rfl : d = 25 := by omega
  refine ⟨fun T r e => by simp [rd] at e, fun _ => ?_⟩
  go_enter Tryz.func74, Tryz.ntmps74
  go_wp2_with (go_at_call 73; refine (refuse_calls _ _).mono ?_; rintro e w' ⟨rfl, rfl⟩)
  exact ⟨rfl, rfl, Only.refl _ _⟩

set_option maxRecDepth 100000 in
theorem ro_succ (n : Nat) (hn : n ≤ 23) (hp' : RP n) : RO (n + 1) := by
  intro w b s p d h hp hs hd
  have dd : decide (24 < d) = false := by simp; omega
  by_cases h91 : nx (s.data.toList.drop p) = 91
  · have hlt : p < s.size := by
      rcases Nat.lt_or_ge p s.size with h' | h'
      · exact h'
      · rw [nx_end s p h'] at h91; exact absurd h91 (by decide)
    have K : ∀ w1, Still w w1 → _ := fun w1 k => hp' w1 b s p d (k.rdr h) hlt hs (by omega) (by omega) h91
    have H := Lib.hid h
    have HK := Lib.hid K
    have H91 := Lib.hid h91
    clear h K hp' h91 hd
    refine ⟨fun T r e => ?_, fun e => ?_⟩
    all_goals
      have HE := Lib.hid e
      clear e
      go_enter Tryz.func74, Tryz.ntmps74
      go_wp2_with fail
      refine (next_calls _ _ _ _ H.out hp (by omega)).mono ?_
      rintro e w1 ⟨rfl, h1⟩
      rw [H91.out]
      have k1 := HK.out w1 h1
      have H1 := Lib.hid h1
      have HK1 := Lib.hid k1
      clear h1 k1
      go_wp2_with fail
    · refine (HK1.out.1 T r HE.out).mono ?_
      rintro e w2 ⟨rfl, ho, hr⟩
      go_wp2_with fail
      go_ret
      exact ⟨rfl, (H1.out.only b).trans ho, hr⟩
    · refine (HK1.out.2 HE.out).mono ?_
      rintro e w2 ⟨rfl, ho⟩
      exact ⟨rfl, rfl, (H1.out.only b).trans ho⟩
  · have e1 : rd (n + 1) (s.data.toList.drop p) = if atomR (word (s.data.toList.drop p)) then some (.atom (word (s.data.toList.drop p)), past (s.data.toList.drop p)) else none := by
      rw [rd, if_neg (nx_head_no _ h91)]
    have d91 : (((nx (s.data.toList.drop p)).toNat : Int) == 91) = false := by
      rw [beq_eq_false_iff_ne]; intro e; exact h91 (UInt8.toNat_inj.1 (by show _ = 91; omega))
    have H := Lib.hid h
    clear h hp' h91 hd
    refine ⟨fun T r e => ?_, fun e => ?_⟩
    · rw [e1] at e
      split at e
      · rename_i ha
        simp only [Option.some.injEq, Prod.mk.injEq] at e
        obtain ⟨rfl, rfl⟩ := e
        have HA := Lib.hid ha
        clear ha e1
        go_enter Tryz.func74, Tryz.ntmps74
        go_wp2_with fail
        refine (next_calls _ _ _ _ H.out hp (by omega)).mono ?_
        rintro e w1 ⟨rfl, h1⟩
        have H1 := Lib.hid h1
        clear h1
        go_wp2_with fail
        refine (readAtom_yes w1 b s p (H1.out.rdr H.out) hp hs HA.out).mono ?_
        rintro e w2 ⟨rfl, ho, hr⟩
        go_wp2_with fail
        go_ret
        exact ⟨rfl, (H1.out.only b).trans ho, hr⟩
      · cases e
    · rw [e1] at e
      split at e
      · cases e
      · rename_i ha
        have HA := Lib.hid (show atomR (word (s.data.toList.drop p)) = false by simpa using ha)
        clear ha e1 e
        go_enter Tryz.func74, Tryz.ntmps74
        go_wp2_with fail
        refine (next_calls _ _ _ _ H.out hp (by omega)).mono ?_
        rintro e w1 ⟨rfl, h1⟩
        have H1 := Lib.hid h1
        clear h1
        go_wp2_with fail
        refine (readAtom_no w1 b s p (H1.out.rdr H.out) hp hs HA.out).mono ?_
        rintro e w2 ⟨rfl, ho⟩
        exact ⟨rfl, rfl, (H1.out.only b).trans ho⟩

/-- The list of the args, told from the middle on. -/
def cont (ts : List Tm) : Option (List Tm × Bs) → Option (List Tm × Bs)
  | none => none
  | some (us, r) => some (ts ++ us, r)

theorem cont_none {ts : List Tm} {o : Option (List Tm × Bs)} (h : cont ts o = none) : o = none := by cases o <;> simp [cont] at h ⊢

theorem rdArgs_stop {f : Bs → Option (Tm × Bs)} {k : Nat} {l : Bs} (h : nx l ≠ 32) : rdArgs f k l = some ([], l) := by
  cases k with
  | zero => rfl
  | succ k =>
    cases l with
    | nil => rfl
    | cons c l => simp [nx] at h; simp [rdArgs, h]

theorem rdArgs_none {f : Bs → Option (Tm × Bs)} {k : Nat} {l : Bs} (h : f l = none) : rdArgs f (k + 1) (32 :: l) = none := by simp [rdArgs, h]
theorem rdArgs_some {f : Bs → Option (Tm × Bs)} {k : Nat} {l : Bs} {T : Tm} {r : Bs} (h : f l = some (T, r)) : rdArgs f (k + 1) (32 :: l) = cont [T] (rdArgs f k r) := by
  simp only [rdArgs, if_true, h]
  cases rdArgs f k r with
  | none => rfl
  | some q => rfl
theorem cont_cont (ts us : List Tm) (o : Option (List Tm × Bs)) : cont ts (cont us o) = cont (ts ++ us) o := by
  cases o with
  | none => rfl
  | some q => simp [cont]

/-- The relation at the head of the loop. -/
structure Loop (n b B : Nat) (w : World) (s : ByteArray) (O : Option (List Tm × Bs)) (v : Value) (wr : World) (q : Nat) (ts : List Tm) (k : Nat) : Prop where
  le : q ≤ s.size
  only : Only b w wr
  rdr : Rdr wr b s q
  own : Tms wr B v ts
  fuel : (s.data.toList.drop q).length ≤ k
  told : O = cont ts (rdArgs (rd n) k (s.data.toList.drop q))
  few : ts.length ≤ q

theorem rd_next {n : Nat} {s : ByteArray} {q : Nat} {T : Tm} {r : Bs} (hq : q ≤ s.size) (h : rd n (s.data.toList.drop q) = some (T, r)) : q + T.tx.length ≤ s.size ∧ r = s.data.toList.drop (q + T.tx.length) := by
  have e := (rd_sound n _ _ _ h).1
  have hl := congrArg List.length e
  rw [List.length_append, drop_len] at hl
  refine ⟨by omega, ?_⟩
  have : (s.data.toList.drop q).drop T.tx.length = r := by rw [e]; simp
  rw [← this, List.drop_drop]

theorem nx_cons {s : ByteArray} {q : Nat} {c : UInt8} (h : nx (s.data.toList.drop q) = c) (hc : c ≠ 0) : q < s.size ∧ s.data.toList.drop q = c :: s.data.toList.drop (q + 1) := by
  have hlt : q < s.size := by
    rcases Nat.lt_or_ge q s.size with h' | h'
    · exact h'
    · rw [nx_end s q h'] at h; exact absurd h.symm hc
  refine ⟨hlt, ?_⟩
  rw [nx_lt s q hlt] at h
  rw [drop_lt s q hlt, h]

def Done (b : Nat) (s : ByteArray) (p : Nat) (w : World) (R : Option (Tm × Bs)) (e : Ending) (w' : World) : Prop :=
  (∀ T r, R = some (T, r) → e = .returned (val T) ∧ Only b w w' ∧ Rdr w' b s (p + T.tx.length)) ∧ (R = none → e = fault 1 ∧ Only b w w')

theorem Done.no {b : Nat} {s : ByteArray} {p : Nat} {w : World} {R : Option (Tm × Bs)} {w' : World} (h : R = none) (k : Only b w w') : Done b s p w R (fault 1) w' :=
  ⟨fun T r e => (by rw [h] at e; cases e), fun _ => ⟨rfl, k⟩⟩
theorem Done.yes {b : Nat} {s : ByteArray} {p : Nat} {w : World} {R : Option (Tm × Bs)} {w' : World} {T : Tm} {r : Bs} (h : R = some (T, r)) (k : Only b w w') (m : Rdr w' b s (p + T.tx.length)) : Done b s p w R (.returned (val T)) w' :=
  ⟨fun T' r' e => (by rw [h] at e; cases e; exact ⟨rfl, k, m⟩), fun e => (by rw [h] at e; cases e)⟩

theorem closed_no {op : Bs} {ts : List Tm} {l : Bs} (h : nx l ≠ 93) : closed op (some (ts, l)) = none := by
  cases l with
  | nil => rfl
  | cons c l => simp [nx] at h; simp [closed, h]
theorem closed_yes {op : Bs} {ts : List Tm} {l : Bs} : closed op (some (ts, 93 :: l)) = (build op ts).map fun t => (t, l) := by simp [closed]

theorem place_of {n : Nat} {s : ByteArray} {p q : Nat} {T : Tm} (hp : p ≤ s.size) (hq : q ≤ s.size) (h : rd n (s.data.toList.drop p) = some (T, s.data.toList.drop q)) : p + T.tx.length = q := by
  have e := congrArg List.length (rd_sound n _ _ _ h).1
  rw [List.length_append, drop_len, drop_len] at e
  omega

set_option maxHeartbeats 1000000 in
set_option maxRecDepth 100000 in
theorem rp_done (n : Nat) (ro : RO n) (w : World) (b : Nat) (s : ByteArray) (p : Nat) (d : Int) (h : Rdr w b s p) (hp : p < s.size) (hs : s.size ≤ 3000) (hd : d + n = 24) (hd0 : 0 ≤ d) (h91 : nx (s.data.toList.drop p) = 91) :
    Calls Tryz.prog 91 #[.pointer (some ⟨b, 0, none⟩), .int .i64 d] w (Done b s p w (rd (n + 1) (s.data.toList.drop p))) := by
  obtain ⟨_, e91⟩ := nx_cons h91 (by decide)
  have hb := (two h).2.2.2.2
  obtain ⟨O, hO⟩ : ∃ O, O = rdArgs (rd n) (past (s.data.toList.drop (p + 1))).length (past (s.data.toList.drop (p + 1))) := ⟨_, rfl⟩
  obtain ⟨op, hop⟩ : ∃ op, op = word (s.data.toList.drop (p + 1)) := ⟨_, rfl⟩
  have erd : rd (n + 1) (s.data.toList.drop p) = closed op O := by
    rw [rd, if_pos (nx_head _ h91), e91, hO, hop]
    rfl
  have epd := past_drop s (p + 1)
  rw [← hop] at epd
  have hle : p + 1 + op.length ≤ s.size := by
    have := word_le (s.data.toList.drop (p + 1))
    rw [← hop, drop_len] at this
    omega
  obtain ⟨R, hR⟩ : ∃ R, R = rd (n + 1) (s.data.toList.drop p) := ⟨_, rfl⟩
  rw [← hR]
  have er : R = closed op O := by rw [hR, erd]
  have rw1 : ∀ w1, Rdr w1 b s (p + 1) → _ := fun w1 k => readWord_calls w1 b s (p + 1) k (by omega) (by omega)
  rw [← hop] at rw1
  have H := Lib.hid h
  have H91 := Lib.hid h91
  have HO := Lib.hid hO
  have EPD := Lib.hid epd
  have HW := Lib.hid rw1
  have HD := Lib.hid hd
  have HR := Lib.hid hR
  have ER := Lib.hid er
  have HRO := Lib.hid ro
  have dw2 : d ≤ 24 := by omega
  clear h e91 h91 hO hop erd epd rw1 hd hR er ro
  go_enter Tryz.func91, Tryz.ntmps91
  go_wp2_with fail
  refine (skip_yes _ b s p 91 H.out hp (by omega) H91.out).mono ?_
  rintro e w1 ⟨rfl, o1, r1⟩
  have O1 := Lib.hid o1
  have R1 := Lib.hid r1
  clear o1 r1
  go_wp2_with fail
  refine (HW.out w1 R1.out).mono ?_
  rintro e w2 ⟨rfl, o2, r2⟩
  have O2 := Lib.hid (O1.out.trans o2)
  have R2 := Lib.hid r2
  clear o2 r2
  go_wp2_with fail
  go_loopw [6, 11, 12, 13, 14, 15, 16, 17, 18, 19, 20, 21, 22] (fun v _ _ _ _ _ _ _ _ _ _ _ _ wr => ∃ q ts k, Loop n b w.heap.size w s O v wr q ts k) (fun _ _ _ _ _ _ _ _ _ _ _ _ _ wr => s.size - atOf wr b)
  case atStart =>
    refine ⟨p + 1 + op.length, [], (past (s.data.toList.drop (p + 1))).length, hle, O2.out, R2.out, Tms.nil _ _, ?_, ?_, by simp⟩
    · rw [EPD.out]; exact Nat.le_refl _
    · rw [HO.out, EPD.out]
      cases rdArgs (rd n) _ _ <;> rfl
  case round =>
    obtain ⟨q, ts, k, L⟩ := hrel
    have HL := Lib.hid L
    have HAT := Lib.hid (atOf_rdr L.rdr)
    have hq := L.le
    have hfew := L.few
    by_cases h32 : nx (s.data.toList.drop q) = 32
    · obtain ⟨hq1, e32⟩ := nx_cons h32 (by decide)
      have hk : ∃ k', k = k' + 1 := by
        have := L.fuel
        rw [e32] at this
        simp at this
        exact ⟨k - 1, by omega⟩
      obtain ⟨k, rfl⟩ := hk
      have H32 := Lib.hid h32
      have E32 := Lib.hid e32
      clear L h32 e32
      cases hrd : rd n (s.data.toList.drop (q + 1)) with
      | none =>
        have HRD := Lib.hid hrd
        have hno : R = none := by
          rw [ER.out, HL.out.told, E32.out, rdArgs_none hrd]; rfl
        have HNO := Lib.hid hno
        clear hrd hno
        go_wp2_with fail
        refine (next_calls _ _ _ _ HL.out.rdr hq (by omega)).mono ?_
        rintro e w3 ⟨rfl, h3⟩
        rw [H32.out]
        have H3 := Lib.hid h3
        clear h3
        go_wp2_with fail
        refine (skip_yes _ b s q 32 (H3.out.rdr HL.out.rdr) hq1 (by omega) H32.out).mono ?_
        rintro e w4 ⟨rfl, o4, r4⟩
        have O4 := Lib.hid (((HL.out.only).trans (H3.out.only b)).trans o4)
        have R4 := Lib.hid r4
        clear o4 r4
        go_wp2_with fail
        refine ((HRO.out w4 b s (q + 1) _ R4.out (by omega) hs (by have := HD.out; omega)).2 HRD.out).mono ?_
        rintro e w5 ⟨rfl, o5⟩
        exact ⟨rfl, Done.no HNO.out (O4.out.trans o5)⟩
      | some z =>
        obtain ⟨T, r⟩ := z
        obtain ⟨hq2, rfl⟩ := rd_next (by omega) hrd
        have HRD := Lib.hid hrd
        clear hrd
        go_wp2_with fail
        refine (next_calls _ _ _ _ HL.out.rdr hq (by omega)).mono ?_
        rintro e w3 ⟨rfl, h3⟩
        rw [H32.out]
        have H3 := Lib.hid h3
        clear h3
        go_wp2_with fail
        refine (skip_yes _ b s q 32 (H3.out.rdr HL.out.rdr) hq1 (by omega) H32.out).mono ?_
        rintro e w4 ⟨rfl, o4, r4⟩
        have O4 := Lib.hid ((H3.out.only b).trans o4)
        have R4 := Lib.hid r4
        clear o4 r4
        go_wp2_with fail
        refine ((HRO.out w4 b s (q + 1) _ R4.out (by omega) hs (by have := HD.out; omega)).1 T _ HRD.out).mono ?_
        rintro e w5 ⟨rfl, o5, r5⟩
        have O5 := Lib.hid (O4.out.trans o5)
        have R5 := Lib.hid r5
        have T5 := Lib.hid (Tms.only HL.out.own O5.out hb)
        clear o5 r5
        have hz5 : w.heap.size ≤ w5.heap.size := Nat.le_trans HL.out.only.size O5.out.size
        obtain ⟨tt, vv, ev⟩ := val_iface T
        rw [ev]
        have EV := Lib.hid ev.symm
        clear ev
        go_wp2_with (at_builtin; refine wp_putT (.tmp 16) (.tmp 21) T _ EV.out w.heap.size _ ts rfl rfl rfl T5.out rfl (by omega) hz5 ?_; intro v6 w6 t6 b6)
        have T6 := Lib.hid t6
        have O6 := Lib.hid (only_below (HL.out.only.trans O5.out) b6)
        have R6 := Lib.hid (rdr_below R5.out b6 hb)
        clear t6 b6
        go_roundw
        case rel =>
          refine ⟨q + 1 + T.tx.length, ts ++ [T], k, hq2, O6.out, R6.out, T6.out, ?_, ?_, ?_⟩
          · have := HL.out.fuel
            rw [drop_len] at this ⊢
            omega
          · rw [HL.out.told, E32.out, rdArgs_some HRD.out, cont_cont]
          · have := HL.out.few
            simp
            omega
        case measure =>
          rw [HAT.out, atOf_rdr R6.out]
          omega
    · have H32 := Lib.hid h32
      have htold : O = some (ts, s.data.toList.drop q) := by rw [L.told, rdArgs_stop h32]; simp [cont]
      have d32 : (((nx (s.data.toList.drop q)).toNat : Int) == 32) = false := by
        rw [beq_eq_false_iff_ne]; intro e; exact h32 (UInt8.toNat_inj.1 (by show _ = 32; omega))
      have HT := Lib.hid htold
      clear h32 htold L
      by_cases h93 : nx (s.data.toList.drop q) = 93
      · obtain ⟨hq1, e93⟩ := nx_cons h93 (by decide)
        have H93 := Lib.hid h93
        have er2 : R = (build op ts).map fun t => (t, s.data.toList.drop (q + 1)) := by
          rw [ER.out, HT.out, e93, closed_yes]
        have ER2 := Lib.hid er2
        clear h93 e93 er2
        go_wp2_with fail
        refine (next_calls _ _ _ _ HL.out.rdr hq (by omega)).mono ?_
        rintro e w3 ⟨rfl, h3⟩
        have H3 := Lib.hid h3
        clear h3
        go_wp2_with fail
        refine (skip_yes _ b s q 93 (H3.out.rdr HL.out.rdr) hq1 (by omega) H93.out).mono ?_
        rintro e w4 ⟨rfl, o4, r4⟩
        have O4 := Lib.hid ((H3.out.only b).trans o4)
        have R4 := Lib.hid r4
        have T4 := Lib.hid (Tms.only HL.out.own O4.out hb)
        clear o4 r4
        go_wp2_with fail
        rcases hbd : build op ts with _ | T
        · have HBD := Lib.hid hbd
          clear hbd
          refine (build_no op ts HBD.out w4 w.heap.size _ T4.out).mono ?_
          rintro e w5 ⟨rfl, h5⟩
          exact ⟨rfl, Done.no (by rw [ER2.out, HBD.out]; rfl) ((HL.out.only.trans O4.out).trans (h5.only b))⟩
        · have HBD := Lib.hid hbd
          clear hbd
          refine (build_yes op ts T HBD.out w4 w.heap.size _ T4.out).mono ?_
          rintro e w5 ⟨rfl, h5⟩
          have H5 := Lib.hid h5
          clear h5
          go_wp2_with fail
          go_ret
          have e3 : R = some (T, s.data.toList.drop (q + 1)) := by rw [ER2.out, HBD.out]; rfl
          refine Done.yes e3 ((HL.out.only.trans O4.out).trans (H5.out.only b)) ?_
          rw [place_of (n := n + 1) (s := s) (q := q + 1) (by omega) (by omega) (by rw [← HR.out]; exact e3)]
          exact H5.out.rdr R4.out
      · have hno : R = none := by rw [ER.out, HT.out, closed_no h93]
        have HNO := Lib.hid hno
        have H93 := Lib.hid h93
        clear hno h93
        go_wp2_with fail
        refine (next_calls _ _ _ _ HL.out.rdr hq (by omega)).mono ?_
        rintro e w3 ⟨rfl, h3⟩
        have H3 := Lib.hid h3
        clear h3
        go_wp2_with fail
        refine (skip_no _ b s q 93 (H3.out.rdr HL.out.rdr) hq (by omega) H93.out).mono ?_
        rintro e w4 ⟨rfl, o4⟩
        exact ⟨rfl, Done.no HNO.out ((HL.out.only.trans (H3.out.only b)).trans o4)⟩

theorem rp_all (n : Nat) (ro : RO n) : RP n := fun w b s p d h hp hs hd hd0 h91 =>
  ⟨fun T r e => (rp_done n ro w b s p d h hp hs hd hd0 h91).mono fun _ _ k => k.1 T r e, fun e => (rp_done n ro w b s p d h hp hs hd hd0 h91).mono fun _ _ k => k.2 e⟩

theorem ro_all : ∀ n, n ≤ 24 → RO n
  | 0, _ => ro_zero
  | n + 1, h => ro_succ n (by omega) (rp_all n (ro_all n (by omega)))
end Go.Proofs.YtdikjmhnjlalbabGreat.prs

/- Contracts of readTerm and codeOf. -/
namespace Go.Proofs.YtdikjmhnjlalbabGreat.grd
open Go.RowKit Go.Proofs.YtdikjmhnjlalbabGreat.tm Go.Proofs.YtdikjmhnjlalbabGreat.lib Go.Proofs.YtdikjmhnjlalbabGreat.rdr Go.Proofs.YtdikjmhnjlalbabGreat.bld Go.Proofs.YtdikjmhnjlalbabGreat.app Go.Proofs.YtdikjmhnjlalbabGreat.prs
set_option linter.unusedVariables false

/-- What becomes of a reading: the term, or the fault. -/
def TEnd (R : Option Tm) (w : World) (e : Ending) (w' : World) : Prop :=
  ((∃ T, R = some T ∧ e = .returned (val T)) ∨ (R = none ∧ e = fault 1)) ∧ Below w.heap.size w w'

theorem only_new {w w' : World} {o : Obj} (h : Only w.heap.size (w.alloc o) w') : Below w.heap.size w w' :=
  ⟨h.os, h.tape, h.output, by have := h.size; simp at this; omega, fun k hk => by rw [h.block k (by simp; omega) (by omega)]; exact Below.heap_alloc _ _ _ hk⟩

set_option maxRecDepth 100000 in
theorem readTerm_calls (s : ByteArray) (hs : s.size ≤ maxLen) (w : World) :
    Calls Tryz.prog 63 #[.string s] w (TEnd (term s.data.toList) w) := by
  unfold maxLen at hs
  by_cases hbig : 3000 < s.size
  · have d0 : decide (3000 < (s.size : Int)) = true := by simp; omega
    have e0 : term s.data.toList = none := by
      unfold term
      rw [if_neg (by show ¬ s.size ≤ 3000; omega)]
    have E0 := Lib.hid e0
    clear e0
    go_enter Tryz.func63, Tryz.ntmps63
    go_wp2_with (go_at_call 73; refine (refuse_calls _ _).mono ?_; rintro e w' ⟨rfl, rfl⟩)
    exact ⟨rfl, .inr ⟨E0.out, rfl⟩, Below.refl _ _⟩
  · have d0 : decide (3000 < (s.size : Int)) = false := by simp; omega
    have hr : Rdr (w.alloc (.cells #[.string s, .int .i64 0] 99)) w.heap.size s 0 := by
      unfold Rdr
      rw [heap_alloc_new]
      rfl
    have hro := ro_all 24 (Nat.le_refl _) _ w.heap.size s 0 1 hr (by omega) (by omega) rfl
    have ht : term s.data.toList = pz 24 s.data.toList := by
      unfold term
      rw [if_pos (by show s.size ≤ 3000; omega)]
    rw [List.drop_zero] at hro
    obtain ⟨Z, hZ⟩ : ∃ Z, Z = rd 24 s.data.toList := ⟨_, rfl⟩
    rw [← hZ] at hro
    unfold pz at ht
    rw [← hZ] at ht
    have hsound := fun T r => rd_sound 24 s.data.toList T r
    rw [← hZ] at hsound
    have HS := Lib.hid hsound
    clear hZ hr hsound
    have HRO := Lib.hid hro
    have HT := Lib.hid ht
    clear hro ht
    go_enter Tryz.func63, Tryz.ntmps63
    go_wp2_with fail
    rcases Z with _ | ⟨T, r⟩
    · refine (HRO.out.2 rfl).mono ?_
      rintro e w1 ⟨rfl, ho⟩
      exact ⟨rfl, .inr ⟨HT.out, rfl⟩, only_new ho⟩
    · refine (HRO.out.1 T r rfl).mono ?_
      rintro e w1 ⟨rfl, ho, hr⟩
      obtain ⟨c0, c1, f0, f1, hb1⟩ := two hr
      rw [Nat.zero_add] at c1
      have e1 : T.tx.length + r.length = s.size := by
        have := congrArg List.length (HS.out T r rfl).1
        rw [List.length_append] at this
        exact this.symm
      have HB := Lib.hid (only_new ho)
      have HE := Lib.hid e1
      have hle : T.tx.length ≤ s.size := by omega
      clear ho hr e1
      by_cases hl : T.tx.length < s.size
      · have en : term s.data.toList = none := by
          rw [HT.out]
          cases r with
          | nil => have := HE.out; simp at this; omega
          | cons c r => rfl
        have EN := Lib.hid en
        clear en
        go_wp2_with (go_at_call 73; refine (refuse_calls _ _).mono ?_; rintro e w' ⟨rfl, rfl⟩)
        exact ⟨rfl, .inr ⟨EN.out, rfl⟩, HB.out⟩
      · have es : term s.data.toList = some T := by
          rw [HT.out]
          cases r with
          | nil => rfl
          | cons c r => have := HE.out; simp at this; omega
        have ES := Lib.hid es
        clear es
        go_wp2_with fail
        go_ret
        exact ⟨.inl ⟨T, ES.out, rfl⟩, HB.out⟩

theorem one {w : World} {b : Nat} {v : Value} {t : TypeId} (h : w.heap[b]? = some (.cells #[v] t (0, 0))) :
    w.cell? ⟨b, 0, none⟩ = some v ∧ w.frozen? ⟨b, 0, none⟩ = false ∧ b < w.heap.size := by
  have hb : b < w.heap.size := by
    rcases Nat.lt_or_ge b w.heap.size with h' | h'
    · exact h'
    · rw [Array.getElem?_eq_none h'] at h; cases h
  exact ⟨by rw [cell_of_row w b 0 _ t (0, 0) h]; rfl, by simp [World.frozen?, h], hb⟩

theorem as_fault (v : Value) (w : World) : (Instr.typeAssert (.iface 118 v) 20 118 true).run Tryz.prog w = .ok (.tuple #[v, .bool true]) w := by kernel_rfl

set_option maxRecDepth 100000 in
theorem codeOf_calls (c : Int) (w : World) : Calls Tryz.prog 72 #[.iface 118 (.agg #[.int .i64 c])] w fun e w' => e = .returned (.int .i64 c) ∧ Below w.heap.size w w' := by
  have h1 := as_fault (.agg #[.int .i64 c])
  go_enter Tryz.func72, Tryz.ntmps72
  go_wp2
  go_ret
  exact ⟨rfl, (Below.refl _ _).alloc (Nat.le_refl _) _⟩

end Go.Proofs.YtdikjmhnjlalbabGreat.grd

/- Contracts of guarded at terms and its deferred closure; of termOf: a term, or none. -/
namespace Go.Proofs.YtdikjmhnjlalbabGreat.grd
open Go.RowKit Go.Proofs.YtdikjmhnjlalbabGreat.tm Go.Proofs.YtdikjmhnjlalbabGreat.lib Go.Proofs.YtdikjmhnjlalbabGreat.rdr Go.Proofs.YtdikjmhnjlalbabGreat.bld Go.Proofs.YtdikjmhnjlalbabGreat.app Go.Proofs.YtdikjmhnjlalbabGreat.prs
set_option linter.unusedVariables false

set_option maxRecDepth 100000 in
theorem catchT_panic (p : Addr) (x c : Int) (older : List PanicEntry) (w : World) (hc : w.cell? p = some (.int .i64 x)) (hz : w.frozen? p = false) (hp : p.block < w.heap.size) :
    CallsD Tryz.prog 71 #[.pointer (some p)] (.panicking ({ v := .iface 118 (.agg #[.int .i64 c]), recovered := false } :: older)) w fun e u' w' =>
      e = .returned (.tuple #[]) ∧ u' = .panicking ({ v := .iface 118 (.agg #[.int .i64 c]), recovered := true } :: older) ∧ ∃ w1, Below w.heap.size w w1 ∧ w' = w1.setCell p (.int .i64 c) := by
  refine callsD_of_wpS Tryz.func71 rfl fun c₀ cs hu => ?_
  apply wpS_seq
  apply wpS_region
  simp [wpOpsS, go_sem, recoverD, hu, Tryz.ntmps71, Exit.thenS]
  refine wpS_of_wp ?_
  change Code.wp _ _ _ { tmps := #[.pointer (some p), .iface 118 (.agg #[.int .i64 c]), .iface 118 (.agg #[.int .i64 c]), undef, undef, undef, undef], defers := [] } _
  clear hu
  go_wp2_with (go_at_call 72; refine (codeOf_calls _ _).mono ?_; rintro e w1 ⟨rfl, hb⟩; have hc1 := hb.cell hp; rw [hc] at hc1; have hz1 := hb.frozen hp; rw [hz] at hz1; have HB := Lib.hid hb; clear hb)
  exact ⟨rfl, _, rfl, .tuple #[], by simp [results, Tryz.results71, go_sem], rfl, rfl, w1, HB.out, rfl⟩

set_option maxRecDepth 100000 in
theorem catchT_idle (p : Addr) (w : World) :
    CallsD Tryz.prog 71 #[.pointer (some p)] .returning w fun e u' w' => e = .returned (.tuple #[]) ∧ u' = .returning ∧ w' = w := by
  refine callsD_of_wpS Tryz.func71 rfl fun c₀ cs hu => ?_
  apply wpS_seq
  apply wpS_region
  simp [wpOpsS, go_sem, recoverD, hu, Tryz.ntmps71, Exit.thenS]
  refine wpS_of_wp ?_
  change Code.wp _ _ _ { tmps := #[.pointer (some p), .nilIface, .nilIface, undef, undef, undef, undef], defers := [] } _
  go_wp2
  refine ⟨rfl, .returning, ?_, .tuple #[], by simp [results, Tryz.results71, go_sem], rfl, rfl, rfl⟩
  cases c₀
  simp_all

/-- guarded of a closure that returns. -/
theorem guardedT_ret (F : FuncId) (cap : Array Value) (v : Value) (hcf : ∀ (w : World), (callFunc F cap).run Tryz.prog w = .ok (.enter F cap) w) (w : World)
    (h : ∀ w1, Below w.heap.size w w1 → Calls Tryz.prog F cap w1 fun e w' => e = .returned v ∧ Below w1.heap.size w1 w') :
    Calls Tryz.prog 61 #[.func (.func F) #[] cap] w fun e w' => e = .returned (.tuple #[v, .int .i64 0]) ∧ Below w.heap.size w w' := by
  have hmf : ∀ (fn : Fn) (first cap : Array Value) (w : World), (Instr.makeFunc fn first cap).run Tryz.prog w = .ok (.func fn first cap) w := fun _ _ _ _ => rfl
  have HH := Lib.hid h
  clear h
  go_enter_defers Tryz.func61, Tryz.ntmps61
  go_wp2_with fail
  refine (HH.out _ ((Below.refl _ _).alloc (Nat.le_refl _) _)).mono ?_
  rintro e w1 ⟨rfl, hb⟩
  obtain ⟨c0, f0, z0⟩ := one (clo.new_kept hb)
  have HB := Lib.hid (((Below.refl _ _).alloc (Nat.le_refl _) _).trans (hb.mono (by simp)))
  clear hb
  go_wp2_with fail
  refine leaves_cons (f := 71) (args := #[.pointer (some ⟨w.heap.size, 0, none⟩)]) (by simp) (by simp [go_sem]) ?_
  refine (catchT_idle ⟨w.heap.size, 0, none⟩ _).mono ?_
  rintro e u' w'' ⟨rfl, rfl, rfl⟩
  refine ⟨.tuple #[v, .int .i64 0], by simp [results, Tryz.results61, go_sem, c0], rfl, HB.out.setCell (by simp) _⟩

/-- guarded of a closure that leaves off with a code. -/
theorem guardedT_fault (F : FuncId) (cap : Array Value) (c : Int) (hcf : ∀ (w : World), (callFunc F cap).run Tryz.prog w = .ok (.enter F cap) w) (w : World)
    (h : ∀ w1, Below w.heap.size w w1 → Calls Tryz.prog F cap w1 fun e w' => e = fault c ∧ Below w1.heap.size w1 w') :
    Calls Tryz.prog 61 #[.func (.func F) #[] cap] w fun e w' => e = .returned (.tuple #[.nilIface, .int .i64 c]) ∧ Below w.heap.size w w' := by
  have hmf : ∀ (fn : Fn) (first cap : Array Value) (w : World), (Instr.makeFunc fn first cap).run Tryz.prog w = .ok (.func fn first cap) w := fun _ _ _ _ => rfl
  have HH := Lib.hid h
  clear h
  go_enter_defers Tryz.func61, Tryz.ntmps61
  go_wp2_with fail
  refine (HH.out _ ((Below.refl _ _).alloc (Nat.le_refl _) _)).mono ?_
  rintro e w1 ⟨rfl, hb⟩
  obtain ⟨c0, f0, z0⟩ := one (clo.new_kept hb)
  have HB := Lib.hid (((Below.refl _ _).alloc (Nat.le_refl _) _).trans (hb.mono (by simp)))
  clear hb
  refine leaves_cons (f := 71) (args := #[.pointer (some ⟨w.heap.size, 0, none⟩)]) (by simp) (by simp [go_sem]) ?_
  refine (catchT_panic ⟨w.heap.size, 0, none⟩ 0 c [] _ c0 f0 z0).mono ?_
  rintro e u' w'' ⟨rfl, rfl, w2, hb2, rfl⟩
  have c1 := hb2.cell (p := ⟨w.heap.size, 0, none⟩) z0
  rw [c0] at c1
  have z2 := hb2.size
  have z3 : w.heap.size < w2.heap.size := by omega
  refine ⟨.tuple #[.nilIface, .int .i64 c], by simp [results, Tryz.results61, go_sem, c1], rfl, (HB.out.trans (hb2.mono (by omega))).setCell (by simp) _⟩

/-! ### termOf -/
theorem closT (a : Value) (w : World) : (callFunc 62 #[a]).run Tryz.prog w = .ok (.enter 62 #[a]) w := by kernel_rfl

set_option maxRecDepth 100000 in
theorem clos_calls (s : ByteArray) (hs : s.size ≤ maxLen) (a : Nat) (w : World) (hc : w.cell? ⟨a, 0, none⟩ = some (.string s)) :
    Calls Tryz.prog 62 #[.pointer (some ⟨a, 0, none⟩)] w (TEnd (term s.data.toList) w) := by
  go_enter Tryz.func62, Tryz.ntmps62
  go_wp2_with fail
  refine (readTerm_calls s hs _).mono ?_
  rintro e w1 ⟨h, hb⟩
  rcases h with ⟨T, h1, rfl⟩ | ⟨h1, rfl⟩
  · have H1 := Lib.hid h1
    have HB := Lib.hid hb
    clear h1 hb
    go_wp2_with fail
    go_ret
    exact ⟨.inl ⟨T, H1.out, rfl⟩, HB.out⟩
  · exact ⟨rfl, .inr ⟨h1, rfl⟩, hb⟩

theorem Below.push {w w1 : World} {o : Obj} (h : Below w.heap.size (w.alloc o) w1) : Below w.heap.size w w1 := ((Below.refl _ _).alloc (Nat.le_refl _) _).trans h

set_option maxRecDepth 100000 in
theorem termOf_yes (s : ByteArray) (hs : s.size ≤ maxLen) (T : Tm) (h : term s.data.toList = some T) (w : World) :
    Calls Tryz.prog 40 #[.string s] w fun e w' => e = .returned (.tuple #[val T, .bool true]) ∧ Below w.heap.size w w' := by
  have hcl := guardedT_ret 62 #[.pointer (some ⟨w.heap.size, 0, none⟩)] (val T) (fun w => closT _ w) (w.alloc (.cells #[.string s] 9)) fun w1 hb =>
    (clos_calls s hs w.heap.size w1 (by rw [hb.cell (p := ⟨w.heap.size, 0, none⟩) (by simp)]; simp [go_sem])).mono fun e w' hk => by
      obtain ⟨hk, hb⟩ := hk
      rcases hk with ⟨T', h1, rfl⟩ | ⟨h1, rfl⟩
      · rw [h] at h1; cases h1; exact ⟨rfl, hb⟩
      · rw [h] at h1; cases h1
  have hmf : ∀ (fn : Fn) (first cap : Array Value) (w : World), (Instr.makeFunc fn first cap).run Tryz.prog w = .ok (.func fn first cap) w := fun _ _ _ _ => rfl
  have HC := Lib.hid hcl
  clear hcl h
  go_enter Tryz.func40, Tryz.ntmps40
  go_wp2_with fail
  refine HC.out.mono ?_
  rintro e w1 ⟨rfl, hb⟩
  go_wp2_with fail
  go_ret2
  exact ⟨rfl, Below.push (hb.mono (by simp))⟩

set_option maxRecDepth 100000 in
theorem termOf_no (s : ByteArray) (hs : s.size ≤ maxLen) (h : term s.data.toList = none) (w : World) :
    Calls Tryz.prog 40 #[.string s] w fun e w' => e = .returned (.tuple #[.nilIface, .bool false]) ∧ Below w.heap.size w w' := by
  have hcl := guardedT_fault 62 #[.pointer (some ⟨w.heap.size, 0, none⟩)] 1 (fun w => closT _ w) (w.alloc (.cells #[.string s] 9)) fun w1 hb =>
    (clos_calls s hs w.heap.size w1 (by rw [hb.cell (p := ⟨w.heap.size, 0, none⟩) (by simp)]; simp [go_sem])).mono fun e w' hk => by
      obtain ⟨hk, hb⟩ := hk
      rcases hk with ⟨T', h1, rfl⟩ | ⟨h1, rfl⟩
      · rw [h] at h1; cases h1
      · exact ⟨rfl, hb⟩
  have hmf : ∀ (fn : Fn) (first cap : Array Value) (w : World), (Instr.makeFunc fn first cap).run Tryz.prog w = .ok (.func fn first cap) w := fun _ _ _ _ => rfl
  have HC := Lib.hid hcl
  clear hcl h
  go_enter Tryz.func40, Tryz.ntmps40
  go_wp2_with fail
  refine HC.out.mono ?_
  rintro e w1 ⟨rfl, hb⟩
  go_wp2_with fail
  go_ret2
  exact ⟨rfl, Below.push (hb.mono (by simp))⟩

end Go.Proofs.YtdikjmhnjlalbabGreat.grd
