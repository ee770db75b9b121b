/- Contracts of Dh: of the model, of the program. -/
import Derived.Test.YtdikjmhnjlalbabGrd
import Derived.Test.YtdikjmhnjlalbabSmk
import Derived.Test.YtdikjmhnjlalbabImk
import Derived.Test.YtdikjmhnjlalbabSop
namespace Go.Proofs.Ytdikjmhnjlalbab.dhs
open Go.RowKit Go.Proofs.Ytdikjmhnjlalbab.tm Go.Proofs.Ytdikjmhnjlalbab.spm Go.Proofs.Ytdikjmhnjlalbab.lib Go.Proofs.Ytdikjmhnjlalbab.rdr Go.Proofs.Ytdikjmhnjlalbab.bld Go.Proofs.Ytdikjmhnjlalbab.app Go.Proofs.Ytdikjmhnjlalbab.grd Go.Proofs.Ytdikjmhnjlalbab.txo Go.Proofs.Ytdikjmhnjlalbab.snd Go.Proofs.Ytdikjmhnjlalbab.sop Go.Proofs.Ytdikjmhnjlalbab.iop Go.Proofs.Ytdikjmhnjlalbab.mkp Go.Proofs.Ytdikjmhnjlalbab.mrk Go.Proofs.Ytdikjmhnjlalbab.smk Go.Proofs.Ytdikjmhnjlalbab.imk
set_option linter.unusedVariables false

/-- What Dh answers. -/
inductive DhR (x p : Bs) : Bs → Int → Prop
  | size (h : 8000 < x.length ∨ 8000 < p.length) : DhR x p [] 2
  | atom (h1 : x.length ≤ 8000) (h2 : p.length ≤ 8000) (h : atomR x = false) : DhR x p [] 1
  | form (h1 : x.length ≤ 8000) (h2 : p.length ≤ 8000) (ha : atomR x = true) (h : term p = none) : DhR x p [] 1
  | other (h1 : x.length ≤ 8000) (h2 : p.length ≤ 8000) (ha : atomR x = true) (T : Tm) (hT : term p = some T) (h : T.op ≠ oPub) : DhR x p [] 1
  | pub (h1 : x.length ≤ 8000) (h2 : p.length ≤ 8000) (ha : atomR x = true) (s : Bs) (hT : term p = some (.pub s)) : DhR x p (dhS x s) 0

theorem op_pub {T : Tm} (h : T.op = oPub) : ∃ s, T = .pub s := by
  cases T with
  | pub s => exact ⟨s, rfl⟩
  | _ => simp [Tm.op, oShut, oPair, oHash, oMac, oPub, oDh] at h

theorem dh_total (x p : Bs) : ∃ r c, DhR x p r c := by
  by_cases hs : 8000 < x.length ∨ 8000 < p.length
  · exact ⟨_, _, .size hs⟩
  have h1 : x.length ≤ 8000 := by omega
  have h2 : p.length ≤ 8000 := by omega
  cases ha : atomR x with
  | false => exact ⟨_, _, .atom h1 h2 ha⟩
  | true =>
    cases hT : term p with
    | none => exact ⟨_, _, .form h1 h2 ha hT⟩
    | some T =>
      by_cases ho : T.op = oPub
      · obtain ⟨s, rfl⟩ := op_pub ho
        exact ⟨_, _, .pub h1 h2 ha s hT⟩
      · exact ⟨_, _, .other h1 h2 ha T hT ho⟩

theorem dhS_right (x s : Bs) (hx : atomR x = true) (hs : atomR s = true) : (term (dhS x s)).isSome = true := by
  have lx := atomR_len hx
  have ls := atomR_len hs
  obtain ⟨a, b, ha, hb, hg, e⟩ : ∃ a b, atomR a = true ∧ atomR b = true ∧ gt a b = false ∧ dhS x s = (Tm.dh a b).tx := by
    unfold dhS
    cases hg : gt x s with
    | true => exact ⟨s, x, hs, hx, gt_back hg, rfl⟩
    | false => exact ⟨x, s, hx, hs, hg, rfl⟩
  rw [e, term_tx (T := .dh a b) ⟨ha, hb, hg⟩]
  have la := atomR_len ha
  have lb := atomR_len hb
  simp [Tm.tx, Tm.deep, say, oDh]
  omega

theorem make_dh (x s : Bs) (hs : atomR s = true) : makeR oDh [x, s] = if atomR x then (dhS x s, 0) else ([], 1) := by
  rw [makeR_args (by simp) (by decide) (by decide) (by show 2 = many oDh; decide)]
  have e : secret oDh = true := by decide
  have hm : madeT oDh [x, s] = dhS x s := by unfold madeT; rw [if_pos rfl]
  simp only [List.all_cons, List.all_nil, Bool.and_true, rights_eq, e, Bool.not_true, Bool.false_or]
  rw [hs, term_atom hs, hm]
  cases hx : atomR x with
  | false => simp
  | true =>
    rw [term_atom hx]
    unfold finR
    rw [dhS_right x s hx hs]
    simp

theorem atom_big (l : Bs) (b : Bool) (hl : l.length ≤ 8000) (h : atomR l = b) (w : World) :
    Calls Try.prog 50 #[str l] w fun e w' => e = .returned (.bool b) ∧ w = w' := by
  have := atm.specAtom_calls ⟨l.toArray⟩ (by unfold maxLen; show l.toArray.size ≤ _; simp; omega) w
  rw [show atomR (⟨l.toArray⟩ : ByteArray).data.toList = b from h] at this
  exact this

theorem node_op (O : Bs) (ad : Option Addr) (n cap : Nat) (w : World) : (Instr.field 30 (.agg #[str O, .slice ad n cap]) 0).run Try.prog w = .ok (str O) w := by kernel_rfl
theorem node_args (O : Bs) (ad : Option Addr) (n cap : Nat) (w : World) : (Instr.field 30 (.agg #[str O, .slice ad n cap]) 1).run Try.prog w = .ok (.slice ad n cap) w := by kernel_rfl

set_option maxHeartbeats 2000000 in
set_option maxRecDepth 100000 in
theorem specDh_calls (x p r : Bs) (c : Int) (h : DhR x p r c) (hx : x.length ≤ 4000000) (hp : p.length ≤ 4000000) (w : World) :
    Calls Try.prog 32 #[str x, str p] w fun e w' => e = .returned (outVal r c) ∧ Below w.heap.size w w' := by
  unfold outVal
  cases h with
  | size h =>
    by_cases h1 : 8000 < x.length
    · have d1 : decide (8000 < (x.length : Int)) = true := by simp; omega
      go_enter Try.func32, Try.ntmps32
      go_wp2_with fail
      exact bodyPost_ret (v := .agg #[.string ⟨#[]⟩, .int .i64 2]) (by simp [results, Try.results32, go_sem]) rfl ⟨rfl, (Below.refl _ _).alloc (Nat.le_refl _) _⟩
    · have d1 : decide (8000 < (x.length : Int)) = false := by simp; omega
      have d2 : decide (8000 < (p.length : Int)) = true := by simp; omega
      go_enter Try.func32, Try.ntmps32
      go_wp2_with fail
      exact bodyPost_ret (v := .agg #[.string ⟨#[]⟩, .int .i64 2]) (by simp [results, Try.results32, go_sem]) rfl ⟨rfl, (Below.refl _ _).alloc (Nat.le_refl _) _⟩
  | atom h1 h2 ha =>
    have d1 : decide (8000 < (x.length : Int)) = false := by simp; omega
    have d2 : decide (8000 < (p.length : Int)) = false := by simp; omega
    have a1 := atom_big x false h1 ha
    clear ha
    go_enter Try.func32, Try.ntmps32
    go_wp2_with (go_at_call 50; refine (a1 _).mono ?_; rintro e w' ⟨rfl, rfl⟩)
    exact bodyPost_ret (v := .agg #[.string ⟨#[]⟩, .int .i64 1]) (by simp [results, Try.results32, go_sem]) rfl ⟨rfl, (Below.refl _ _).alloc (Nat.le_refl _) _⟩
  | form h1 h2 ha hT =>
    have d1 : decide (8000 < (x.length : Int)) = false := by simp; omega
    have d2 : decide (8000 < (p.length : Int)) = false := by simp; omega
    have a1 := atom_big x true h1 ha
    have a2 := right_at p false (by rw [hT]; rfl) h2
    clear ha hT
    go_enter Try.func32, Try.ntmps32
    go_wp2_with (go_at_call 50; refine (a1 _).mono ?_; rintro e w' ⟨rfl, rfl⟩)
    refine (a2 _).mono ?_
    rintro e w1 ⟨rfl, hb⟩
    have HB := Lib.hid hb
    obtain ⟨c0, c1, f0, f1, hz⟩ := two (clo.new_kept hb)
    clear hb
    go_wp2_with fail
    exact bodyPost_ret (v := .agg #[.string ⟨#[]⟩, .int .i64 1]) (by simp [results, Try.results32, go_sem, c0, c1]) rfl ⟨rfl, fin3 HB.out _ _⟩
  | other h1 h2 ha T hT ho =>
    have d1 : decide (8000 < (x.length : Int)) = false := by simp; omega
    have d2 : decide (8000 < (p.length : Int)) = false := by simp; omega
    have a1 := atom_big x true h1 ha
    have a2 := right_at p true (by rw [hT]; rfl) h2
    have a3 := node_at p T hT
    have d3 : (T.op == [112, 117, 98]) = false := by rw [beq_eq_false_iff_ne]; exact ho
    obtain ⟨O, hO⟩ : ∃ O, O = T.op := ⟨_, rfl⟩
    rw [← hO] at d3
    simp only [← hO] at a3
    have n0 := node_op O
    clear ha hT ho hO
    go_enter Try.func32, Try.ntmps32
    go_wp2_with (go_at_call 50; refine (a1 _).mono ?_; rintro e w' ⟨rfl, rfl⟩)
    refine (a2 _).mono ?_
    rintro e w1 ⟨rfl, hb⟩
    have HB := Lib.hid hb
    clear hb
    go_wp2_with fail
    refine (a3 _).mono ?_
    rintro e w2 ⟨v, rfl, hb2, g2, off2, cap2, rfl, _⟩
    have HB2 := Lib.hid (HB.out.trans (hb2.mono HB.out.size))
    obtain ⟨c0, c1, f0, f1, hz⟩ := two (clo.new_kept HB2.out)
    clear hb2
    go_wp2_with fail
    exact bodyPost_ret (v := .agg #[.string ⟨#[]⟩, .int .i64 1]) (by simp [results, Try.results32, go_sem, c0, c1]) rfl ⟨rfl, fin3 HB2.out _ _⟩
  | pub h1 h2 ha s hT =>
    have d1 : decide (8000 < (x.length : Int)) = false := by simp; omega
    have d2 : decide (8000 < (p.length : Int)) = false := by simp; omega
    have a1 := atom_big x true h1 ha
    have a2 := right_at p true (by rw [hT]; rfl) h2
    have a3 := node_at p (.pub s) hT
    have hsl : s.length ≤ 8 := (atomR_len (show atomR s = true from (term_some.1 hT).2.1)).2
    have a4 := ssy.dh_calls x s hx (by omega)
    have ek : nodeArgs (.pub s) = [s] := rfl
    rw [ek] at a3
    obtain ⟨R, hR⟩ : ∃ R, R = dhS x s := ⟨_, rfl⟩
    rw [← hR] at a4 ⊢
    have n0 := node_op oPub
    have n1 := node_args oPub
    simp only [Tm.op, oPub] at a3 n0 n1
    clear ha hT ek hR
    go_enter Try.func32, Try.ntmps32
    go_wp2_with (go_at_call 50; refine (a1 _).mono ?_; rintro e w' ⟨rfl, rfl⟩)
    refine (a2 _).mono ?_
    rintro e w1 ⟨rfl, hb⟩
    have HB := Lib.hid hb
    clear hb
    go_wp2_with fail
    refine (a3 _).mono ?_
    rintro e w2 ⟨v, rfl, hb2, g2, off2, cap2, rfl, _⟩
    have HB2 := Lib.hid (HB.out.trans (hb2.mono HB.out.size))
    clear hb2
    go_wp2_with fail
    refine (a3 _).mono ?_
    rintro e w3 ⟨v3, rfl, hb3, g3, off3, cap3, rfl, hB3, hg3, _, hc3⟩
    have k0 : w3.cell? ⟨g3, off3, none⟩ = some (str s) := by simpa using hc3 0 s rfl
    have HB3 := Lib.hid (HB2.out.trans (hb3.mono HB2.out.size))
    clear hb3 hc3
    go_wp2_with fail
    refine (a4 _).mono ?_
    rintro e w4 ⟨rfl, hb4⟩
    have HB4 := Lib.hid (HB3.out.trans (hb4.mono HB3.out.size))
    obtain ⟨c0, c1, f0, f1, hz⟩ := two (clo.new_kept HB4.out)
    clear hb4
    go_wp2_with fail
    exact bodyPost_ret (v := .agg #[str R, .int .i64 0]) (by simp [results, Try.results32, go_sem, c0, c1]) rfl ⟨rfl, fin3 HB4.out _ _⟩

/-! ### of the program -/

theorem as_pub (a : Bs) (w : World) : (Instr.typeAssert (.iface 75 (.agg #[str a])) 54 75 true).run Try.prog w = .ok (.tuple #[.agg #[str a], .bool true]) w := by kernel_rfl
theorem as_pub_nil (w : World) : (Instr.typeAssert .nilIface 54 75 true).run Try.prog w = .ok (.tuple #[.agg #[.string ⟨#[]⟩], .bool false]) w := by kernel_rfl
theorem as_pub_no (T : Tm) (h : T.op ≠ oPub) (w : World) : (Instr.typeAssert (val T) 54 75 true).run Try.prog w = .ok (.tuple #[.agg #[.string ⟨#[]⟩], .bool false]) w := by
  cases T with
  | pub a => exact absurd rfl h
  | _ => kernel_rfl

theorem rds_two (b : Nat) (w : World) (x s : Bs) (hb : b = w.heap.size) : Rds (w.alloc (.cells #[str x, str s] 9)) (.slice (some ⟨b, 0, none⟩) 2 2) [x, s] := by
  subst hb
  refine .inr ⟨w.heap.size, 0, 2, rfl, by simp, fun j l hj => ?_⟩
  match j, hj with
  | 0, hj => simp at hj; subst hj; simp [go_sem]
  | 1, hj => simp at hj; subst hj; simp [go_sem]

theorem yes_at (l : Bs) (T : Tm) (h : term l = some T) (w : World) : Calls Try.prog 46 #[str l] w fun e w' => e = .returned (.tuple #[val T, .bool true]) ∧ Below w.heap.size w w' :=
  termOf_yes ⟨l.toArray⟩ (by have := (term_some.1 h).1; unfold maxLen; show l.toArray.size ≤ _; simp; omega) T h w
theorem no_at (l : Bs) (hl : l.length ≤ 8000) (h : term l = none) (w : World) : Calls Try.prog 46 #[str l] w fun e w' => e = .returned (.tuple #[.nilIface, .bool false]) ∧ Below w.heap.size w w' :=
  termOf_no ⟨l.toArray⟩ (by unfold maxLen; show l.toArray.size ≤ _; simp; omega) h w

theorem out_block {w w1 : World} (h : Below (w.alloc (.cells #[.string ⟨#[]⟩, .int .i64 0] 36)).heap.size (w.alloc (.cells #[.string ⟨#[]⟩, .int .i64 0] 36)) w1) (o : Obj) :
    (w1.alloc o).heap[w.heap.size]? = some (.cells #[.string ⟨#[]⟩, .int .i64 0] 36 (0, 0)) := by
  have hz := h.size
  simp at hz
  rw [Below.heap_alloc _ _ _ (by omega)]
  exact clo.new_kept h
theorem out_bel {w w1 : World} {o1 : Obj} (h : Below (w.alloc o1).heap.size (w.alloc o1) w1) : Below w.heap.size w w1 := ((Below.refl _ _).alloc (Nat.le_refl _) _).trans (h.mono (by simp))

set_option maxHeartbeats 2000000 in
set_option maxRecDepth 100000 in
theorem implDh_calls (x p r : Bs) (c : Int) (h : DhR x p r c) (hx : x.length ≤ 4000000) (hp : p.length ≤ 4000000) (w : World) :
    Calls Try.prog 33 #[str x, str p] w fun e w' => e = .returned (outVal r c) ∧ Below w.heap.size w w' := by
  by_cases hs : 8000 < x.length ∨ 8000 < p.length
  · obtain ⟨rfl, rfl⟩ : r = [] ∧ c = 2 := by cases h <;> first | exact ⟨rfl, rfl⟩ | omega
    unfold outVal
    clear h
    by_cases h1 : 8000 < x.length
    · have t1 := tooLong_calls x hx true (by simpa using h1)
      go_enter Try.func33, Try.ntmps33
      go_wp2_with (go_at_call 53; refine (t1 _).mono ?_; rintro e w' ⟨rfl, rfl⟩)
      exact bodyPost_ret (v := .agg #[.string ⟨#[]⟩, .int .i64 2]) (by simp [results, Try.results33, go_sem]) rfl ⟨rfl, (Below.refl _ _).alloc (Nat.le_refl _) _⟩
    · have t1 := tooLong_calls x hx false (by simpa using h1)
      have t2 := tooLong_calls p hp true (by simp; omega)
      go_enter Try.func33, Try.ntmps33
      go_wp2_with (go_at_call 53; first | (refine (t1 _).mono ?_; rintro e w' ⟨rfl, rfl⟩) | (refine (t2 _).mono ?_; rintro e w' ⟨rfl, rfl⟩))
      exact bodyPost_ret (v := .agg #[.string ⟨#[]⟩, .int .i64 2]) (by simp [results, Try.results33, go_sem]) rfl ⟨rfl, (Below.refl _ _).alloc (Nat.le_refl _) _⟩
  · have t1 := tooLong_calls x hx false (by simp; omega)
    have t2 := tooLong_calls p hp false (by simp; omega)
    have hpl : p.length ≤ 8000 := by omega
    by_cases hpub : ∃ s, term p = some (.pub s)
    · obtain ⟨s, hT⟩ := hpub
      have hsa : atomR s = true := (term_some.1 hT).2.1
      have hR : makeR oDh [x, s] = (r, c) := by
        rw [make_dh x s hsa]
        cases h with
        | size h => exact absurd h hs
        | atom h1 h2 h => rw [h]; rfl
        | form h1 h2 ha h => rw [h] at hT; cases hT
        | other h1 h2 ha T hT' h => rw [hT'] at hT; cases hT; exact absurd rfl h
        | pub h1 h2 ha s' hT' => rw [hT'] at hT; cases hT; rw [ha]; rfl
      have hsl : s.length ≤ 8 := (atomR_len hsa).2
      have a1 := yes_at p (.pub s) hT
      simp only [val] at a1
      have a2 := as_pub s
      have a3 := fun ad (w : World) h => implMake_calls oDh ad 2 2 [x, s] w rfl h (by decide) (by simp) (by simp; omega)
      rw [hR] at a3
      unfold outVal at a3 ⊢
      have A3 := Lib.hid a3
      clear h hT hsa hR a3
      go_enter Try.func33, Try.ntmps33
      go_wp2_with (go_at_call 53; first | (refine (t1 _).mono ?_; rintro e w' ⟨rfl, rfl⟩) | (refine (t2 _).mono ?_; rintro e w' ⟨rfl, rfl⟩))
      refine (a1 _).mono ?_
      rintro e w1 ⟨rfl, hb⟩
      have HB := Lib.hid hb
      clear hb
      go_wp2_with fail
      refine (A3.out _ _ (rds_two _ _ x s (by simp))).mono ?_
      rintro e w2 ⟨rfl, hb2⟩
      have hz := HB.out.size
      simp at hz
      have hblk : w2.heap[w.heap.size]? = some (.cells #[.string ⟨#[]⟩, .int .i64 0] 36 (0, 0)) := by
        rw [hb2.block _ (by simp; omega), Below.heap_alloc _ _ _ (by simp; omega)]
        exact out_block HB.out _
      obtain ⟨c0, c1, f0, f1, hz2⟩ := two hblk
      have HB2 := Lib.hid ((((out_bel HB.out).alloc (by omega) _).alloc (by simp; omega) _).trans (hb2.mono (by simp; omega)))
      clear hb2 hblk
      go_wp2_with fail
      exact bodyPost_ret (v := .agg #[str r, .int .i64 c]) (by simp [results, Try.results33, go_sem, c0, c1]) rfl ⟨rfl, fin4 HB2.out _ _ (Nat.le_refl _)⟩
    · obtain ⟨rfl, rfl⟩ : r = [] ∧ c = 1 := by
        cases h with
        | size h => exact absurd h hs
        | pub h1 h2 ha s hT => exact absurd ⟨s, hT⟩ hpub
        | _ => exact ⟨rfl, rfl⟩
      unfold outVal
      clear h
      rcases hT : term p with _ | T
      · have a1 := no_at p hpl hT
        have a2 := as_pub_nil
        clear hT hpub
        go_enter Try.func33, Try.ntmps33
        go_wp2_with (go_at_call 53; first | (refine (t1 _).mono ?_; rintro e w' ⟨rfl, rfl⟩) | (refine (t2 _).mono ?_; rintro e w' ⟨rfl, rfl⟩))
        refine (a1 _).mono ?_
        rintro e w1 ⟨rfl, hb⟩
        have HB := Lib.hid hb
        obtain ⟨c0, c1, f0, f1, hz⟩ := two (out_block HB.out (.cells #[.string ⟨#[]⟩] 75))
        clear hb
        go_wp2_with fail
        exact bodyPost_ret (v := .agg #[.string ⟨#[]⟩, .int .i64 1]) (by simp [results, Try.results33, go_sem, c0, c1]) rfl ⟨rfl, fin4 ((out_bel HB.out).alloc (by have := HB.out.size; simp at this; omega) _) _ _ (Nat.le_refl _)⟩
      · have ho : T.op ≠ oPub := fun e => by obtain ⟨s, rfl⟩ := op_pub e; exact hpub ⟨s, hT⟩
        have a1 := yes_at p T hT
        have a2 := as_pub_no T ho
        obtain ⟨tt, tv, ev⟩ := val_iface T
        simp only [ev] at a1 a2
        clear hT hpub ho ev
        go_enter Try.func33, Try.ntmps33
        go_wp2_with (go_at_call 53; first | (refine (t1 _).mono ?_; rintro e w' ⟨rfl, rfl⟩) | (refine (t2 _).mono ?_; rintro e w' ⟨rfl, rfl⟩))
        refine (a1 _).mono ?_
        rintro e w1 ⟨rfl, hb⟩
        have HB := Lib.hid hb
        obtain ⟨c0, c1, f0, f1, hz⟩ := two (out_block HB.out (.cells #[.string ⟨#[]⟩] 75))
        clear hb
        go_wp2_with fail
        exact bodyPost_ret (v := .agg #[.string ⟨#[]⟩, .int .i64 1]) (by simp [results, Try.results33, go_sem, c0, c1]) rfl ⟨rfl, fin4 ((out_bel HB.out).alloc (by have := HB.out.size; simp at this; omega) _) _ _ (Nat.le_refl _)⟩
end Go.Proofs.Ytdikjmhnjlalbab.dhs
