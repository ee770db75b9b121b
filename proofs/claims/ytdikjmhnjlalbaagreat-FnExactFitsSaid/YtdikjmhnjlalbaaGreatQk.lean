/- Several small texts, one behind the other. -/
import Derived.Test.YtdikjmhnjlalbaaGreatQj
import Derived.Test.YtdikjmhnjlalbaaGreatQh
import Derived.Test.YtdikjmhnjlalbaaGreatQi

/- Contracts of tooLong, termOut, readTerm at texts. -/
namespace Go.Proofs.YtdikjmhnjlalbaaGreat.iop
open Go.RowKit Go.Proofs.YtdikjmhnjlalbaaGreat.tm Go.Proofs.YtdikjmhnjlalbaaGreat.lib Go.Proofs.YtdikjmhnjlalbaaGreat.rdr Go.Proofs.YtdikjmhnjlalbaaGreat.bld Go.Proofs.YtdikjmhnjlalbaaGreat.app Go.Proofs.YtdikjmhnjlalbaaGreat.grd Go.Proofs.YtdikjmhnjlalbaaGreat.txo Go.Proofs.YtdikjmhnjlalbaaGreat.sop
set_option linter.unusedVariables false

set_option maxRecDepth 100000 in
theorem tooLong_calls (l : Bs) (hl : l.length ≤ 4000000) (b : Bool) (h : decide (8000 < l.length) = b) (w : World) :
    Calls Tryz.prog 49 #[str l] w fun e w' => e = .returned (.bool b) ∧ w = w' := by
  have d : decide (8000 < (l.length : Int)) = b := by rw [← h]; simp; omega
  clear h
  go_enter Tryz.func49, Tryz.ntmps49
  go_wp2_with fail
  go_ret
  exact ⟨rfl, rfl⟩

/-- termOut of a closure that returns. -/
theorem termOut_ret (F : FuncId) (cap : Array Value) (r : Bs) (hcf : ∀ (w : World), (callFunc F cap).run Tryz.prog w = .ok (.enter F cap) w) (w : World)
    (h : ∀ w1, Below w.heap.size w w1 → Calls Tryz.prog F cap w1 fun e w' => e = .returned (str r) ∧ Below w1.heap.size w1 w') :
    Calls Tryz.prog 74 #[.func (.func F) #[] cap] w fun e w' => e = .returned (outVal r 0) ∧ Below w.heap.size w w' := by
  unfold outVal
  have hg := guardedS_ret F cap (str r) hcf
  have HH := Lib.hid h
  clear h
  go_enter Tryz.func74, Tryz.ntmps74
  go_wp2_with fail
  refine (hg _ fun w1 hb => HH.out w1 (((Below.refl _ _).alloc (Nat.le_refl _) _).trans (hb.mono (by simp)))).mono ?_
  rintro e w1 ⟨rfl, hb⟩
  have HB := Lib.hid hb
  obtain ⟨c0, c1, f0, f1, hz⟩ := two (clo.new_kept hb)
  clear hb
  go_wp2_with fail
  exact bodyPost_ret (v := .agg #[str r, .int .i64 0]) (by simp [results, Tryz.results74, go_sem, c0, c1]) rfl ⟨rfl, fin3 HB.out _ _⟩

theorem termOut_fault (F : FuncId) (cap : Array Value) (c : Int) (hcf : ∀ (w : World), (callFunc F cap).run Tryz.prog w = .ok (.enter F cap) w) (w : World)
    (h : ∀ w1, Below w.heap.size w w1 → Calls Tryz.prog F cap w1 fun e w' => e = fault c ∧ Below w1.heap.size w1 w') :
    Calls Tryz.prog 74 #[.func (.func F) #[] cap] w fun e w' => e = .returned (outVal [] c) ∧ Below w.heap.size w w' := by
  unfold outVal
  have hg := guardedS_fault F cap c hcf
  have HH := Lib.hid h
  clear h
  go_enter Tryz.func74, Tryz.ntmps74
  go_wp2_with fail
  refine (hg _ fun w1 hb => HH.out w1 (((Below.refl _ _).alloc (Nat.le_refl _) _).trans (hb.mono (by simp)))).mono ?_
  rintro e w1 ⟨rfl, hb⟩
  have HB := Lib.hid hb
  obtain ⟨c0, c1, f0, f1, hz⟩ := two (clo.new_kept hb)
  clear hb
  go_wp2_with fail
  exact bodyPost_ret (v := .agg #[.string ⟨#[]⟩, .int .i64 c]) (by simp [results, Tryz.results74, go_sem, c0, c1]) rfl ⟨rfl, fin3 HB.out _ _⟩

theorem read_yes (l : Bs) (T : Tm) (h : term l = some T) (w : World) : Calls Tryz.prog 83 #[str l] w fun e w' => e = .returned (val T) ∧ Below w.heap.size w w' := by
  refine (readTerm_calls ⟨l.toArray⟩ (by have := (term_some.1 h).1; unfold maxLen; show l.toArray.size ≤ _; simp; omega) w).mono ?_
  rintro e w' ⟨hk, hb⟩
  rw [show term (⟨l.toArray⟩ : ByteArray).data.toList = some T from h] at hk
  rcases hk with ⟨T', h1, rfl⟩ | ⟨h1, _⟩
  · cases h1; exact ⟨rfl, hb⟩
  · cases h1
theorem read_no (l : Bs) (hl : l.length ≤ 4000000) (h : term l = none) (w : World) : Calls Tryz.prog 83 #[str l] w fun e w' => e = fault 1 ∧ Below w.heap.size w w' := by
  refine (readTerm_calls ⟨l.toArray⟩ (by unfold maxLen; show l.toArray.size ≤ _; simp; omega) w).mono ?_
  rintro e w' ⟨hk, hb⟩
  rw [show term (⟨l.toArray⟩ : ByteArray).data.toList = none from h] at hk
  rcases hk with ⟨T', h1, _⟩ | ⟨_, rfl⟩
  · cases h1
  · exact ⟨rfl, hb⟩

theorem kept_cell {w w1 : World} (h : Below w.heap.size w w1) {a : Nat} {v : Value} (c : w.cell? ⟨a, 0, none⟩ = some v) (ha : a < w.heap.size) : w1.cell? ⟨a, 0, none⟩ = some v := by
  rw [h.cell (p := ⟨a, 0, none⟩) ha]; exact c

def OEnd (r : Bs) (c : Int) (w : World) (e : Ending) (w' : World) : Prop := ((c = 0 ∧ e = .returned (str r)) ∨ (c ≠ 0 ∧ e = fault c)) ∧ Below w.heap.size w w'

end Go.Proofs.YtdikjmhnjlalbaaGreat.iop

/- Contract of deepOf of the program. -/
namespace Go.Proofs.YtdikjmhnjlalbaaGreat.dpt
open Go.RowKit Go.Proofs.YtdikjmhnjlalbaaGreat.tm Go.Proofs.YtdikjmhnjlalbaaGreat.lib Go.Proofs.YtdikjmhnjlalbaaGreat.rdr Go.Proofs.YtdikjmhnjlalbaaGreat.bld Go.Proofs.YtdikjmhnjlalbaaGreat.app Go.Proofs.YtdikjmhnjlalbaaGreat.arg
set_option linter.unusedVariables false

theorem kids_cases (T : Tm) : (T.kids = [] ∧ T.deep = 1) ∨ (∃ x, T.kids = [x] ∧ T.deep = x.deep + 1) ∨ (∃ x y, T.kids = [x, y] ∧ T.deep = max x.deep y.deep + 1) := by
  cases T with
  | atom a => exact .inl ⟨rfl, rfl⟩
  | pair x y => exact .inr (.inr ⟨x, y, rfl, rfl⟩)
  | hash x => exact .inr (.inl ⟨x, rfl, rfl⟩)
  | mac x y => exact .inr (.inr ⟨x, y, rfl, rfl⟩)
  | shut x y => exact .inr (.inr ⟨x, y, rfl, rfl⟩)
  | pub a => exact .inr (.inl ⟨.atom a, rfl, rfl⟩)
  | dh a b => exact .inr (.inr ⟨.atom a, .atom b, rfl, rfl⟩)

def DP (T : Tm) : Prop := ∀ w, Calls Tryz.prog 90 #[val T] w fun e w' => e = .returned (.int .i64 (T.deep : Nat)) ∧ Below w.heap.size w w'

set_option maxHeartbeats 1000000 in
set_option maxRecDepth 100000 in
theorem dp_all : ∀ n (T : Tm), T.deep ≤ n → T.deep ≤ 100 → DP T
  | 0, T, h, _ => by have := deep_pos T; omega
  | n + 1, T, h, h100 => by
    intro w
    have ih : ∀ k ∈ T.kids, DP k := fun k hk => dp_all n k (by have := kid_deep hk; omega) (by have := kid_deep hk; omega)
    have h1 := met_args T
    have h2 := inv_args T
    have h3 := args_calls T w
    rw [val_eq]
    rcases kids_cases T with ⟨e1, e2⟩ | ⟨x, e1, e2⟩ | ⟨x, y, e1, e2⟩
    · rw [e1] at h3
      rw [e2]
      clear e1 e2 ih h h100
      go_enter Tryz.func90, Tryz.ntmps90
      go_wp2_with fail
      refine h3.mono ?_
      rintro e w1 ⟨v, rfl, hb, hk⟩
      rcases hk.len with ⟨rfl, _⟩ | ⟨g, cap, rfl⟩
      all_goals
        have HB := Lib.hid hb
        clear hb hk
        go_wp2_with fail
        refine wp_loop_rounds 1 ?_
        rw [rounds_succ]
        go_wp2_with fail
        go_ret
        exact ⟨rfl, HB.out⟩
    · rw [e1] at h3
      have ix := ih x (by rw [e1]; simp)
      unfold DP at ix
      have hd : x.deep ≤ 100 := by omega
      have hp := deep_pos x
      rw [e2]
      obtain ⟨dx, hdx⟩ : ∃ d, d = x.deep := ⟨_, rfl⟩
      rw [← hdx] at ix hd hp ⊢
      clear e1 e2 ih h h100 hdx
      have hp : 0 < dx := hp
      go_enter Tryz.func90, Tryz.ntmps90
      go_wp2_with fail
      refine h3.mono ?_
      rintro e w1 ⟨v, rfl, hb, hk⟩
      obtain ⟨g, cap, rfl, c0, hg⟩ := Tms.one' hk
      have HB := Lib.hid hb
      clear hb hk
      go_wp2_with fail
      refine wp_loop_rounds 2 ?_
      rw [rounds_succ]
      go_wp2_with fail
      refine (ix _).mono ?_
      rintro e w2 ⟨rfl, hb2⟩
      have HB2 := Lib.hid (HB.out.trans (hb2.mono HB.out.size))
      clear hb2 c0
      go_wp2_with fail
      rw [rounds_succ]
      go_wp2_with fail
      go_ret
      exact ⟨ret_int (by omega), HB2.out⟩
    · rw [e1] at h3
      have ix := ih x (by rw [e1]; simp)
      have iy := ih y (by rw [e1]; simp)
      unfold DP at ix iy
      have hd : x.deep ≤ 100 := by omega
      have hd2 : y.deep ≤ 100 := by omega
      have hp := deep_pos x
      have hp2 := deep_pos y
      rw [e2]
      obtain ⟨dx, hdx⟩ : ∃ d, d = x.deep := ⟨_, rfl⟩
      obtain ⟨dy, hdy⟩ : ∃ d, d = y.deep := ⟨_, rfl⟩
      rw [← hdx] at ix hd hp ⊢
      rw [← hdy] at iy hd2 hp2 ⊢
      clear e1 e2 ih h h100 hdx hdy
      have hp : 0 < dx := hp
      rcases Nat.lt_or_ge dx dy with hlt | hge
      all_goals
        go_enter Tryz.func90, Tryz.ntmps90
        go_wp2_with fail
        refine h3.mono ?_
        rintro e w1 ⟨v, rfl, hb, hk⟩
        obtain ⟨g, cap, rfl, c0, c1, hg⟩ := Tms.two' hk
        have HB := Lib.hid hb
        clear hb hk
        go_wp2_with fail
        refine wp_loop_rounds 3 ?_
        rw [rounds_succ]
        go_wp2_with fail
        refine (ix _).mono ?_
        rintro e w2 ⟨rfl, hb2⟩
        have k1 := hb2.cell (p := ⟨g, 1, none⟩) hg
        rw [c1] at k1
        have HB2 := Lib.hid (HB.out.trans (hb2.mono HB.out.size))
        clear hb2 c0 c1
        go_wp2_with fail
        rw [rounds_succ]
        go_wp2_with fail
        refine (iy _).mono ?_
        rintro e w3 ⟨rfl, hb3⟩
        have HB3 := Lib.hid (HB2.out.trans (hb3.mono HB2.out.size))
        clear hb3 k1
        go_wp2_with fail
        rw [rounds_succ]
        go_wp2_with fail
        go_ret
        exact ⟨ret_int (by omega), HB3.out⟩

theorem deepOf_calls (T : Tm) (h : T.deep ≤ 100) (w : World) : Calls Tryz.prog 90 #[val T] w fun e w' => e = .returned (.int .i64 (T.deep : Nat)) ∧ Below w.heap.size w w' :=
  dp_all T.deep T (Nat.le_refl _) h w

end Go.Proofs.YtdikjmhnjlalbaaGreat.dpt

/- Contracts of readTerms and fitting of the program. -/
namespace Go.Proofs.YtdikjmhnjlalbaaGreat.rts
open Go.RowKit Go.Proofs.YtdikjmhnjlalbaaGreat.tm Go.Proofs.YtdikjmhnjlalbaaGreat.lib Go.Proofs.YtdikjmhnjlalbaaGreat.rdr Go.Proofs.YtdikjmhnjlalbaaGreat.bld Go.Proofs.YtdikjmhnjlalbaaGreat.app Go.Proofs.YtdikjmhnjlalbaaGreat.grd Go.Proofs.YtdikjmhnjlalbaaGreat.txo Go.Proofs.YtdikjmhnjlalbaaGreat.sop Go.Proofs.YtdikjmhnjlalbaaGreat.iop Go.Proofs.YtdikjmhnjlalbaaGreat.mkp Go.Proofs.YtdikjmhnjlalbaaGreat.mrk
set_option linter.unusedVariables false

theorem terms_none {l : List Bs} {k : Nat} {x : Bs} (hk : l[k]? = some x) (h : term x = none) : terms l = none := by
  induction l generalizing k with
  | nil => simp at hk
  | cons a l ih =>
    rw [terms_cons]
    cases k with
    | zero => simp at hk; subst hk; rw [h]
    | succ k =>
      rw [ih (k := k) (by simpa using hk)]
      cases term a <;> rfl
theorem terms_snoc {l : List Bs} {Ts : List Tm} {x : Bs} {T : Tm} (h : terms l = some Ts) (hx : term x = some T) : terms (l ++ [x]) = some (Ts ++ [T]) := by
  induction l generalizing Ts with
  | nil => simp [terms] at h; subst h; simp [terms, hx]
  | cons a l ih =>
    rw [terms_cons] at h
    rw [List.cons_append, terms_cons]
    cases ha : term a with
    | none => rw [ha] at h; cases h
    | some A =>
      rw [ha] at h
      cases hl : terms l with
      | none => rw [hl] at h; cases h
      | some L =>
        rw [hl] at h
        cases h
        rw [ih hl]
        rfl

structure Lp (w : World) (n : Nat) (ls : List Bs) (v : Value) (wr : World) (k : Nat) (ts : List Tm) : Prop where
  le : k ≤ n
  told : terms (ls.take k) = some ts
  bel : Below w.heap.size w wr
  own : Tms wr w.heap.size v ts

def RTEnd (ls : List Bs) (w : World) (e : Ending) (w' : World) : Prop :=
  Below w.heap.size w w' ∧ ((∃ Ts v, terms ls = some Ts ∧ e = .returned v ∧ Tms w' w.heap.size v Ts) ∨ (terms ls = none ∧ e = fault 1))

set_option maxHeartbeats 1000000 in
set_option maxRecDepth 100000 in
theorem readTerms_calls (ad : Option Addr) (n cap : Nat) (ls : List Bs) (w : World) (hn : n = ls.length) (h : Rds w (.slice ad n cap) ls) (hl : ls.length ≤ 1000) (hs : ∀ x ∈ ls, x.length ≤ 4000000) :
    Calls Tryz.prog 79 #[.slice ad n cap] w (RTEnd ls w) := by
  have hn2 : n ≤ 1000 := by omega
  have H := Lib.hid h
  have HN := Lib.hid hn
  have HS := Lib.hid hs
  clear h hn hs hl
  go_enter Tryz.func79, Tryz.ntmps79
  go_wp2_with fail
  go_loopw [3, 5, 8, 9, 10, 11, 12, 13, 14, 15, 16, 17] (fun v _ vk _ _ _ _ _ _ _ _ _ wr => ∃ k ts, vk = .int .i64 (k : Nat) ∧ Lp w n ls v wr k ts) (fun _ _ vk _ _ _ _ _ _ _ _ _ _ => n - (intOf vk).toNat)
  case atStart => exact ⟨0, [], rfl, Nat.zero_le _, rfl, Below.refl _ _, Tms.nil _ _⟩
  case round =>
    obtain ⟨k, ts, rfl, L⟩ := hrel
    have HL := Lib.hid L
    have hk := L.le
    have hkl : ts.length ≤ 1000 := by
      have := terms_len _ _ L.told
      rw [List.length_take] at this
      omega
    clear L
    by_cases hlt : k < n
    · have hk' : k < ls.length := by have := HN.out; omega
      obtain ⟨x, hx⟩ : ∃ x, ls[k]? = some x := ⟨_, List.getElem?_eq_getElem hk'⟩
      rcases H.out with ⟨h0, _⟩ | ⟨g, off, cap', e, hg, hc⟩
      · rw [h0] at hx; simp at hx
      cases e
      have c1 : wr.cell? ⟨g, off + k, none⟩ = some (str x) := by rw [← hc k x hx]; exact HL.out.bel.cell (p := ⟨g, off + k, none⟩) hg
      have hxs : x.length ≤ 4000000 := HS.out x (List.mem_of_getElem? hx)
      have HX := Lib.hid hx
      clear hx hc hg
      rcases ht : term x with _ | T
      · have a1 := read_no x hxs ht
        have HT := Lib.hid (terms_none HX.out ht)
        clear ht
        go_wp2_with fail
        refine (a1 _).mono ?_
        rintro e w1 ⟨rfl, hb⟩
        exact ⟨rfl, HL.out.bel.trans (hb.mono HL.out.bel.size), .inr ⟨HT.out, rfl⟩⟩
      · have a1 := read_yes x T ht
        have HT := Lib.hid (terms_snoc HL.out.told ht)
        clear ht
        go_wp2_with fail
        refine (a1 _).mono ?_
        rintro e w1 ⟨rfl, hb⟩
        have T1 := Lib.hid (Tms.below HL.out.own hb)
        have HB := Lib.hid (HL.out.bel.trans (hb.mono HL.out.bel.size))
        have hz : w.heap.size ≤ w1.heap.size := HB.out.size
        clear hb c1
        obtain ⟨tt, vv, ev⟩ := val_iface T
        rw [ev]
        have EV := Lib.hid ev.symm
        clear ev
        go_wp2_with (at_builtin; refine wp_putT (.tmp 12) (.tmp 15) T _ EV.out w.heap.size _ ts rfl rfl rfl T1.out rfl (by omega) hz ?_; intro v6 w6 t6 b6)
        have T6 := Lib.hid t6
        have B6 := Lib.hid (HB.out.trans b6)
        clear t6 b6
        go_roundw
        case rel =>
          refine ⟨k + 1, ts ++ [T], by simp, hlt, ?_, B6.out, T6.out⟩
          rw [List.take_add_one, HX.out]
          exact HT.out
        case measure => simp [intOf]; omega
    · obtain rfl : k = n := by omega
      go_wp2_with fail
      go_ret
      refine ⟨HL.out.bel, .inl ⟨ts, _, ?_, rfl, HL.out.own⟩⟩
      have := HL.out.told
      rw [List.take_of_length_le (by have := HN.out; omega)] at this
      exact this

set_option maxRecDepth 100000 in
/-- A term that can be read again. -/
theorem fitting_yes (T : Tm) (h1 : T.tx.length ≤ 3000) (h2 : T.deep ≤ 24) (w : World) :
    Calls Tryz.prog 77 #[val T] w fun e w' => e = .returned (val T) ∧ Below w.heap.size w w' := by
  have a1 := textOf_calls T (by omega)
  have a2 := dpt.deepOf_calls T (by omega)
  obtain ⟨D, hD⟩ : ∃ D, D = T.deep := ⟨_, rfl⟩
  obtain ⟨X, hX⟩ : ∃ X, X = T.tx := ⟨_, rfl⟩
  rw [← hX] at a1 h1
  rw [← hD] at a2 h2
  obtain ⟨t, v, e⟩ := val_iface T
  rw [e] at a1 a2 ⊢
  have d1 : decide (3000 < (X.length : Int)) = false := by simp; omega
  have d2 : decide (24 < (D : Int)) = false := by simp; omega
  clear hD hX e
  go_enter Tryz.func77, Tryz.ntmps77
  go_wp2_with fail
  refine (a1 _).mono ?_
  rintro e w1 ⟨rfl, hb⟩
  have HB := Lib.hid hb
  clear hb
  go_wp2_with fail
  refine (a2 _).mono ?_
  rintro e w2 ⟨rfl, hb⟩
  have HB2 := Lib.hid (HB.out.trans (hb.mono HB.out.size))
  clear hb
  go_wp2_with fail
  go_ret
  exact ⟨rfl, HB2.out⟩

set_option maxRecDepth 100000 in
theorem fitting_no (T : Tm) (hl : T.tx.length ≤ 1000000) (hd : T.deep ≤ 100) (h : ¬ (T.tx.length ≤ 3000 ∧ T.deep ≤ 24)) (w : World) :
    Calls Tryz.prog 77 #[val T] w fun e w' => e = fault 9 ∧ Below w.heap.size w w' := by
  have a1 := textOf_calls T hl
  have a2 := dpt.deepOf_calls T hd
  obtain ⟨D, hD⟩ : ∃ D, D = T.deep := ⟨_, rfl⟩
  obtain ⟨X, hX⟩ : ∃ X, X = T.tx := ⟨_, rfl⟩
  rw [← hX] at a1 h
  rw [← hD] at a2 h
  obtain ⟨t, v, e⟩ := val_iface T
  rw [e] at a1 a2 ⊢
  clear hl hd hD hX e
  by_cases h1 : X.length ≤ 3000
  · have d1 : decide (3000 < (X.length : Int)) = false := by simp; omega
    have d2 : decide (24 < (D : Int)) = true := by simp; omega
    clear h
    go_enter Tryz.func77, Tryz.ntmps77
    go_wp2_with fail
    refine (a1 _).mono ?_
    rintro e w1 ⟨rfl, hb⟩
    have HB := Lib.hid hb
    clear hb
    go_wp2_with fail
    refine (a2 _).mono ?_
    rintro e w2 ⟨rfl, hb⟩
    have HB2 := Lib.hid (HB.out.trans (hb.mono HB.out.size))
    clear hb
    go_wp2_with (go_at_call 91; refine (refuse_calls _ _).mono ?_; rintro e w' ⟨rfl, rfl⟩)
    exact ⟨rfl, rfl, HB2.out⟩
  · have d1 : decide (3000 < (X.length : Int)) = true := by simp; omega
    clear h
    go_enter Tryz.func77, Tryz.ntmps77
    go_wp2_with fail
    refine (a1 _).mono ?_
    rintro e w1 ⟨rfl, hb⟩
    have HB := Lib.hid hb
    clear hb
    go_wp2_with (go_at_call 91; refine (refuse_calls _ _).mono ?_; rintro e w' ⟨rfl, rfl⟩)
    exact ⟨rfl, rfl, HB.out⟩
end Go.Proofs.YtdikjmhnjlalbaaGreat.rts

/- What BodyOf answers. -/
namespace Go.Proofs.YtdikjmhnjlalbaaGreat.bdr
open Go Go.Proofs.YtdikjmhnjlalbaaGreat.tm Go.Proofs.YtdikjmhnjlalbaaGreat.ltv Go.Proofs.YtdikjmhnjlalbaaGreat.ltp
def bodyR (m : Lt) : Bs := if right m then body m.ps else []
end Go.Proofs.YtdikjmhnjlalbaaGreat.bdr

/- Contract of the model's l02Say. -/
namespace Go.Proofs.YtdikjmhnjlalbaaGreat.ssy
open Go.RowKit Go.Proofs.YtdikjmhnjlalbaaGreat.tm Go.Proofs.YtdikjmhnjlalbaaGreat.lib Go.Proofs.YtdikjmhnjlalbaaGreat.rdr Go.Proofs.YtdikjmhnjlalbaaGreat.bld Go.Proofs.YtdikjmhnjlalbaaGreat.app Go.Proofs.YtdikjmhnjlalbaaGreat.txo Go.Proofs.YtdikjmhnjlalbaaGreat.sop
set_option linter.unusedVariables false

set_option maxHeartbeats 1000000 in
set_option maxRecDepth 100000 in
theorem say_one (op x : Bs) (g : Nat) (off : Nat) (cap : Nat) (w : World) (c0 : w.cell? ⟨g, off, none⟩ = some (str x)) (hop : op.length ≤ 10000) (hx : x.length ≤ 4000000) :
    Calls Tryz.prog 34 #[str op, .slice (some ⟨g, off, none⟩) 1 cap] w fun e w' => e = .returned (str (say op [x])) ∧ Below w.heap.size w w' := by
  obtain ⟨X, hX⟩ : ∃ X, X = say op [x] := ⟨_, rfl⟩
  obtain ⟨S1, hS1⟩ : ∃ S, 91 :: op = S := ⟨_, rfl⟩
  obtain ⟨S2, hS2⟩ : ∃ S, S1 ++ [32] = S := ⟨_, rfl⟩
  obtain ⟨S3, hS3⟩ : ∃ S, S2 ++ x = S := ⟨_, rfl⟩
  have l1 : S1.length ≤ 10001 := by rw [← hS1]; simp; omega
  have l2 : S2.length ≤ 10002 := by rw [← hS2]; simp; omega
  have l3 : S3.length ≤ 5000000 := by rw [← hS3]; simp; omega
  have f1 := add_at [91] op S1 hS1 (by omega)
  have f2 := add_at S1 [32] S2 hS2 (by omega)
  have f3 := add_at S2 x S3 hS3 (by omega)
  have f4 := add_at S3 [93] X (by rw [← hS3, ← hS2, ← hS1, hX]; simp [say]) (by rw [hX]; simp [say]; omega)
  rw [← hX]
  clear hX hS1 hS2 hS3 l1 l2 l3
  go_enter Tryz.func34, Tryz.ntmps34
  go_wp2_with fail
  refine wp_loop_rounds 2 ?_
  rw [rounds_succ]
  go_wp2_with fail
  rw [rounds_succ]
  go_wp2_with fail
  go_ret
  exact ⟨rfl, Below.refl _ _⟩

set_option maxHeartbeats 1000000 in
set_option maxRecDepth 100000 in
theorem say_two (op x y : Bs) (g : Nat) (off : Nat) (cap : Nat) (w : World) (c0 : w.cell? ⟨g, off, none⟩ = some (str x)) (c1 : w.cell? ⟨g, off + 1, none⟩ = some (str y)) (hop : op.length ≤ 10000) (hx : x.length ≤ 4000000) (hy : y.length ≤ 4000000) :
    Calls Tryz.prog 34 #[str op, .slice (some ⟨g, off, none⟩) 2 cap] w fun e w' => e = .returned (str (say op [x, y])) ∧ Below w.heap.size w w' := by
  obtain ⟨X, hX⟩ : ∃ X, X = say op [x, y] := ⟨_, rfl⟩
  obtain ⟨S1, hS1⟩ : ∃ S, 91 :: op = S := ⟨_, rfl⟩
  obtain ⟨S2, hS2⟩ : ∃ S, S1 ++ [32] = S := ⟨_, rfl⟩
  obtain ⟨S3, hS3⟩ : ∃ S, S2 ++ x = S := ⟨_, rfl⟩
  obtain ⟨S4, hS4⟩ : ∃ S, S3 ++ [32] = S := ⟨_, rfl⟩
  obtain ⟨S5, hS5⟩ : ∃ S, S4 ++ y = S := ⟨_, rfl⟩
  have l1 : S1.length ≤ 10001 := by rw [← hS1]; simp; omega
  have l2 : S2.length ≤ 10002 := by rw [← hS2]; simp; omega
  have l3 : S3.length ≤ 5000000 := by rw [← hS3]; simp; omega
  have l4 : S4.length ≤ 5000001 := by rw [← hS4]; simp; omega
  have l5 : S5.length ≤ 10000000 := by rw [← hS5]; simp; omega
  have f1 := add_at [91] op S1 hS1 (by omega)
  have f2 := add_at S1 [32] S2 hS2 (by omega)
  have f3 := add_at S2 x S3 hS3 (by omega)
  have f4 := add_at S3 [32] S4 hS4 (by omega)
  have f5 := add_at S4 y S5 hS5 (by omega)
  have f6 := add_at S5 [93] X (by rw [← hS5, ← hS4, ← hS3, ← hS2, ← hS1, hX]; simp [say]) (by rw [hX]; simp [say]; omega)
  rw [← hX]
  clear hX hS1 hS2 hS3 hS4 hS5 l1 l2 l3 l4 l5
  go_enter Tryz.func34, Tryz.ntmps34
  go_wp2_with fail
  refine wp_loop_rounds 3 ?_
  rw [rounds_succ]
  go_wp2_with fail
  rw [rounds_succ]
  go_wp2_with fail
  rw [rounds_succ]
  go_wp2_with fail
  go_ret
  exact ⟨rfl, Below.refl _ _⟩

end Go.Proofs.YtdikjmhnjlalbaaGreat.ssy
