/- Contracts of readTerms and fitting of the program. -/
import Derived.Test.YtonjohlecomeoaaRds
import Derived.Test.YtonjohlecomeoaaIot
import Derived.Test.YtonjohlecomeoaaDpd
import Derived.Test.YtonjohlecomeoaaMkp
namespace Go.Proofs.Ytonjohlecomeoaa.rts
open Go.RowKit Go.Proofs.Ytonjohlecomeoaa.tm Go.Proofs.Ytonjohlecomeoaa.lib Go.Proofs.Ytonjohlecomeoaa.rdr Go.Proofs.Ytonjohlecomeoaa.bld Go.Proofs.Ytonjohlecomeoaa.app Go.Proofs.Ytonjohlecomeoaa.grd Go.Proofs.Ytonjohlecomeoaa.txo Go.Proofs.Ytonjohlecomeoaa.sop Go.Proofs.Ytonjohlecomeoaa.iop Go.Proofs.Ytonjohlecomeoaa.mkp Go.Proofs.Ytonjohlecomeoaa.mrk
set_option linter.unusedVariables false

theorem terms_none {l : List Bs} {k : Nat} {x : Bs} (hk : l[k]? = some x) (h : term x = none) : terms l = none := by
  induction l generalizing k with
  | nil => simp at hk
  | cons a l ih =>
    rw [terms_cons]
    cases k with
    | zero => simp at hk; subst hk; rw [h]
    | succ k =>
      rw [ih (k := k) (by simpa using hk)]
      cases term a <;> rfl
theorem terms_snoc {l : List Bs} {Ts : List Tm} {x : Bs} {T : Tm} (h : terms l = some Ts) (hx : term x = some T) : terms (l ++ [x]) = some (Ts ++ [T]) := by
  induction l generalizing Ts with
  | nil => simp [terms] at h; subst h; simp [terms, hx]
  | cons a l ih =>
    rw [terms_cons] at h
    rw [List.cons_append, terms_cons]
    cases ha : term a with
    | none => rw [ha] at h; cases h
    | some A =>
      rw [ha] at h
      cases hl : terms l with
      | none => rw [hl] at h; cases h
      | some L =>
        rw [hl] at h
        cases h
        rw [ih hl]
        rfl

structure Lp (w : World) (n : Nat) (ls : List Bs) (v : Value) (wr : World) (k : Nat) (ts : List Tm) : Prop where
  le : k ≤ n
  told : terms (ls.take k) = some ts
  bel : Below w.heap.size w wr
  own : Tms wr w.heap.size v ts

def RTEnd (ls : List Bs) (w : World) (e : Ending) (w' : World) : Prop :=
  Below w.heap.size w w' ∧ ((∃ Ts v, terms ls = some Ts ∧ e = .returned v ∧ Tms w' w.heap.size v Ts) ∨ (terms ls = none ∧ e = fault 1))

set_option maxHeartbeats 1000000 in
set_option maxRecDepth 100000 in
theorem readTerms_calls (ad : Option Addr) (n cap : Nat) (ls : List Bs) (w : World) (hn : n = ls.length) (h : Rds w (.slice ad n cap) ls) (hl : ls.length ≤ 1000) (hs : ∀ x ∈ ls, x.length ≤ 4000000) :
    Calls Try.prog 63 #[.slice ad n cap] w (RTEnd ls w) := by
  have hn2 : n ≤ 1000 := by omega
  have H := Lib.hid h
  have HN := Lib.hid hn
  have HS := Lib.hid hs
  clear h hn hs hl
  go_enter Try.func63, Try.ntmps63
  go_wp2_with fail
  go_loopw [3, 5, 8, 9, 10, 11, 12, 13, 14, 15, 16, 17] (fun v _ vk _ _ _ _ _ _ _ _ _ wr => ∃ k ts, vk = .int .i64 (k : Nat) ∧ Lp w n ls v wr k ts) (fun _ _ vk _ _ _ _ _ _ _ _ _ _ => n - (intOf vk).toNat)
  case atStart => exact ⟨0, [], rfl, Nat.zero_le _, rfl, Below.refl _ _, Tms.nil _ _⟩
  case round =>
    obtain ⟨k, ts, rfl, L⟩ := hrel
    have HL := Lib.hid L
    have hk := L.le
    have hkl : ts.length ≤ 1000 := by
      have := terms_len _ _ L.told
      rw [List.length_take] at this
      omega
    clear L
    by_cases hlt : k < n
    · have hk' : k < ls.length := by have := HN.out; omega
      obtain ⟨x, hx⟩ : ∃ x, ls[k]? = some x := ⟨_, List.getElem?_eq_getElem hk'⟩
      rcases H.out with ⟨h0, _⟩ | ⟨g, off, cap', e, hg, hc⟩
      · rw [h0] at hx; simp at hx
      cases e
      have c1 : wr.cell? ⟨g, off + k, none⟩ = some (str x) := by rw [← hc k x hx]; exact HL.out.bel.cell (p := ⟨g, off + k, none⟩) hg
      have hxs : x.length ≤ 4000000 := HS.out x (List.mem_of_getElem? hx)
      have HX := Lib.hid hx
      clear hx hc hg
      rcases ht : term x with _ | T
      · have a1 := read_no x hxs ht
        have HT := Lib.hid (terms_none HX.out ht)
        clear ht
        go_wp2_with fail
        refine (a1 _).mono ?_
        rintro e w1 ⟨rfl, hb⟩
        exact ⟨rfl, HL.out.bel.trans (hb.mono HL.out.bel.size), .inr ⟨HT.out, rfl⟩⟩
      · have a1 := read_yes x T ht
        have HT := Lib.hid (terms_snoc HL.out.told ht)
        clear ht
        go_wp2_with fail
        refine (a1 _).mono ?_
        rintro e w1 ⟨rfl, hb⟩
        have T1 := Lib.hid (Tms.below HL.out.own hb)
        have HB := Lib.hid (HL.out.bel.trans (hb.mono HL.out.bel.size))
        have hz : w.heap.size ≤ w1.heap.size := HB.out.size
        clear hb c1
        obtain ⟨tt, vv, ev⟩ := val_iface T
        rw [ev]
        have EV := Lib.hid ev.symm
        clear ev
        go_wp2_with (at_builtin; refine wp_putT (.tmp 12) (.tmp 15) T _ EV.out w.heap.size _ ts rfl rfl rfl T1.out rfl (by omega) hz ?_; intro v6 w6 t6 b6)
        have T6 := Lib.hid t6
        have B6 := Lib.hid (HB.out.trans b6)
        clear t6 b6
        go_roundw
        case rel =>
          refine ⟨k + 1, ts ++ [T], by simp, hlt, ?_, B6.out, T6.out⟩
          rw [List.take_add_one, HX.out]
          exact HT.out
        case measure => simp [intOf]; omega
    · obtain rfl : k = n := by omega
      go_wp2_with fail
      go_ret
      refine ⟨HL.out.bel, .inl ⟨ts, _, ?_, rfl, HL.out.own⟩⟩
      have := HL.out.told
      rw [List.take_of_length_le (by have := HN.out; omega)] at this
      exact this

set_option maxRecDepth 100000 in
/-- A term that can be read again. -/
theorem fitting_yes (T : Tm) (h1 : T.tx.length ≤ 3000) (h2 : T.deep ≤ 24) (w : World) :
    Calls Try.prog 61 #[val T] w fun e w' => e = .returned (val T) ∧ Below w.heap.size w w' := by
  have a1 := textOf_calls T (by omega)
  have a2 := dpt.deepOf_calls T (by omega)
  obtain ⟨D, hD⟩ : ∃ D, D = T.deep := ⟨_, rfl⟩
  obtain ⟨X, hX⟩ : ∃ X, X = T.tx := ⟨_, rfl⟩
  rw [← hX] at a1 h1
  rw [← hD] at a2 h2
  obtain ⟨t, v, e⟩ := val_iface T
  rw [e] at a1 a2 ⊢
  have d1 : decide (3000 < (X.length : Int)) = false := by simp; omega
  have d2 : decide (24 < (D : Int)) = false := by simp; omega
  clear hD hX e
  go_enter Try.func61, Try.ntmps61
  go_wp2_with fail
  refine (a1 _).mono ?_
  rintro e w1 ⟨rfl, hb⟩
  have HB := Lib.hid hb
  clear hb
  go_wp2_with fail
  refine (a2 _).mono ?_
  rintro e w2 ⟨rfl, hb⟩
  have HB2 := Lib.hid (HB.out.trans (hb.mono HB.out.size))
  clear hb
  go_wp2_with fail
  go_ret
  exact ⟨rfl, HB2.out⟩

set_option maxRecDepth 100000 in
theorem fitting_no (T : Tm) (hl : T.tx.length ≤ 1000000) (hd : T.deep ≤ 100) (h : ¬ (T.tx.length ≤ 3000 ∧ T.deep ≤ 24)) (w : World) :
    Calls Try.prog 61 #[val T] w fun e w' => e = fault 9 ∧ Below w.heap.size w w' := by
  have a1 := textOf_calls T hl
  have a2 := dpt.deepOf_calls T hd
  obtain ⟨D, hD⟩ : ∃ D, D = T.deep := ⟨_, rfl⟩
  obtain ⟨X, hX⟩ : ∃ X, X = T.tx := ⟨_, rfl⟩
  rw [← hX] at a1 h
  rw [← hD] at a2 h
  obtain ⟨t, v, e⟩ := val_iface T
  rw [e] at a1 a2 ⊢
  clear hl hd hD hX e
  by_cases h1 : X.length ≤ 3000
  · have d1 : decide (3000 < (X.length : Int)) = false := by simp; omega
    have d2 : decide (24 < (D : Int)) = true := by simp; omega
    clear h
    go_enter Try.func61, Try.ntmps61
    go_wp2_with fail
    refine (a1 _).mono ?_
    rintro e w1 ⟨rfl, hb⟩
    have HB := Lib.hid hb
    clear hb
    go_wp2_with fail
    refine (a2 _).mono ?_
    rintro e w2 ⟨rfl, hb⟩
    have HB2 := Lib.hid (HB.out.trans (hb.mono HB.out.size))
    clear hb
    go_wp2_with (go_at_call 74; refine (refuse_calls _ _).mono ?_; rintro e w' ⟨rfl, rfl⟩)
    exact ⟨rfl, rfl, HB2.out⟩
  · have d1 : decide (3000 < (X.length : Int)) = true := by simp; omega
    clear h
    go_enter Try.func61, Try.ntmps61
    go_wp2_with fail
    refine (a1 _).mono ?_
    rintro e w1 ⟨rfl, hb⟩
    have HB := Lib.hid hb
    clear hb
    go_wp2_with (go_at_call 74; refine (refuse_calls _ _).mono ?_; rintro e w' ⟨rfl, rfl⟩)
    exact ⟨rfl, rfl, HB.out⟩
end Go.Proofs.Ytonjohlecomeoaa.rts
