/- KnownRight of the model. -/
import Derived.Test.YtdikjmhnjlalbabGreatPsoq
import Derived.Test.YtdikjmhnjlalbabGreatQn
import Derived.Lib.QuietBelow
namespace Go.Proofs.YtdikjmhnjlalbabGreat.skr
open Go.RowKit Go.Proofs.YtdikjmhnjlalbabGreat.tm Go.Proofs.YtdikjmhnjlalbabGreat.lib Go.Proofs.YtdikjmhnjlalbabGreat.rdr Go.Proofs.YtdikjmhnjlalbabGreat.bld Go.Proofs.YtdikjmhnjlalbabGreat.app Go.Proofs.YtdikjmhnjlalbabGreat.mrk Go.Proofs.YtdikjmhnjlalbabGreat.mrs Go.Proofs.YtdikjmhnjlalbabGreat.ato Go.Proofs.YtdikjmhnjlalbabGreat.pso
set_option linter.unusedVariables false

structure Lq (ls : List Bs) (w : World) (wr : World) (k : Nat) : Prop where
  le : k ≤ ls.length
  right : ∀ j, j < k → ∀ x, ls[j]? = some x → ∃ T, term x = some T
  rise : ∀ j, j + 1 < k → ∀ x y, ls[j]? = some x → ls[j + 1]? = some y → x < y
  bel : Below w.heap.size w wr

theorem Lq.step {ls : List Bs} {w wr w1 : World} {k : Nat} (L : Lq ls w wr k) {x : Bs} (hx : ls[k]? = some x) (hT : (term x).isSome = true) (hr : ∀ j y, k = j + 1 → ls[j]? = some y → y < x) (hb : Below wr.heap.size wr w1) : Lq ls w w1 (k + 1) := by
  obtain ⟨hk, _⟩ := List.getElem?_eq_some_iff.1 hx
  refine ⟨hk, fun j hj y hy => ?_, fun j hj a b ha hb => ?_, L.bel.trans (hb.mono L.bel.size)⟩
  · rcases Nat.lt_or_ge j k with h | h
    · exact L.right j h y hy
    · have : j = k := by omega
      subst this
      rw [hx] at hy
      cases hy
      exact Option.isSome_iff_exists.1 hT
  · rcases Nat.lt_or_ge (j + 1) k with h | h
    · exact L.rise j h a b ha hb
    · have : k = j + 1 := by omega
      subst this
      rw [hx] at hb
      cases hb
      exact hr j a rfl ha

theorem kn_of {ls : List Bs} (h60 : ls.length ≤ 60) (hr : ∀ x ∈ ls, ∃ T, term x = some T) (hs : Rise ls) : ∃ Ts, Kn ls Ts := by
  suffices h : ∃ Ts : List Tm, ls = Ts.map Tm.tx ∧ ∀ T ∈ Ts, term T.tx = some T by
    obtain ⟨Ts, h1, h2⟩ := h
    exact ⟨Ts, h60, hs, h1, h2⟩
  clear h60 hs
  induction ls with
  | nil => exact ⟨[], rfl, by simp⟩
  | cons x ls ih =>
    obtain ⟨T, hT⟩ := hr x (by simp)
    obtain ⟨Ts, h1, h2⟩ := ih fun y hy => hr y (by simp [hy])
    have e := (term_some.1 hT).2.2.2
    refine ⟨T :: Ts, by rw [List.map_cons, e, ← h1], fun U hU => ?_⟩
    rcases List.mem_cons.1 hU with rfl | hU
    · rw [e]; exact hT
    · exact h2 U hU

def KEnd (ls : List Bs) (w : World) (e : Ending) (w' : World) : Prop :=
  Below w.heap.size w w' ∧ (((∃ Ts, Kn ls Ts) ∧ e = .returned (.bool true)) ∨ ((∀ Ts, ¬ Kn ls Ts) ∧ e = .returned (.bool false)))

set_option maxHeartbeats 1000000 in
set_option maxRecDepth 100000 in
theorem specKnownRight_calls (ad : Option Addr) (n cap : Nat) (ls : List Bs) (w : World) (hn : n = ls.length) (h : Rds w (.slice ad n cap) ls) (hm : n ≤ maxLen) (hs : ∀ x ∈ ls, x.length ≤ maxLen) :
    Calls Tryz.prog 17 #[.slice ad n cap] w (KEnd ls w) := by
  have H := Lib.hid h
  have HN := Lib.hid hn
  have HS := Lib.hid hs
  unfold maxLen at hm
  clear h hn hs
  go_enter Tryz.func17, Tryz.ntmps17
  go_wp2_with fail
  go_loopw [2, 3, 4, 5, 6, 7, 8, 9, 10, 11, 12, 13, 14, 15, 16, 17, 18, 19, 20, 21, 22, 23, 24, 25, 26, 27, 28, 29, 30, 31] (fun _ vk _ _ _ _ _ _ _ _ _ _ _ _ _ _ _ _ _ _ _ _ _ _ _ _ _ _ _ _ wr => ∃ k, vk = .int .i64 (k : Nat) ∧ Lq ls w wr k) (fun _ vk _ _ _ _ _ _ _ _ _ _ _ _ _ _ _ _ _ _ _ _ _ _ _ _ _ _ _ _ _ => n - (intOf vk).toNat)
  case atStart => exact ⟨0, rfl, Nat.zero_le _, fun j hj => by omega, fun j hj => by omega, Below.refl _ _⟩
  case round =>
    obtain ⟨k, rfl, L⟩ := hrel
    have HL := Lib.hid L
    have hk : k ≤ n := by have := L.le; have := HN.out; omega
    clear L
    by_cases hlt : k < n
    · have hk' : k < ls.length := by have := HN.out; omega
      obtain ⟨x, hx⟩ : ∃ x, ls[k]? = some x := ⟨_, List.getElem?_eq_getElem hk'⟩
      rcases H.out with ⟨h0, _⟩ | ⟨g, off, cap', e, hg, hc⟩
      · rw [h0] at hx; simp at hx
      cases e
      have ci : wr.cell? ⟨g, off + k, none⟩ = some (str x) := by rw [← hc k x hx]; exact HL.out.bel.cell (p := ⟨g, off + k, none⟩) hg
      have hci := fun (d : Nat) (os : Array Obj) => cell_regrown (d := d) (os := os) ci
      have hxs : x.length ≤ maxLen := HS.out x (List.mem_of_getElem? hx)
      have HX := Lib.hid hx
      have HC := Lib.hid hc
      clear hx hc
      obtain ⟨b, hb⟩ : ∃ b, (term x).isSome = b := ⟨_, rfl⟩
      have a1 := fun w => srt.specTermRight_calls ⟨x.toArray⟩ (by show x.toArray.size ≤ maxLen; simpa using hxs) w
      rw [show (term (⟨x.toArray⟩ : ByteArray).data.toList).isSome = b from hb] at a1
      have HT := Lib.hid hb
      clear hb
      cases b with
      | false =>
        go_wp2_with fail
        refine wp_region_quiet_below (by kernel_rfl) (by kernel_rfl) ?_
        iterate 5 (quiet_step (exact Calls.regrown_of (a1 _)))
        iterate 17 (with_reducible refine wpQuiet_step (fun K hK => ?_); go_simp; (try rw [if_neg (by decide)]); with_reducible refine hK _ ?_; clear hK K)
        with_reducible refine wpQuiet_nil ?_
        rintro w2 ⟨⟨dq, osq⟩, hw2⟩
        have HB2 := Lib.hid (show Below wr.heap.size wr w2 by rw [hw2]; exact below_regrown _ _ _)
        clear hw2
        go_wp2_with fail
        go_ret
        exact ⟨HL.out.bel.trans (HB2.out.mono HL.out.bel.size), .inr ⟨fun Us hU => (by obtain ⟨T, hT⟩ := kn_term hU (List.mem_of_getElem? HX.out); have := HT.out; rw [hT] at this; cases this), rfl⟩⟩
      | true =>
        cases k with
        | zero =>
          simp only [Nat.add_zero] at hci ci
          go_wp2_with fail
          refine wp_region_quiet_below (by kernel_rfl) (by kernel_rfl) ?_
          iterate 5 (quiet_step (exact Calls.regrown_of (a1 _)))
          iterate 17 (with_reducible refine wpQuiet_step (fun K hK => ?_); go_simp; (try rw [if_neg (by decide)]); with_reducible refine hK _ ?_; clear hK K)
          with_reducible refine wpQuiet_nil ?_
          rintro w2 ⟨⟨dq, osq⟩, hw2⟩
          have HB2 := Lib.hid (show Below wr.heap.size wr w2 by rw [hw2]; exact below_regrown _ _ _)
          clear hw2
          go_wp2_with fail
          go_roundw
          case rel => exact ⟨0 + 1, by simp, HL.out.step HX.out HT.out (fun j y e _ => by omega) HB2.out⟩
          case measure => simp [intOf]; omega
        | succ m =>
          obtain ⟨y, hy⟩ : ∃ y, ls[m]? = some y := ⟨_, List.getElem?_eq_getElem (by omega)⟩
          have cy : wr.cell? ⟨g, off + m, none⟩ = some (str y) := by
            rw [← HC.out m y hy]
            exact HL.out.bel.cell (p := ⟨g, off + m, none⟩) hg
          have hcy := fun (d : Nat) (os : Array Obj) => cell_regrown (d := d) (os := os) cy
          have HY := Lib.hid hy
          have h0 : (0 : Int) ≤ (m : Int) + 1 := by omega
          have hwm : IntKind.i64.wrap (m : Int) = (m : Int) := by rw [IntKind.wrap_i64]; omega
          have h1m : m < ls.length := by omega
          clear hy
          by_cases hyx : y < x
          · have b1 : Op.bytesLess y x = true := by rw [bytesLess_eq]; simpa using hyx
            have HR := Lib.hid hyx
            clear hyx
            go_wp2_with fail
            refine wp_region_quiet_below (by kernel_rfl) (by kernel_rfl) ?_
            iterate 5 (quiet_step (exact Calls.regrown_of (a1 _)))
            iterate 17 (with_reducible refine wpQuiet_step (fun K hK => ?_); go_simp; (try rw [if_neg (by decide)]); with_reducible refine hK _ ?_; clear hK K)
            with_reducible refine wpQuiet_nil ?_
            rintro w2 ⟨⟨dq, osq⟩, hw2⟩
            have HB2 := Lib.hid (show Below wr.heap.size wr w2 by rw [hw2]; exact below_regrown _ _ _)
            clear hw2
            go_wp2_with fail
            go_roundw
            case rel => exact ⟨m + 1 + 1, by simp, HL.out.step HX.out HT.out (fun j z e hz => by cases e; rw [HY.out] at hz; cases hz; exact HR.out) HB2.out⟩
            case measure => simp [intOf]; omega
          · have b1 : Op.bytesLess y x = false := by rw [bytesLess_eq]; simpa using hyx
            have HR := Lib.hid hyx
            clear hyx
            go_wp2_with fail
            refine wp_region_quiet_below (by kernel_rfl) (by kernel_rfl) ?_
            iterate 5 (quiet_step (exact Calls.regrown_of (a1 _)))
            iterate 17 (with_reducible refine wpQuiet_step (fun K hK => ?_); go_simp; (try rw [if_neg (by decide)]); with_reducible refine hK _ ?_; clear hK K)
            with_reducible refine wpQuiet_nil ?_
            rintro w2 ⟨⟨dq, osq⟩, hw2⟩
            have HB2 := Lib.hid (show Below wr.heap.size wr w2 by rw [hw2]; exact below_regrown _ _ _)
            clear hw2
            go_wp2_with fail
            go_ret
            exact ⟨HL.out.bel.trans (HB2.out.mono HL.out.bel.size), .inr ⟨fun Us hU => HR.out (rise_at hU.rise HY.out HX.out), rfl⟩⟩
    · have e : k = n := by omega
      subst e
      have hr := HL.out.rise
      have ht := HL.out.right
      rw [HN.out] at hr ht
      have h1 : Rise ls := rise_of ls hr
      have h2 : ∀ x ∈ ls, ∃ T, term x = some T := fun x hx => by
        obtain ⟨j, hj, e⟩ := List.getElem_of_mem hx
        exact ht j hj x (by rw [← e]; exact List.getElem?_eq_getElem hj)
      by_cases h60 : ls.length ≤ 60
      · have h3 := Lib.hid (kn_of h60 h2 h1)
        have h4 : k ≤ 60 := by have := HN.out; omega
        clear h1 h2 hr ht
        go_wp2_with fail
        go_ret
        exact ⟨HL.out.bel, .inl ⟨h3.out, ret_bool (by simp; omega)⟩⟩
      · have h4 : ¬ k ≤ 60 := by have := HN.out; omega
        clear h1 h2 hr ht
        go_wp2_with fail
        go_ret
        exact ⟨HL.out.bel, .inr ⟨fun Us hU => h60 hU.few, ret_bool (by simp; omega)⟩⟩

#print axioms specKnownRight_calls
end Go.Proofs.YtdikjmhnjlalbabGreat.skr
