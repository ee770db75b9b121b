/- Contract of partsOf; KnownRight of the program. -/
import Derived.Test.YtdikjmhnjlalbabGreatPofq
namespace Go.Proofs.YtdikjmhnjlalbabGreat.pso
open Go.RowKit Go.Proofs.YtdikjmhnjlalbabGreat.tm Go.Proofs.YtdikjmhnjlalbabGreat.lib Go.Proofs.YtdikjmhnjlalbabGreat.rdr Go.Proofs.YtdikjmhnjlalbabGreat.bld Go.Proofs.YtdikjmhnjlalbabGreat.app Go.Proofs.YtdikjmhnjlalbabGreat.mrk Go.Proofs.YtdikjmhnjlalbabGreat.mrs Go.Proofs.YtdikjmhnjlalbabGreat.ato Go.Proofs.YtdikjmhnjlalbabGreat.prt
set_option linter.unusedVariables false

/-- Known terms, and what they tell. -/
structure Kn (ls : List Bs) (Ts : List Tm) : Prop where
  few : ls.length ≤ 60
  rise : Rise ls
  txs : ls = Ts.map Tm.tx
  right : ∀ T ∈ Ts, term T.tx = some T

/-- Parts of terms in a row of the call's own: C: the blocks of their args. -/
structure Pts (w : World) (B : Nat) (v : Value) (Ts : List Tm) (es : List El) : Prop where
  own : Els w B v es
  len : es.length = Ts.length
  prt : ∀ (j : Nat) (T : Tm) (e : El), Ts[j]? = some T → es[j]? = some e → Prt w (fun g => B ≤ g ∧ g < w.heap.size ∧ v.ownBlock ≠ some g) T e

theorem Pts.nil (w : World) (B : Nat) : Pts w B (.slice none 0 0) [] [] := ⟨Els.nil _ _, rfl, by intro j T e h; simp at h⟩

theorem Pts.below {w w' : World} {B : Nat} {v : Value} {Ts : List Tm} {es : List El} (h : Pts w B v Ts es) (k : Below w.heap.size w w') : Pts w' B v Ts es := by
  refine ⟨h.own.same fun g hg => k.block g (World.ownsRow.lt h.own g hg).2, h.len, fun j T e h1 h2 => (h.prt j T e h1 h2).same (fun g hg => ⟨k.block g hg.2.1, hg.1, Nat.lt_of_lt_of_le hg.2.1 k.size, hg.2.2⟩) T e⟩

theorem Pts.put {w w4 w5 : World} {B : Nat} {v v5 : Value} {Ts : List Tm} {es : List El} (h : Pts w B v Ts es) (hB : B ≤ w.heap.size) (h4 : Below w.heap.size w w4) {x : Tm} {ke : El}
    (hp : Prt w4 (fun g => w.heap.size ≤ g ∧ g < w4.heap.size) x ke) (t5 : Els w5 B v5 (es ++ [ke])) (a5 : mrs.Aside v w4 w5) (n5 : ∀ j, v5.ownBlock = some j → v.ownBlock = some j ∨ w4.heap.size < j) : Pts w5 B v5 (Ts ++ [x]) (es ++ [ke]) := by
  have hv := World.ownsRow.lt h.own
  have hs4 := h4.size
  have hs5 := a5.size
  refine ⟨t5, by simp [h.len], fun j U e hU he => ?_⟩
  rcases Nat.lt_or_ge j Ts.length with hj | hj
  · rw [List.getElem?_append_left (by rw [h.len]; exact hj)] at he
    rw [List.getElem?_append_left hj] at hU
    refine (h.prt j U e hU he).same (fun g hg => ?_) U e
    obtain ⟨g1, g2, g3⟩ := hg
    refine ⟨(a5.block g (by omega) g3).trans (h4.block g g2), g1, by omega, fun e => ?_⟩
    rcases n5 g e with h | h
    · exact g3 h
    · omega
  · have hj' : j = Ts.length := by
      have := (List.getElem?_eq_some_iff.1 he).1
      simp [h.len] at this
      omega
    subst hj'
    rw [List.getElem?_append_right (Nat.le_refl _), Nat.sub_self] at hU
    rw [List.getElem?_append_right (by rw [h.len]; exact Nat.le_refl _), h.len, Nat.sub_self] at he
    cases he
    cases hU
    refine hp.same (fun g hg => ?_) x ke
    obtain ⟨g1, g2⟩ := hg
    refine ⟨a5.block g g2 fun e => ?_, by omega, by omega, fun e => ?_⟩
    · have := (hv g e).2; omega
    · rcases n5 g e with h | h
      · have := (hv g h).2; omega
      · omega

def PEnd (ls : List Bs) (w : World) (e : Ending) (w' : World) : Prop :=
  Below w.heap.size w w' ∧ ((∃ Ts v es, Kn ls Ts ∧ e = .returned (.tuple #[v, .bool true]) ∧ Pts w' w.heap.size v Ts es) ∨ ((∀ Ts, ¬ Kn ls Ts) ∧ e = .returned (.tuple #[.slice none 0 0, .bool false])))

/-- What holds behind k rounds. -/
structure Lp (ls : List Bs) (w : World) (wr : World) (k : Nat) (v : Value) (Ts : List Tm) (es : List El) : Prop where
  le : k ≤ ls.length
  told : ls.take k = Ts.map Tm.tx
  right : ∀ T ∈ Ts, term T.tx = some T
  rise : ∀ j, j + 1 < k → ∀ x y, ls[j]? = some x → ls[j + 1]? = some y → x < y
  bel : Below w.heap.size w wr
  pts : Pts wr w.heap.size v Ts es

theorem rise_of : ∀ (ls : List Bs), (∀ j, j + 1 < ls.length → ∀ x y, ls[j]? = some x → ls[j + 1]? = some y → x < y) → Rise ls
  | [], _ => List.Pairwise.nil
  | [a], _ => by simp
  | a :: b :: l, h => by
    have ih := rise_of (b :: l) fun j hj x y hx hy => h (j + 1) (by simpa using hj) x y (by simpa using hx) (by simpa using hy)
    refine List.pairwise_cons.2 ⟨fun x hx => ?_, ih⟩
    have hab : a < b := h 0 (by simp) a b rfl rfl
    rcases List.mem_cons.1 hx with rfl | hx
    · exact hab
    · exact List.lt_trans hab ((List.pairwise_cons.1 ih).1 x hx)

theorem rise_at {ls : List Bs} (h : Rise ls) {j : Nat} {x y : Bs} (hx : ls[j]? = some x) (hy : ls[j + 1]? = some y) : x < y := by
  obtain ⟨h1, e1⟩ := List.getElem?_eq_some_iff.1 hx
  obtain ⟨h2, e2⟩ := List.getElem?_eq_some_iff.1 hy
  have := List.pairwise_iff_getElem.1 h j (j + 1) h1 h2 (by omega)
  rw [e1, e2] at this
  exact this

theorem kn_term {ls : List Bs} {Ts : List Tm} (h : Kn ls Ts) {x : Bs} (hx : x ∈ ls) : ∃ T, term x = some T := by
  rw [h.txs] at hx
  obtain ⟨T, hT, rfl⟩ := List.mem_map.1 hx
  exact ⟨T, h.right T hT⟩

theorem Lp.step {ls : List Bs} {w wr : World} {k : Nat} {v : Value} {Ts : List Tm} {es : List El} (L : Lp ls w wr k v Ts es) {x : Bs} {T : Tm} (hx : ls[k]? = some x) (hT : term x = some T)
    (hr : ∀ j y, k = j + 1 → ls[j]? = some y → y < x) {w4 w5 : World} (h4 : Below wr.heap.size wr w4) {ke : El} (hp : Prt w4 (fun g => wr.heap.size ≤ g ∧ g < w4.heap.size) T ke) {v5 : Value}
    (t5 : Els w5 w.heap.size v5 (es ++ [ke])) (a5 : mrs.Aside v w4 w5) (n5 : ∀ j, v5.ownBlock = some j → v.ownBlock = some j ∨ w4.heap.size < j) : Lp ls w w5 (k + 1) v5 (Ts ++ [T]) (es ++ [ke]) := by
  obtain ⟨hk, _⟩ := List.getElem?_eq_some_iff.1 hx
  have e := (term_some.1 hT).2.2.2
  refine ⟨hk, ?_, fun U hU => ?_, fun j hj a b ha hb => ?_, ?_, L.pts.put L.bel.size h4 hp t5 a5 n5⟩
  · rw [List.take_add_one, hx, L.told, List.map_append]
    simp [e]
  · rcases List.mem_append.1 hU with hU | hU
    · exact L.right U hU
    · simp only [List.mem_singleton] at hU
      subst hU
      rw [e]; exact hT
  · rcases Nat.lt_or_ge (j + 1) k with h | h
    · exact L.rise j h a b ha hb
    · have : k = j + 1 := by omega
      subst this
      rw [hx] at hb
      cases hb
      exact hr j a rfl ha
  · refine (L.bel.trans (h4.mono L.bel.size)).trans (a5.below (by have := h4.size; have := L.bel.size; omega) fun g hg => (World.ownsRow.lt L.pts.own g hg).1)

set_option maxHeartbeats 1000000 in
set_option maxRecDepth 100000 in
theorem partsOf_calls (ad : Option Addr) (n cap : Nat) (ls : List Bs) (w : World) (hn : n = ls.length) (h : Rds w (.slice ad n cap) ls) (hm : n ≤ maxLen) (hs : ∀ x ∈ ls, x.length ≤ maxLen) :
    Calls Tryz.prog 26 #[.slice ad n cap] w (PEnd ls w) := by
  have H := Lib.hid h
  have HN := Lib.hid hn
  have HS := Lib.hid hs
  unfold maxLen at hm
  clear h hn hs
  by_cases hbig : 60 < n
  · go_enter Tryz.func26, Tryz.ntmps26
    go_wp2_with fail
    go_ret2
    exact ⟨Below.refl _ _, .inr ⟨fun Ts hT => by have := hT.few; have := HN.out; omega, rfl⟩⟩
  go_enter Tryz.func26, Tryz.ntmps26
  go_wp2_with fail
  go_loopw [4, 5, 6, 7, 8, 14, 15, 16, 17, 18, 19, 20, 21, 22, 23, 24, 25, 26, 27, 28, 29, 30, 31, 32, 33, 34, 35, 36, 37, 38, 39, 40, 41, 42, 43, 44] (fun v _ _ _ _ vk _ _ _ _ _ _ _ _ _ _ _ _ _ _ _ _ _ _ _ _ _ _ _ _ _ _ _ _ _ _ wr => ∃ k Ts es, vk = .int .i64 (k : Nat) ∧ Lp ls w wr k v Ts es) (fun _ _ _ _ _ vk _ _ _ _ _ _ _ _ _ _ _ _ _ _ _ _ _ _ _ _ _ _ _ _ _ _ _ _ _ _ _ => n - (intOf vk).toNat)
  case atStart => exact ⟨0, [], [], rfl, Nat.zero_le _, rfl, fun U hU => by simp at hU, fun j hj => by omega, Below.refl _ _, Pts.nil _ _⟩
  case round =>
    obtain ⟨k, Ts, es, rfl, L⟩ := hrel
    have HL := Lib.hid L
    have hk : k ≤ n := by have := L.le; have := HN.out; omega
    have hes : es.length + 1 ≤ 1000000 := by
      have h1 := L.pts.len
      have h2 := congrArg List.length L.told
      rw [List.length_take, List.length_map] at h2
      omega
    clear L
    by_cases hlt : k < n
    · have hk' : k < ls.length := by have := HN.out; omega
      obtain ⟨x, hx⟩ : ∃ x, ls[k]? = some x := ⟨_, List.getElem?_eq_getElem hk'⟩
      rcases H.out with ⟨h0, _⟩ | ⟨g, off, cap', e, hg, hc⟩
      · rw [h0] at hx; simp at hx
      cases e
      have ci : wr.cell? ⟨g, off + k, none⟩ = some (str x) := by rw [← hc k x hx]; exact HL.out.bel.cell (p := ⟨g, off + k, none⟩) hg
      have hxs : x.length ≤ maxLen := HS.out x (List.mem_of_getElem? hx)
      have HX := Lib.hid hx
      have HC := Lib.hid hc
      clear hx hc
      rcases ht : term x with _ | T
      · have a1 := grd.termOf_no ⟨x.toArray⟩ (by show x.toArray.size ≤ maxLen; simpa using hxs) ht
        have HT := Lib.hid ht
        clear ht
        go_wp2_with fail
        refine (a1 _).mono ?_
        rintro e w1 ⟨rfl, hb⟩
        have HB := Lib.hid hb
        clear hb
        go_wp2_with fail
        go_ret2
        exact ⟨HL.out.bel.trans (HB.out.mono HL.out.bel.size), .inr ⟨fun Us hU => (by obtain ⟨T, hT⟩ := kn_term hU (List.mem_of_getElem? HX.out); rw [HT.out] at hT; cases hT), rfl⟩⟩
      · have a1 := grd.termOf_yes ⟨x.toArray⟩ (by show x.toArray.size ≤ maxLen; simpa using hxs) T ht
        have px := pof.partOf_calls T (by have := (term_some.1 ht).1; have e := (term_some.1 ht).2.2.2; rw [e]; omega)
        have HT := Lib.hid ht
        clear ht
        go_wp2_with fail
        refine (a1 _).mono ?_
        rintro e w1 ⟨rfl, hb⟩
        have HB := Lib.hid hb
        have cx : w1.cell? ⟨g, off + k, none⟩ = some (str x) := by rw [← ci]; exact hb.cell (p := ⟨g, off + k, none⟩) (Nat.lt_of_lt_of_le hg HL.out.bel.size)
        clear hb ci
        obtain ⟨tt, vv, ev⟩ := val_iface T
        rw [ev] at px ⊢
        clear ev
        cases k with
        | zero =>
          clear cx
          go_wp2_with fail
          refine (px _).mono ?_
          rintro e w4 ⟨⟨kt, ko, kad, kn, kc⟩, rfl, hb4, hp⟩
          simp only [El.v]
          have H4 := Lib.hid ((show Below wr.heap.size wr w4 from HB.out.trans (hb4.mono HB.out.size)))
          have HP := Lib.hid (hp.same (C' := fun g => wr.heap.size ≤ g ∧ g < w4.heap.size) (fun g hg => ⟨rfl, Nat.le_trans HB.out.size hg.1, hg.2⟩) _ _)
          have O4 := Lib.hid (HL.out.pts.own.same fun g hg => H4.out.block g (World.ownsRow.lt HL.out.pts.own g hg).2)
          have hz4 : w.heap.size ≤ w4.heap.size := Nat.le_trans HL.out.bel.size H4.out.size
          clear hb4 hp
          go_wp2_with (at_builtin; refine wp_putE (.tmp 39) (.tmp 42) ⟨kt, ko, kad, kn, kc⟩ w.heap.size _ es rfl rfl rfl O4.out rfl hes hz4 ?_; intro v5 w5 t5 a5 n5)
          have ST := Lib.hid (HL.out.step HX.out HT.out (fun j y e _ => by omega) H4.out HP.out t5 a5 n5)
          clear t5 a5 n5
          go_wp2_with fail
          go_roundw
          case rel => exact ⟨0 + 1, _, _, by simp, ST.out⟩
          case measure => simp [intOf]; omega
        | succ m =>
          obtain ⟨y, hy⟩ : ∃ y, ls[m]? = some y := ⟨_, List.getElem?_eq_getElem (by omega)⟩
          have cy : w1.cell? ⟨g, off + m, none⟩ = some (str y) := by
            rw [← HC.out m y hy]
            exact (HL.out.bel.trans (HB.out.mono HL.out.bel.size)).cell (p := ⟨g, off + m, none⟩) hg
          have HY := Lib.hid hy
          clear cx hy
          by_cases hyx : y < x
          · have b1 : Op.bytesLess y x = true := by rw [bytesLess_eq]; simpa using hyx
            have HR := Lib.hid hyx
            clear hyx
            go_wp2_with fail
            refine (px _).mono ?_
            rintro e w4 ⟨⟨kt, ko, kad, kn, kc⟩, rfl, hb4, hp⟩
            simp only [El.v]
            have H4 := Lib.hid ((show Below wr.heap.size wr w4 from HB.out.trans (hb4.mono HB.out.size)))
            have HP := Lib.hid (hp.same (C' := fun g => wr.heap.size ≤ g ∧ g < w4.heap.size) (fun g hg => ⟨rfl, Nat.le_trans HB.out.size hg.1, hg.2⟩) _ _)
            have O4 := Lib.hid (HL.out.pts.own.same fun g hg => H4.out.block g (World.ownsRow.lt HL.out.pts.own g hg).2)
            have hz4 : w.heap.size ≤ w4.heap.size := Nat.le_trans HL.out.bel.size H4.out.size
            clear hb4 hp
            go_wp2_with (at_builtin; refine wp_putE (.tmp 39) (.tmp 42) ⟨kt, ko, kad, kn, kc⟩ w.heap.size _ es rfl rfl rfl O4.out rfl hes hz4 ?_; intro v5 w5 t5 a5 n5)
            have ST := Lib.hid (HL.out.step HX.out HT.out (fun j z e hz => by cases e; rw [HY.out] at hz; cases hz; exact HR.out) H4.out HP.out t5 a5 n5)
            clear t5 a5 n5
            go_wp2_with fail
            go_roundw
            case rel => exact ⟨m + 1 + 1, _, _, by simp, ST.out⟩
            case measure => simp [intOf]; omega
          · have b1 : Op.bytesLess y x = false := by rw [bytesLess_eq]; simpa using hyx
            have HR := Lib.hid hyx
            clear hyx px
            go_wp2_with fail
            go_ret2
            exact ⟨HL.out.bel.trans (HB.out.mono HL.out.bel.size), .inr ⟨fun Us hU => HR.out (rise_at hU.rise HY.out HX.out), rfl⟩⟩
    · have e : k = n := by omega
      subst e
      go_wp2_with fail
      go_ret2
      have ht := HL.out.told
      have hr := HL.out.rise
      rw [HN.out] at ht hr
      rw [List.take_of_length_le (Nat.le_refl _)] at ht
      exact ⟨HL.out.bel, .inl ⟨Ts, _, es, ⟨by have := HN.out; omega, rise_of ls hr, ht, HL.out.right⟩, rfl, HL.out.pts⟩⟩

theorem knownRight_calls (ad : Option Addr) (n cap : Nat) (ls : List Bs) (w : World) (hn : n = ls.length) (h : Rds w (.slice ad n cap) ls) (hm : n ≤ maxLen) (hs : ∀ x ∈ ls, x.length ≤ maxLen) :
    Calls Tryz.prog 16 #[.slice ad n cap] w fun e w' => Below w.heap.size w w' ∧ (((∃ Ts, Kn ls Ts) ∧ e = .returned (.bool true)) ∨ ((∀ Ts, ¬ Kn ls Ts) ∧ e = .returned (.bool false))) := by
  have h1 := partsOf_calls ad n cap ls w hn h hm hs
  clear h hm hs hn
  go_enter Tryz.func16, Tryz.ntmps16
  go_wp2_with fail
  refine h1.mono ?_
  rintro e w1 ⟨hb, h⟩
  rcases h with ⟨Ts, v, es, h1, rfl, h2⟩ | ⟨h1, rfl⟩
  · have H1 := Lib.hid h1
    have HB := Lib.hid hb
    clear h1 hb h2
    go_wp2_with fail
    go_ret
    exact ⟨HB.out, .inl ⟨⟨Ts, H1.out⟩, rfl⟩⟩
  · have H1 := Lib.hid h1
    have HB := Lib.hid hb
    clear h1 hb
    go_wp2_with fail
    go_ret
    exact ⟨HB.out, .inr ⟨H1.out, rfl⟩⟩

#print axioms knownRight_calls
end Go.Proofs.YtdikjmhnjlalbabGreat.pso
