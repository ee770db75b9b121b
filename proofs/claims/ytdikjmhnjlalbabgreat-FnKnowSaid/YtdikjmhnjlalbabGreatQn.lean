/- Several small texts, one behind the other. -/
import Derived.Test.YtdikjmhnjlalbabGreatPofq
import Derived.Test.YtdikjmhnjlalbabGreatQj
import Derived.Lib.QuietBelow
import Derived.Test.YtdikjmhnjlalbabGreatSdpq
import Derived.Test.YtdikjmhnjlalbabGreatQd
import Derived.BigRegion
import Derived.RegionTactic

/- Contracts of builds and shares: a part, asked of a set of texts. -/
namespace Go.Proofs.YtdikjmhnjlalbabGreat.bds
open Go.RowKit Go.Proofs.YtdikjmhnjlalbabGreat.tm Go.Proofs.YtdikjmhnjlalbabGreat.lib Go.Proofs.YtdikjmhnjlalbabGreat.rdr Go.Proofs.YtdikjmhnjlalbabGreat.bld Go.Proofs.YtdikjmhnjlalbabGreat.app Go.Proofs.YtdikjmhnjlalbabGreat.kmp Go.Proofs.YtdikjmhnjlalbabGreat.kst Go.Proofs.YtdikjmhnjlalbabGreat.prt
set_option linter.unusedVariables false

theorem Prt.kids {w : World} {C : Nat → Prop} {T : Tm} (hn : T.isAtom = false) {k : El} (h : Prt w C T k) :
    k.n = T.kids.length ∧ ∃ g, k.ad = some ⟨g, 0, none⟩ ∧ C g ∧ ∀ j U, T.kids[j]? = some U → ∃ kj, Lies w g (j * 3) kj ∧ Prt w C U kj := by
  rcases pof.kids_cases T with ⟨_, a, rfl⟩ | ⟨x, hk⟩ | ⟨x, y, hk⟩
  · cases hn
  · obtain ⟨h1, g, h2, h3, k0, h4, h5⟩ := h.kid1 hk
    refine ⟨by rw [hk]; exact h1, g, h2, h3, fun j U hj => ?_⟩
    rw [hk] at hj
    match j, hj with
    | 0, hj => cases hj; exact ⟨k0, h4, h5⟩
    | j + 1, hj => simp at hj
  · obtain ⟨h1, g, h2, h3, k0, k1, h4, h5, h6, h7⟩ := h.kid2 hk
    refine ⟨by rw [hk]; exact h1, g, h2, h3, fun j U hj => ?_⟩
    rw [hk] at hj
    match j, hj with
    | 0, hj => cases hj; exact ⟨k0, h4, h6⟩
    | 1, hj => cases hj; exact ⟨k1, h5, h7⟩
    | j + 2, hj => simp at hj

def BD (T : Tm) : Prop := ∀ (w : World) (b : Nat) (L : List Bs) (C : Nat → Prop) (k : El), Kset w b L → Prt w C T k → (∀ g, C g → g < w.heap.size) →
  Calls Tryz.prog 29 #[.map (some b), k.v] w fun e w' => e = .returned (.bool (kmp.bld (inn L) T)) ∧ Below w.heap.size w w'

theorem new1 (w : World) (o : Obj) : Below w.heap.size w (w.alloc o) := (Below.refl _ _).alloc (Nat.le_refl _) _

set_option maxHeartbeats 1000000 in
set_option maxRecDepth 100000 in
theorem bd_here (T : Tm) (hl : T.tx.length ≤ 1000000) (w : World) (b : Nat) (L : List Bs) (C : Nat → Prop) (k : El) (hs : Kset w b L) (hp : Prt w C T k) (h : inn L T.tx = true) :
    Calls Tryz.prog 29 #[.map (some b), k.v] w fun e w' => e = .returned (.bool true) ∧ Below w.heap.size w w' := by
  obtain ⟨t, o, ad, n, c⟩ := k
  obtain ⟨e1, e2⟩ := hp.text
  simp only at e1 e2
  subst e1 e2
  simp only [El.v]
  obtain ⟨X, hX⟩ : ∃ X, X = T.tx := ⟨_, rfl⟩
  rw [← hX] at hl h ⊢
  have HS := Lib.hid hs
  have hxl : X.length ≤ maxLen := by unfold maxLen; omega
  clear hs hp hX
  go_enter Tryz.func29, Tryz.ntmps29
  go_wp2_with (at_lookup; refine wp_look (.tmp 8) (.tmp 10) b L X rfl rfl rfl rfl (HS.out.below (new1 _ _) HS.out.lt) hxl ?_; rw [h])
  go_ret
  exact ⟨rfl, new1 _ _⟩

set_option maxHeartbeats 1000000 in
set_option maxRecDepth 100000 in
theorem bd_atom (a : Bs) (ha : a.length ≤ 1000000) : BD (.atom a) := by
  intro w b L C k hs hp hC
  cases h : inn L a with
  | true =>
    have := bd_here (.atom a) ha w b L C k hs hp h
    rw [show kmp.bld (inn L) (.atom a) = true from h]
    exact this
  | false =>
    rw [show kmp.bld (inn L) (.atom a) = false from h]
    have e : k = ⟨a, [], none, 0, 0⟩ := hp
    subst e
    simp only [El.v]
    have HS := Lib.hid hs
    have hxl : a.length ≤ maxLen := by unfold maxLen; omega
    clear hs hp
    go_enter Tryz.func29, Tryz.ntmps29
    go_wp2_with (at_lookup; refine wp_look (.tmp 8) (.tmp 10) b L a rfl rfl rfl rfl (HS.out.below (new1 _ _) HS.out.lt) hxl ?_; rw [h])
    go_ret
    exact ⟨rfl, new1 _ _⟩

/-- Behind k kids. -/
structure Bk (L : List Bs) (T : Tm) (w : World) (wr : World) (k : Nat) : Prop where
  le : k ≤ T.kids.length
  all : ∀ j U, j < k → T.kids[j]? = some U → kmp.bld (inn L) U = true
  bel : Below w.heap.size w wr

set_option maxHeartbeats 1000000 in
set_option maxRecDepth 100000 in
theorem bd_node (T : Tm) (hn : T.isAtom = false) (hd : T.op ≠ oDh) (hl : T.tx.length ≤ 1000000) (ih : ∀ k ∈ T.kids, BD k) : BD T := by
  intro w b L C k hs hp hC
  cases h : inn L T.tx with
  | true =>
    have := bd_here T hl w b L C k hs hp h
    rw [bld_here h]
    exact this
  | false =>
    obtain ⟨hkn, g, hka, hCg, hkids⟩ := Prt.kids hn hp
    have hkl : T.kids.length ≤ 2 := by cases T <;> simp [Tm.kids]
    rw [bld_node _ T hn hd, h, Bool.false_or]
    obtain ⟨t, o, ad, n, c⟩ := k
    obtain ⟨e1, e2⟩ := hp.text
    simp only at e1 e2 hkn hka
    subst e1 e2 hka
    simp only [El.v]
    obtain ⟨X, hX⟩ : ∃ X, X = T.tx := ⟨_, rfl⟩
    rw [← hX] at hl h ⊢
    have hop : T.op ≠ [] := by cases T <;> simp [Tm.op, oPair, oHash, oMac, oShut, oPub, oDh, Tm.isAtom] at hn ⊢
    obtain ⟨O, hO⟩ : ∃ O, O = T.op := ⟨_, rfl⟩
    rw [← hO] at hd hop ⊢
    have d1 : O.isEmpty = false := by cases O with | nil => exact absurd rfl hop | cons c r => rfl
    have d2 : (O == []) = false := by rw [beq_eq_false_iff_ne]; exact hop
    have d3 : (O == [100, 104]) = false := by rw [beq_eq_false_iff_ne]; exact hd
    obtain ⟨R, hR⟩ : ∃ R, R = T.kids.all (kmp.bld (inn L)) := ⟨_, rfl⟩
    rw [← hR]
    have HR := Lib.hid hR
    have HS := Lib.hid hs
    have IH := Lib.hid ih
    have HK := Lib.hid hkids
    have HN := Lib.hid hkn
    have HC := Lib.hid hC
    have hg := hC g hCg
    rw [← hkn] at hkl
    have hxl : X.length ≤ maxLen := by unfold maxLen; omega
    clear hs hp hX hO hR ih hkids hkn hC hCg hd hop hn
    go_enter Tryz.func29, Tryz.ntmps29
    go_wp2_with (at_lookup; refine wp_look (.tmp 8) (.tmp 10) b L X rfl rfl rfl rfl (HS.out.below (new1 _ _) HS.out.lt) hxl ?_; rw [h])
    go_loopw [6, 45, 46, 47, 48, 49, 50, 51, 52, 53] (fun _ vk _ _ _ _ _ _ _ _ wr => ∃ k, vk = .int .i64 (k : Nat) ∧ Bk L T w wr k) (fun _ vk _ _ _ _ _ _ _ _ _ => n - (intOf vk).toNat)
    case atStart => exact ⟨0, rfl, Nat.zero_le _, fun j U hj => by omega, new1 _ _⟩
    case round =>
      obtain ⟨k, rfl, K⟩ := hrel
      have KK := Lib.hid K
      have hk : k ≤ n := by have := K.le; have := HN.out; omega
      clear K
      by_cases hlt : k < n
      · obtain ⟨U, hU⟩ : ∃ U, T.kids[k]? = some U := ⟨_, List.getElem?_eq_getElem (by have := HN.out; omega)⟩
        obtain ⟨⟨kt, ko, kad, kn, kc⟩, ⟨c0, c1, c2⟩, hpk⟩ := HK.out k U hU
        simp only at c0 c1 c2
        have hgb := KK.out.bel
        have m0 : wr.cell? ⟨g, k * 3, none⟩ = some (str kt) := by rw [← c0]; exact hgb.cell (p := ⟨g, k * 3, none⟩) hg
        have m1 : wr.cell? ⟨g, k * 3 + 1, none⟩ = some (str ko) := by rw [← c1]; exact hgb.cell (p := ⟨g, k * 3 + 1, none⟩) hg
        have m2 : wr.cell? ⟨g, k * 3 + 2, none⟩ = some (.slice kad kn kc) := by rw [← c2]; exact hgb.cell (p := ⟨g, k * 3 + 2, none⟩) hg
        clear hgb c0 c1 c2
        go_wp2_with fail
        have hA : Below w.heap.size w (wr.alloc (.cells #[str kt, str ko, .slice kad kn kc] 53)) := KK.out.bel.alloc KK.out.bel.size _
        refine (IH.out U (List.mem_of_getElem? hU) _ b L C ⟨kt, ko, kad, kn, kc⟩ (HS.out.below hA HS.out.lt) (hpk.same (fun g hg => ⟨hA.block g (HC.out g hg), hg⟩) _ _) (fun g hg => Nat.lt_of_lt_of_le (HC.out g hg) hA.size)).mono ?_
        rintro e w2 ⟨rfl, hb2⟩
        have HB2 := Lib.hid (hA.trans (hb2.mono hA.size))
        have HU := Lib.hid hU
        clear hA hb2 hpk hU m0 m1 m2
        cases hv : kmp.bld (inn L) U with
        | false =>
          have HV := Lib.hid hv
          clear hv
          go_wp2_with fail
          go_ret
          refine ⟨?_, HB2.out⟩
          have : R = false := by
            rw [HR.out, List.all_eq_false]
            exact ⟨U, List.mem_of_getElem? HU.out, by rw [HV.out]; simp⟩
          rw [this]
          rfl
        | true =>
          have HV := Lib.hid hv
          clear hv
          go_wp2_with fail
          go_roundw
          case rel =>
            refine ⟨k + 1, by simp, by have := HN.out; omega, fun j V hj hV => ?_, HB2.out⟩
            rcases Nat.lt_or_ge j k with h | h
            · exact KK.out.all j V h hV
            · have : j = k := by omega
              subst this
              rw [HU.out] at hV
              cases hV
              exact HV.out
          case measure => simp [intOf]; omega
      · have e : k = n := by omega
        subst e
        go_wp2_with fail
        go_ret
        refine ⟨?_, KK.out.bel⟩
        have : R = true := by
          rw [HR.out, List.all_eq_true]
          intro U hU
          obtain ⟨j, hj, e⟩ := List.getElem_of_mem hU
          exact KK.out.all j U (by have := HN.out; omega) (by rw [← e]; exact List.getElem?_eq_getElem hj)
        rw [this]
        rfl

theorem bd_pub (a : Bs) (ha : a.length ≤ 100000) : BD (.pub a) :=
  bd_node (.pub a) rfl (by simp [Tm.op, oPub, oDh]) (by simp [Tm.tx, say, oPub]; omega) fun k hk => by
    simp only [Tm.kids, List.mem_singleton] at hk
    subst hk
    exact bd_atom a (by omega)

def atomEl (a : Bs) : El := ⟨a, [], none, 0, 0⟩

set_option maxHeartbeats 1000000 in
set_option maxRecDepth 100000 in
theorem shares_calls (x y : Bs) (hx : x.length ≤ 100000) (hy : y.length ≤ 100000) (w : World) (b : Nat) (L : List Bs) (hs : Kset w b L) :
    Calls Tryz.prog 43 #[.map (some b), (atomEl x).v, (atomEl y).v] w fun e w' => e = .returned (.bool (inn L x && kmp.bld (inn L) (.pub y))) ∧ Below w.heap.size w w' := by
  have h1 := fun (w : World) (h : Kset w b L) => bd_atom x (by omega) w b L (fun _ => False) (atomEl x) h rfl (fun g h => h.elim)
  have h2 := pof.partOf_calls (.pub y) (by simp [Tm.tx, say, oPub]; omega)
  have h3 := bd_pub y hy
  have HS := Lib.hid hs
  have H1 := Lib.hid h1
  have H3 := Lib.hid h3
  unfold val at h2
  simp only [atomEl, El.v] at H1 ⊢
  clear hs h1 h3
  go_enter Tryz.func43, Tryz.ntmps43
  go_wp2_with fail
  have hA : Below w.heap.size w ((w.alloc (.cells #[str x, str [], .slice none 0 0] 53)).alloc (.cells #[str y, str [], .slice none 0 0] 53)) := (new1 w _).alloc (by simp) _
  refine (H1.out _ (HS.out.below hA HS.out.lt)).mono ?_
  rintro e w1 ⟨rfl, hb1⟩
  have HB1 := Lib.hid (hA.trans (hb1.mono hA.size))
  have cy : w1.cell? ⟨w.heap.size + 1, 0, none⟩ = some (str y) := by
    rw [hb1.cell (p := ⟨w.heap.size + 1, 0, none⟩) (by simp)]
    simp [go_sem]
  clear hA hb1
  cases hv : kmp.bld (inn L) (.atom x) with
  | false =>
    have E1 := Lib.hid (show inn L x = false from hv)
    clear hv
    go_wp2_with fail
    go_ret
    refine ⟨?_, HB1.out⟩
    rw [E1.out]
    rfl
  | true =>
    have E1 := Lib.hid (show inn L x = true from hv)
    clear hv
    go_wp2_with fail
    refine (h2 _).mono ?_
    rintro e w2 ⟨⟨kt, ko, kad, kn, kc⟩, rfl, hb2, hp⟩
    have HP := Lib.hid hp
    have HB2 := Lib.hid (HB1.out.trans (hb2.mono HB1.out.size))
    simp only [El.v]
    clear hb2 hp
    go_wp2_with fail
    refine (H3.out w2 b L _ ⟨kt, ko, kad, kn, kc⟩ (HS.out.below HB2.out HS.out.lt) HP.out (fun g hg => hg.2)).mono ?_
    rintro e w3 ⟨rfl, hb3⟩
    have HB3 := Lib.hid (HB2.out.trans (hb3.mono HB2.out.size))
    clear hb3
    go_wp2_with fail
    go_ret
    refine ⟨?_, HB3.out⟩
    rw [E1.out]
    rfl

set_option maxHeartbeats 2000000 in
set_option maxRecDepth 100000 in
theorem bd_dh (x y : Bs) (hx : x.length ≤ 100000) (hy : y.length ≤ 100000) : BD (.dh x y) := by
  intro w b L C k hs hp hC
  cases h : inn L (Tm.tx (.dh x y)) with
  | true =>
    have := bd_here (.dh x y) (by simp [Tm.tx, say, oDh]; omega) w b L C k hs hp h
    rw [bld_here h]
    exact this
  | false =>
    obtain ⟨e1, e2, e3, g, e4, hCg, l0, l1⟩ := hp
    obtain ⟨t, o, ad, n, c⟩ := k
    simp only at e1 e2 e3 e4
    subst e1 e2 e3 e4
    have hbl : kmp.bld (inn L) (.dh x y) = ((inn L x && kmp.bld (inn L) (.pub y)) || (inn L y && kmp.bld (inn L) (.pub x))) := by
      simp only [kmp.bld, h, Bool.false_or]
    obtain ⟨r0, hr0⟩ : ∃ r, r = (inn L x && kmp.bld (inn L) (.pub y)) := ⟨_, rfl⟩
    obtain ⟨r1, hr1⟩ : ∃ r, r = (inn L y && kmp.bld (inn L) (.pub x)) := ⟨_, rfl⟩
    have s0 := fun (w : World) (h : Kset w b L) => shares_calls x y hx hy w b L h
    have s1 := fun (w : World) (h : Kset w b L) => shares_calls y x hy hx w b L h
    rw [← hr0, ← hr1] at hbl
    rw [← hr0] at s0
    rw [← hr1] at s1
    rw [hbl]
    have hg := hC g hCg
    obtain ⟨X, hX⟩ : ∃ X, X = Tm.tx (.dh x y) := ⟨_, rfl⟩
    have hxl : X.length ≤ maxLen := by rw [hX]; simp [Tm.tx, say, oDh]; unfold maxLen; omega
    rw [← hX] at h ⊢
    have HS := Lib.hid hs
    have S0 := Lib.hid s0
    have S1 := Lib.hid s1
    obtain ⟨c0, c1, c2⟩ := l0
    obtain ⟨c3, c4, c5⟩ := l1
    simp only [El.v] at c0 c1 c2 c3 c4 c5 ⊢
    simp only [atomEl, El.v] at S0 S1
    clear hs hr0 hr1 s0 s1 hX hC hCg hbl
    unfold oDh
    go_enter Tryz.func29, Tryz.ntmps29
    go_wp2_with (at_lookup; refine wp_look (.tmp 8) (.tmp 10) b L X rfl rfl rfl rfl (HS.out.below (new1 _ _) HS.out.lt) hxl ?_; rw [h])
    obtain ⟨W1, hW1⟩ : ∃ W, W = w.alloc (.cells #[str X, str [100, 104], .slice (some ⟨g, 0, none⟩) 2 c] 53) := ⟨_, rfl⟩
    have hz1 : w.heap.size ≤ W1.heap.size := by rw [hW1]; simp
    have q : ∀ o, o < 6 → ∀ v, w.cell? ⟨g, o, none⟩ = some v → ∀ d os, (Go.Sort.grow (redrawn W1 d) os).cell? ⟨g, o, none⟩ = some v := fun o _ v hv d os => by
      refine cell_regrown ?_ d os
      rw [hW1, (new1 w _).cell (p := ⟨g, o, none⟩) hg]
      exact hv
    have q0 := q 0 (by omega) _ c0
    have q1 := q 1 (by omega) _ c1
    have q2 := q 2 (by omega) _ c2
    have q3 := q 3 (by omega) _ c3
    have q4 := q 4 (by omega) _ c4
    have q5 := q 5 (by omega) _ c5
    have q6 : ∀ d os, (Go.Sort.grow (redrawn W1 d) os).cell? ⟨w.heap.size, 2, none⟩ = some (.slice (some ⟨g, 0, none⟩) 2 c) := fun d os => by
      refine cell_regrown ?_ d os
      rw [hW1]
      simp [go_sem]
    have HKS := Lib.hid (show ∀ d os, Kset (Go.Sort.grow (redrawn W1 d) os) b L from fun d os => by
      have h1 : Kset W1 b L := by rw [hW1]; exact HS.out.below (new1 w _) HS.out.lt
      exact h1.below (below_regrown _ d os) h1.lt)
    have HB0 := Lib.hid (show Below w.heap.size w W1 by rw [hW1]; exact new1 w _)
    rw [← hW1]
    clear q c0 c1 c2 c3 c4 c5 hW1
    cases r0 with
    | true =>
      refine wp_region_quiet_below (by kernel_rfl) (by kernel_rfl) ?_
      iterate 10 (with_reducible refine wpQuiet_step (fun K hK => ?_); go_simp; first | (rw [if_neg (by decide)]; with_reducible refine hK _ ?_; clear hK K) | (with_reducible refine hK _ ?_; clear hK K) | (apply Exists.intro; with_reducible refine ⟨fun _ => ?_, hK _ ?_⟩; exact Calls.regrown_of (S0.out _ (HKS.out _ _)); clear hK K))
      iterate 13 (with_reducible refine wpQuiet_step (fun K hK => ?_); go_simp; first | (rw [if_neg (by decide)]; with_reducible refine hK _ ?_; clear hK K) | (with_reducible refine hK _ ?_; clear hK K) | (apply Exists.intro; with_reducible refine ⟨fun _ => ?_, hK _ ?_⟩; exact Calls.regrown_of (S1.out _ (HKS.out _ _)); clear hK K))
      with_reducible refine wpQuiet_nil ?_
      rintro w2 ⟨⟨dq, osq⟩, hw2⟩
      have HB2 := Lib.hid (HB0.out.trans ((show Below W1.heap.size W1 w2 by rw [hw2]; exact below_regrown _ _ _).mono hz1))
      clear hw2
      go_wp2_with fail
      go_ret
      exact ⟨rfl, HB2.out⟩
    | false =>
      refine wp_region_quiet_below (by kernel_rfl) (by kernel_rfl) ?_
      iterate 10 (with_reducible refine wpQuiet_step (fun K hK => ?_); go_simp; first | (rw [if_neg (by decide)]; with_reducible refine hK _ ?_; clear hK K) | (with_reducible refine hK _ ?_; clear hK K) | (apply Exists.intro; with_reducible refine ⟨fun _ => ?_, hK _ ?_⟩; exact Calls.regrown_of (S0.out _ (HKS.out _ _)); clear hK K))
      iterate 13 (with_reducible refine wpQuiet_step (fun K hK => ?_); go_simp; first | (rw [if_neg (by decide)]; with_reducible refine hK _ ?_; clear hK K) | (with_reducible refine hK _ ?_; clear hK K) | (apply Exists.intro; with_reducible refine ⟨fun _ => ?_, hK _ ?_⟩; exact Calls.regrown_of (S1.out _ (HKS.out _ _)); clear hK K))
      with_reducible refine wpQuiet_nil ?_
      rintro w2 ⟨⟨dq, osq⟩, hw2⟩
      have HB2 := Lib.hid (HB0.out.trans ((show Below W1.heap.size W1 w2 by rw [hw2]; exact below_regrown _ _ _).mono hz1))
      clear hw2
      go_wp2_with fail
      go_ret
      exact ⟨rfl, HB2.out⟩

theorem bd_all : ∀ n (T : Tm), T.deep ≤ n → T.ok → T.tx.length ≤ 1000000 → BD T
  | 0, T, h, _, _ => by have := deep_pos T; omega
  | n + 1, T, h, hok, hl => by
    cases hT : T.isAtom with
    | true =>
      cases T with
      | atom a => exact bd_atom a hl
      | _ => cases hT
    | false =>
      by_cases hd : T.op = oDh
      · cases T with
        | dh a b =>
          have h1 := (atomR_len hok.1).2
          have h2 := (atomR_len hok.2.1).2
          exact bd_dh a b (by omega) (by omega)
        | _ => simp [Tm.op, oDh, oShut, oPair, oHash, oMac, oPub] at hd
      · exact bd_node T hT hd hl fun k hk => bd_all n k (by have := kid_deep hk; omega) (kid_ok hok hk) (Nat.le_trans (kid_tx hk) hl)

theorem builds_calls (T : Tm) (hok : T.ok) (hl : T.tx.length ≤ 1000000) : BD T := bd_all T.deep T (Nat.le_refl _) hok hl

#print axioms builds_calls
end Go.Proofs.YtdikjmhnjlalbabGreat.bds

/- Contracts of the model's l02Deep at every depth, TermRight, DeepOf. -/
namespace Go.Proofs.YtdikjmhnjlalbabGreat.srt
open Go.RowKit Go.Proofs.YtdikjmhnjlalbabGreat.tm Go.Proofs.YtdikjmhnjlalbabGreat.lib Go.Proofs.YtdikjmhnjlalbabGreat.rdr Go.Proofs.YtdikjmhnjlalbabGreat.bld Go.Proofs.YtdikjmhnjlalbabGreat.app Go.Proofs.YtdikjmhnjlalbabGreat.spm Go.Proofs.YtdikjmhnjlalbabGreat.sar Go.Proofs.YtdikjmhnjlalbabGreat.sdp
set_option linter.unusedVariables false

theorem sd_all : ∀ n, 1 ≤ n → n ≤ 24 → SD n
  | 0, h, _ => by omega
  | 1, h, _ => fun t ht w => sd_plain 1 h (by omega) t ht (.inr (.inr rfl)) w
  | n + 2, h, h2 => by
    intro t ht w
    have ih := sd_all (n + 1) (by omega) (by omega)
    by_cases ha : atomR t.data.toList = true
    · exact sd_plain (n + 2) h h2 t ht (.inl ha) w
    have ha' : atomR t.data.toList = false := by simpa using ha
    cases hg : args t.data.toList with
    | none => exact sd_plain (n + 2) h h2 t ht (.inr (.inl hg)) w
    | some a =>
      obtain ⟨op, ks, rfl, _⟩ := args_say hg
      by_cases hm : many op = 0 ∨ ks.length ≠ many op
      · exact sd_shape (n + 1) (by omega) (by omega) t ht ha' op ks hg hm w
      · have hm1 : many op ≠ 0 := fun e => hm (.inl e)
        have hm2 : ks.length = many op := Decidable.not_not.1 fun e => hm (.inr e)
        rcases many_cases op with h0 | ⟨h1, hop⟩ | ⟨h1, hop⟩
        · exact absurd h0 hm1
        · rw [h1] at hm2
          match ks, hm2 with
          | [x], _ =>
            rcases hop with rfl | rfl
            · refine sd_one (n + 1) (by omega) (by omega) ih t ht ha' oHash x hg rfl false rfl _ ?_ rfl w
              by_cases hx : dz (n + 1) x = 0
              · exact .inl ⟨hx, dz_mk_none ha' hg (mk_zero (x := x) (by simp) hx)⟩
              · exact .inr (.inr ⟨hx, (by intro e; cases e), dz_mk_some ha' hg (mk_hash hx)⟩)
            · refine sd_one (n + 1) (by omega) (by omega) ih t ht ha' oPub x hg rfl true rfl _ ?_ rfl w
              by_cases hx : dz (n + 1) x = 0
              · exact .inl ⟨hx, dz_mk_none ha' hg (mk_zero (x := x) (by simp) hx)⟩
              · by_cases hx2 : 2 ≤ dz (n + 1) x
                · exact .inr (.inl ⟨hx, rfl, hx2, dz_mk_none ha' hg (mk_pub_no hx2)⟩)
                · have hx1 : dz (n + 1) x = 1 := by omega
                  exact .inr (.inr ⟨hx, fun _ => hx1, by rw [dz_mk_some ha' hg (mk_pub_yes hx1), hx1]⟩)
        · rw [h1] at hm2
          match ks, hm2 with
          | [x, y], _ =>
            by_cases hdh : op = oDh
            · subst hdh
              refine sd_dh (n + 1) (by omega) (by omega) ih t ht ha' x y hg _ ?_ w
              by_cases hx : dz (n + 1) x = 0
              · exact .inl ⟨.inl hx, dz_mk_none ha' hg (mk_zero (x := x) (by simp) hx)⟩
              by_cases hx2 : 2 ≤ dz (n + 1) x
              · exact .inl ⟨.inr hx2, dz_mk_none ha' hg (mk_dh_no (.inl hx2))⟩
              have hx1 : dz (n + 1) x = 1 := by omega
              by_cases hy : dz (n + 1) y = 0
              · exact .inr (.inl ⟨hx1, .inl hy, dz_mk_none ha' hg (mk_zero (x := y) (by simp) hy)⟩)
              by_cases hy2 : 2 ≤ dz (n + 1) y
              · exact .inr (.inl ⟨hx1, .inr hy2, dz_mk_none ha' hg (mk_dh_no (.inr hy2))⟩)
              have hy1 : dz (n + 1) y = 1 := by omega
              cases hgt : gt x y
              · exact .inr (.inr (.inr ⟨hx1, hy1, rfl, dz_mk_some ha' hg ((mk_dh hx1 hy1).1 hgt)⟩))
              · exact .inr (.inr (.inl ⟨hx1, hy1, rfl, dz_mk_none ha' hg ((mk_dh hx1 hy1).2 hgt)⟩))
            · have hop3 : op = oPair ∨ op = oMac ∨ op = oShut := by
                rcases hop with h | h | h | h
                · exact .inl h
                · exact .inr (.inl h)
                · exact .inr (.inr h)
                · exact absurd h hdh
              have hs : secret op = false := by rcases hop3 with rfl | rfl | rfl <;> rfl
              refine sd_two (n + 1) (by omega) (by omega) ih t ht ha' op x y hg h1 hs (by rw [beq_eq_false_iff_ne]; exact hdh) _ ?_ w
              by_cases hx : dz (n + 1) x = 0
              · exact .inl ⟨hx, dz_mk_none ha' hg (mk_zero (x := x) (by simp) hx)⟩
              by_cases hy : dz (n + 1) y = 0
              · exact .inr (.inl ⟨hx, hy, dz_mk_none ha' hg (mk_zero (x := y) (by simp) hy)⟩)
              · exact .inr (.inr ⟨hx, hy, dz_mk_some ha' hg (mk_pms hop3 hx hy)⟩)

/-- How deep: of what is not right 0. -/
def deepT (l : Bs) : Nat := match term l with | some T => T.deep | none => 0

theorem deepT_small {l : Bs} (h : l.length ≤ 3000) : deepT l = dz 24 l := by
  have e : term l = pz 24 l := by unfold term; rw [if_pos h]
  unfold deepT dz
  rw [e]
  cases pz 24 l <;> rfl
theorem deepT_big {l : Bs} (h : ¬ l.length ≤ 3000) : deepT l = 0 ∧ term l = none := by
  have : term l = none := by unfold term; rw [if_neg h]
  exact ⟨by unfold deepT; rw [this], this⟩
theorem term_isSome (l : Bs) : (term l).isSome = decide (0 < deepT l) := by
  unfold deepT
  cases h : term l with
  | none => rfl
  | some T => have := deep_pos T; simp; omega

set_option maxRecDepth 100000 in
theorem specTermRight_calls (s : ByteArray) (hs : s.size ≤ maxLen) (w : World) :
    Calls Tryz.prog 18 #[.string s] w fun e w' => e = .returned (.bool (term s.data.toList).isSome) ∧ Below w.heap.size w w' := by
  unfold maxLen at hs
  by_cases hbig : 3000 < s.size
  · have d0 : decide ((s.size : Int) ≤ 3000) = false := by simp; omega
    rw [(deepT_big (l := s.data.toList) (by show ¬ s.size ≤ 3000; omega)).2]
    go_enter Tryz.func18, Tryz.ntmps18
    go_wp2_with fail
    go_ret
    exact ⟨rfl, Below.refl _ _⟩
  · have d0 : decide ((s.size : Int) ≤ 3000) = true := by simp; omega
    have e0 := term_isSome s.data.toList
    rw [deepT_small (show s.data.toList.length ≤ 3000 by show s.size ≤ 3000; omega)] at e0
    rw [e0]
    have c1 := sd_all 24 (by omega) (by omega) s (by omega)
    obtain ⟨d, hd⟩ : ∃ d, dz 24 s.data.toList = d := ⟨_, rfl⟩
    rw [hd] at c1 ⊢
    clear hd e0
    go_enter Tryz.func18, Tryz.ntmps18
    go_wp2_with (go_at_call 37; refine (c1 _).mono ?_; rintro e w1 ⟨rfl, hb⟩)
    go_ret
    exact ⟨ret_bool (by simp), hb⟩

end Go.Proofs.YtdikjmhnjlalbabGreat.srt

/- Contract of the model's l02Node. -/
namespace Go.Proofs.YtdikjmhnjlalbabGreat.snd
open Go.RowKit Go.Proofs.YtdikjmhnjlalbabGreat.tm Go.Proofs.YtdikjmhnjlalbabGreat.lib Go.Proofs.YtdikjmhnjlalbabGreat.rdr Go.Proofs.YtdikjmhnjlalbabGreat.bld Go.Proofs.YtdikjmhnjlalbabGreat.app Go.Proofs.YtdikjmhnjlalbabGreat.spm Go.Proofs.YtdikjmhnjlalbabGreat.sar Go.Proofs.YtdikjmhnjlalbabGreat.sdp
set_option linter.unusedVariables false

/-- A slice of texts, somewhere from block B on. -/
def Txs (w : World) (B : Nat) (v : Value) (ls : List Bs) : Prop := ∃ g off cap, v = .slice (some ⟨g, off, none⟩) ls.length cap ∧ B ≤ g ∧ g < w.heap.size ∧ ls.length ≤ cap ∧ ∀ j l, ls[j]? = some l → w.cell? ⟨g, off + j, none⟩ = some (str l)

/-- The args of a node: of an atom it alone. -/
def nodeArgs (T : Tm) : List Bs := if T.isAtom then [T.tx] else T.kids.map Tm.tx

theorem atom_first {T : Tm} (hT : T.ok) (h : T.isAtom = true) : ∃ (s0 : UInt8) (r : Bs), T.tx = s0 :: r ∧ s0 ≠ 91 := by
  match T, h, hT with
  | .atom a, _, hT =>
    cases a with
    | nil => have := atomR_ne (show atomR [] = true from hT); exact absurd rfl this
    | cons c r =>
      refine ⟨c, r, rfl, ?_⟩
      have := atomR_all (show atomR (c :: r) = true from hT)
      simp at this
      rintro rfl
      exact absurd this.1 (by decide)

theorem byte0 {s : ByteArray} {c : UInt8} {r : Bs} (h : s.data.toList = c :: r) : ∃ hp : 0 < s.size, s[0] = c := by
  have hp : 0 < s.size := by
    have := congrArg List.length h
    have e : s.data.toList.length = s.size := rfl
    rw [e] at this
    simp at this
    omega
  refine ⟨hp, ?_⟩
  have := drop_lt s 0 hp
  rw [List.drop_zero, h] at this
  exact (List.cons.inj this).1.symm

set_option maxHeartbeats 1000000 in
set_option maxRecDepth 100000 in
theorem node_calls (s : ByteArray) (T : Tm) (hT : T.ok) (hs : s.size ≤ 3000) (he : T.tx = s.data.toList) (w : World) :
    Calls Tryz.prog 53 #[.string s] w fun e w' => ∃ v, e = .returned (.agg #[str T.op, v]) ∧ Below w.heap.size w w' ∧ Txs w' w.heap.size v (nodeArgs T) := by
  cases hn : T.isAtom with
  | true =>
    obtain ⟨c, r, h1, h2⟩ := atom_first hT hn
    obtain ⟨hp, h0⟩ := byte0 (he ▸ h1 : s.data.toList = c :: r)
    have d0 : ((s[0].toNat : Int) != 91) = true := by
      rw [h0]; simp; intro e; exact h2 (UInt8.toNat_inj.1 (by show _ = 91; omega))
    have hop : T.op = [] := by cases T <;> first | rfl | (simp [Tm.isAtom] at hn)
    have hna : nodeArgs T = [s.data.toList] := by unfold nodeArgs; rw [hn, if_pos rfl, he]
    rw [hop, hna]
    clear h0 h1 h2 hop hna hn he hT
    go_enter Tryz.func53, Tryz.ntmps53
    go_wp2_with fail
    refine bodyPost_ret (v := .agg #[.string ⟨#[]⟩, .slice (some ⟨w.heap.size + 1, 0, none⟩) 1 1]) (by simp [results, Tryz.results53, go_sem]) rfl ⟨_, rfl, ?_, _, _, _, rfl, ?_, ?_, ?_, ?_⟩
    · exact ((Below.refl _ _).alloc (Nat.le_refl _) _).alloc (by simp) _
    · simp
    · simp
    · simp
    · intro j l hj
      match j, hj with
      | 0, hj => simp at hj; subst hj; simp [go_sem]
      | j + 1, hj => simp at hj
  | false =>
    have ha := args_tx hT hn
    rw [he] at ha
    have hna : nodeArgs T = T.kids.map Tm.tx := by unfold nodeArgs; rw [hn]; rfl
    obtain ⟨ks, hks⟩ : ∃ ks, ks = T.kids.map Tm.tx := ⟨_, rfl⟩
    obtain ⟨op, hop⟩ : ∃ op, op = T.op := ⟨_, rfl⟩
    have h3 : (∃ x, ks = [x]) ∨ (∃ x y, ks = [x, y]) := by
      rw [hks]
      cases T with
      | atom a => cases hn
      | pair x y => exact .inr ⟨_, _, rfl⟩
      | hash x => exact .inl ⟨_, rfl⟩
      | mac x y => exact .inr ⟨_, _, rfl⟩
      | shut x y => exact .inr ⟨_, _, rfl⟩
      | pub a => exact .inl ⟨_, rfl⟩
      | dh a b => exact .inr ⟨_, _, rfl⟩
    have h0 : ∃ r, s.data.toList = 91 :: r := by rw [← he, tx_say T hn]; exact ⟨_, rfl⟩
    obtain ⟨r, hr⟩ := h0
    obtain ⟨hp, h0⟩ := byte0 hr
    have d0 : ((s[0].toNat : Int) != 91) = false := by rw [h0]; rfl
    rw [hna]
    rw [← hks] at ha ⊢
    rw [← hop] at ha ⊢
    have HA := Lib.hid ha
    clear hr h0 hna hn he hT ha hop hks
    go_enter Tryz.func53, Tryz.ntmps53
    go_wp2_with fail
    refine (args_calls s hs _).mono ?_
    rintro e w1 ⟨v, hb, hk⟩
    have HB := Lib.hid hb
    rcases hk with ⟨hk, rfl⟩ | ⟨a, hk, rfl, ho⟩
    · rw [HA.out] at hk; cases hk
    rw [HA.out] at hk
    cases hk
    have hcap := ho
    obtain ⟨g, cap, rfl, c0, c1, c2, hg⟩ := Strs.cons ho
    obtain ⟨k0, k1, f0, f1, hz⟩ := two (clo.new_kept hb)
    have hgb : w.heap.size < g := by
      have := (World.ownsRow.lt ho g rfl).1
      simp at this
      omega
    have hcap2 : ks.length + 1 ≤ cap := by
      obtain ⟨_, hh⟩ := ho
      rcases hh with ⟨h1, _⟩ | ⟨g', cap', cur, h1, _, _, h2, _⟩
      · cases h1
      · cases h1; simpa using h2
    rcases h3 with ⟨x, rfl⟩ | ⟨x, y, rfl⟩
    · have c1 := c1 x rfl
      simp only [List.length_cons, List.length_nil] at hcap2
      clear hb ho hcap c2
      go_wp2_with fail
      go_region
      all_goals go_wp2_with fail
      refine bodyPost_ret (v := .agg #[str op, .slice (some ⟨g, 1, none⟩) 1 (cap - 1)]) (by simp [results, Tryz.results53, go_sem, k0, k1]) rfl ⟨_, rfl, ?_, g, 1, cap - 1, rfl, by omega, ?_, ?_, ?_⟩
      · exact (((((Below.refl _ _).alloc (Nat.le_refl _) _).trans (HB.out.mono (by simp))).setCell (by simp) _).setCell (by simp) _).drew
      · simp [World.setCell]; exact hg
      · simp; omega
      · have hne : ¬ (g = w.heap.size) := by omega
        intro j l hj
        match j, hj with
        | 0, hj => simp at hj; subst hj; simp [go_sem, c1]
        | j + 1, hj => simp at hj
    · have c1 := c1 x rfl
      have c2 := c2 y rfl
      simp only [List.length_cons, List.length_nil] at hcap2
      clear hb ho hcap
      go_wp2_with fail
      go_region
      all_goals go_wp2_with fail
      refine bodyPost_ret (v := .agg #[str op, .slice (some ⟨g, 1, none⟩) 2 (cap - 1)]) (by simp [results, Tryz.results53, go_sem, k0, k1]) rfl ⟨_, rfl, ?_, g, 1, cap - 1, rfl, by omega, ?_, ?_, ?_⟩
      · exact (((((Below.refl _ _).alloc (Nat.le_refl _) _).trans (HB.out.mono (by simp))).setCell (by simp) _).setCell (by simp) _).drew
      · simp [World.setCell]; exact hg
      · simp; omega
      · have hne : ¬ (g = w.heap.size) := by omega
        intro j l hj
        match j, hj with
        | 0, hj => simp at hj; subst hj; simp [go_sem, c1]
        | 1, hj => simp at hj; subst hj; simp [go_sem, c2]
        | j + 2, hj => simp at hj
end Go.Proofs.YtdikjmhnjlalbabGreat.snd
