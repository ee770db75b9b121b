/- Learned of the program and of the model. -/
import Derived.Test.YtdikjmhnjlalbabGreatQr
import Derived.Test.YtdikjmhnjlalbabGreatQg
namespace Go.Proofs.YtdikjmhnjlalbabGreat.lrn
open Go.RowKit Go.Proofs.YtdikjmhnjlalbabGreat.tm Go.Proofs.YtdikjmhnjlalbabGreat.lib Go.Proofs.YtdikjmhnjlalbabGreat.rdr Go.Proofs.YtdikjmhnjlalbabGreat.bld Go.Proofs.YtdikjmhnjlalbabGreat.app Go.Proofs.YtdikjmhnjlalbabGreat.mrk Go.Proofs.YtdikjmhnjlalbabGreat.mrs Go.Proofs.YtdikjmhnjlalbabGreat.kmp Go.Proofs.YtdikjmhnjlalbabGreat.kst Go.Proofs.YtdikjmhnjlalbabGreat.prt Go.Proofs.YtdikjmhnjlalbabGreat.pso Go.Proofs.YtdikjmhnjlalbabGreat.skr Go.Proofs.YtdikjmhnjlalbabGreat.ato Go.Proofs.YtdikjmhnjlalbabGreat.bui Go.Proofs.YtdikjmhnjlalbabGreat.kws
set_option linter.unusedVariables false

/-- Those of m that are not built from what is there. -/
def left (R : List Bs) (m : List Bs) : List Bs := m.filter fun x => !asks R x

theorem left_len (R m : List Bs) : (left R m).length ≤ m.length := List.length_filter_le _ _

theorem left_snoc (R m : List Bs) (x : Bs) : left R (m ++ [x]) = if asks R x then left R m else left R m ++ [x] := by
  unfold left
  rw [List.filter_append]
  cases h : asks R x <;> simp [h]

theorem least_left {l R R' : List Bs} (h : Least l R) (h' : Least l R') (m : List Bs) : left R m = left R' m := by
  unfold left
  congr 1
  funext x
  rw [least_asks h h' x]

/-- What Learned tells: nothing, if one of the two is not right. -/
inductive LR (l m : List Bs) : List Bs → Prop
  | no (h : (∀ Ts, ¬ Kn l Ts) ∨ (∀ Ts, ¬ Kn m Ts)) : LR l m []
  | yes (Ts Us : List Tm) (R : List Bs) (h1 : Kn l Ts) (h2 : Kn m Us) (h3 : Least l R) : LR l m (left R m)

theorem LR.one {l m a b : List Bs} (h : LR l m a) (k : LR l m b) : a = b := by
  cases h with
  | no h =>
    cases k with
    | no => rfl
    | yes Ts Us R h1 h2 h3 => rcases h with h | h; exact absurd h1 (h Ts); exact absurd h2 (h Us)
  | yes Ts Us R h1 h2 h3 =>
    cases k with
    | no h => rcases h with h | h; exact absurd h1 (h Ts); exact absurd h2 (h Us)
    | yes Ts' Us' R' h1' h2' h3' => exact least_left h3 h3' m

theorem LR.len {l m a : List Bs} (h : LR l m a) : a.length ≤ m.length := by
  cases h with
  | no => simp
  | yes Ts Us R h1 h2 h3 => exact left_len R m

structure Ls (R m : List Bs) (w w3 wr : World) (k : Nat) (v : Value) : Prop where
  le : k ≤ m.length
  own : Strs wr w.heap.size v (left R (m.take k))
  bel : Below w.heap.size w wr
  size : w3.heap.size ≤ wr.heap.size
  mid : ∀ g, w.heap.size < g → g < w3.heap.size → wr.heap[g]? = w3.heap[g]?
  blk : ∀ j, v.ownBlock = some j → j = w.heap.size ∨ w3.heap.size ≤ j

theorem Ls.below {R m : List Bs} {w w3 wr w4 : World} {k : Nat} {v : Value} (L : Ls R m w w3 wr k v) (hb : Below wr.heap.size wr w4) : Below w.heap.size w w4 ∧ Strs w4 w.heap.size v (left R (m.take k)) ∧ w3.heap.size ≤ w4.heap.size ∧ ∀ g, w.heap.size < g → g < w3.heap.size → w4.heap[g]? = w3.heap[g]? :=
  ⟨L.bel.trans (hb.mono L.bel.size), Strs.below L.own hb, Nat.le_trans L.size hb.size, fun g h1 h2 => (hb.block g (Nat.lt_of_lt_of_le h2 L.size)).trans (L.mid g h1 h2)⟩

theorem Ls.rds {R m : List Bs} {w w3 wr : World} {k : Nat} {v u : Value} {B : Nat} (L : Ls R m w w3 wr k v) (h : snd.Txs w3 B u R) (hB : w.heap.size < B) : Rds wr u R := by
  obtain ⟨g, off, cap, e, h1, h2, h3, h4⟩ := h
  refine .inr ⟨g, off, cap, e, Nat.lt_of_lt_of_le h2 L.size, fun j l hj => ?_⟩
  rw [← h4 j l hj]
  exact World.cell?_of_block (L.mid g (by omega) h2)

set_option maxHeartbeats 2000000 in
set_option maxRecDepth 100000 in
theorem specLearned_calls (ad : Option Addr) (n cap : Nat) (ad' : Option Addr) (n' cap' : Nat) (l m : List Bs) (w : World) (hn : n = l.length) (h : Rds w (.slice ad n cap) l) (hm : n ≤ maxLen) (hs : ∀ x ∈ l, x.length ≤ maxLen)
    (hn' : n' = m.length) (h' : Rds w (.slice ad' n' cap') m) (hm' : n' ≤ maxLen) (hs' : ∀ x ∈ m, x.length ≤ maxLen) :
    Calls Tryz.prog 15 #[.slice ad n cap, .slice ad' n' cap'] w fun e w' => ∃ v out, e = .returned v ∧ Below w.heap.size w w' ∧ Strs w' w.heap.size v out ∧ LR l m out := by
  have h1 := fun (w : World) h => specKnownRight_calls ad n cap l w hn h hm hs
  have h2 := fun (w : World) h => specKnownRight_calls ad' n' cap' m w hn' h hm' hs'
  have H := Lib.hid h
  have H' := Lib.hid h'
  have K1 := Lib.hid h1
  have K2 := Lib.hid h2
  have HN' := Lib.hid hn'
  unfold maxLen at hm'
  clear h1 h2 hn h hm hs hn' h' hs'
  go_enter Tryz.func15, Tryz.ntmps15
  go_wp2_with fail
  have hA := bds.new1 w (.cells #[] 9)
  refine (K1.out _ (Rds.below H.out hA)).mono ?_
  rintro e w1 ⟨hb, hk⟩
  have HB := Lib.hid (hA.trans (hb.mono hA.size))
  have e0 := sar.strs_empty w w.heap.size (Nat.le_refl _)
  have E1 := Lib.hid (Strs.below e0 hb)
  clear hb hA e0
  rcases hk with ⟨⟨Ts, hk⟩, rfl⟩ | ⟨hk, rfl⟩
  · have HK := Lib.hid hk
    clear hk
    go_wp2_with fail
    refine (K2.out _ (Rds.below H'.out HB.out)).mono ?_
    rintro e w2 ⟨hb2, hk2⟩
    have HB2 := Lib.hid (HB.out.trans (hb2.mono HB.out.size))
    have E2 := Lib.hid (Strs.below E1.out hb2)
    clear hb2
    rcases hk2 with ⟨⟨Us, hk2⟩, rfl⟩ | ⟨hk2, rfl⟩
    · have HK2 := Lib.hid hk2
      clear hk2
      have TK := Lib.hid (stk.take_calls _ l Ts w2 (Rds.below H.out HB2.out) HK.out)
      go_wp2_with fail
      refine TK.out.mono ?_
      rintro e w3 ⟨vR, R, rfl, hb3, hr3, hle, hri⟩
      have HB3 := Lib.hid (HB2.out.trans (hb3.mono HB2.out.size))
      have E3 := Lib.hid (Strs.below E2.out hb3)
      have hob := bound HK.out.txs HK.out.right (rise_nodup hri) hle.min
      have hR : R.length ≤ 1000000 := by have h1 := HK.out.few; rw [HK.out.txs] at h1; simp at h1; omega
      have HLE := Lib.hid hle
      have R3 := Lib.hid hr3
      have hw02 : w.heap.size < w2.heap.size := (World.ownsRow.lt E2.out w.heap.size rfl).2
      have hn60 : n' ≤ 60 := by have := HK2.out.few; have := HN'.out; omega
      clear hb3 hr3 hob hle hri
      go_wp2_with fail
      go_loopw [5, 7, 20, 21, 22, 23, 24, 25, 26, 27, 28, 29, 30, 31, 32, 33, 34, 35, 36, 37, 38, 39] (fun v vk _ _ _ _ _ _ _ _ _ _ _ _ _ _ _ _ _ _ _ _ wr => ∃ k, vk = .int .i64 (k : Nat) ∧ Ls R m w w3 wr k v) (fun _ vk _ _ _ _ _ _ _ _ _ _ _ _ _ _ _ _ _ _ _ _ _ => n' - (intOf vk).toNat)
      case atStart => exact ⟨0, rfl, Nat.zero_le _, E3.out, HB3.out, Nat.le_refl _, fun _ _ _ => rfl, fun j hj => .inl (by simpa [Value.ownBlock] using hj.symm)⟩
      case round =>
        obtain ⟨k, rfl, L⟩ := hrel
        have HL := Lib.hid L
        have hk : k ≤ n' := by have := L.le; have := HN'.out; omega
        have hlen : (left R (m.take k)).length ≤ 60 := by have := left_len R (m.take k); rw [List.length_take] at this; omega
        clear L
        by_cases hlt : k < n'
        · obtain ⟨x, hx⟩ : ∃ x, m[k]? = some x := ⟨_, List.getElem?_eq_getElem (by have := HN'.out; omega)⟩
          rcases H'.out with ⟨h0, _⟩ | ⟨g, off, cap'', e, hg, hc⟩
          · rw [h0] at hx; simp at hx
          cases e
          have ci : wr.cell? ⟨g, off + k, none⟩ = some (str x) := by rw [← hc k x hx]; exact HL.out.bel.cell (p := ⟨g, off + k, none⟩) hg
          have HCC := Lib.hid hc
          obtain ⟨T, hT⟩ := kn_term HK2.out (List.mem_of_getElem? hx)
          have SB := Lib.hid (sin.specBuilds_in T (term_some.1 hT).2.1 (by have := (term_some.1 hT).1; rw [(term_some.1 hT).2.2.2]; exact this) wr vR R (HL.out.rds R3.out hw02) hR)
          rw [(term_some.1 hT).2.2.2] at SB
          have HAS := Lib.hid (asks_some (L := R) hT)
          have HX := Lib.hid hx
          clear hc hx hT
          cases hv : kmp.bld (inn R) T with
          | true =>
            rw [hv] at SB HAS
            have HV := Lib.hid HAS.out
            clear hv
            go_wp2_with fail
            refine SB.out.mono ?_
            rintro e w4 ⟨rfl, hb4⟩
            obtain ⟨x1, x2, x3, x4⟩ := HL.out.below hb4
            have HB4 := Lib.hid x1
            have O4 := Lib.hid x2
            have X3 := Lib.hid x3
            have X4 := Lib.hid x4
            clear x1 x2 x3 x4
            clear hb4 ci
            go_wp2_with fail
            go_roundw
            case rel =>
              refine ⟨k + 1, by simp, by have := HN'.out; omega, ?_, HB4.out, X3.out, X4.out, HL.out.blk⟩
              rw [List.take_add_one, HX.out, Option.toList_some, left_snoc, HV.out]
              exact O4.out
            case measure => simp [intOf]; omega
          | false =>
            rw [hv] at SB HAS
            have HV := Lib.hid HAS.out
            clear hv
            go_wp2_with fail
            refine SB.out.mono ?_
            rintro e w4 ⟨rfl, hb4⟩
            obtain ⟨x1, x2, x3, x4⟩ := HL.out.below hb4
            have HB4 := Lib.hid x1
            have O4 := Lib.hid x2
            have X3 := Lib.hid x3
            have X4 := Lib.hid x4
            clear x1 x2 x3 x4
            have c4 : w4.cell? ⟨g, off + k, none⟩ = some (str x) := by rw [← HCC.out k x HX.out]; exact HB4.out.cell (p := ⟨g, off + k, none⟩) hg
            have hz4 := HB4.out.size
            clear hb4 ci
            go_wp2_with (at_builtin; refine apb.wp_putB (.tmp 33) (.tmp 38) x w.heap.size _ _ rfl rfl rfl O4.out rfl (by omega) hz4 ?_; intro v5 w5 t5 a5 n5)
            have T5 := Lib.hid t5
            have A5 := Lib.hid (show mrs.Aside _ w4 w5 from a5)
            have N5 := Lib.hid n5
            clear t5 a5 n5 c4
            go_wp2_with fail
            go_roundw
            case rel =>
              refine ⟨k + 1, by simp, by have := HN'.out; omega, ?_, HB4.out.trans (A5.out.below HB4.out.size fun j hj => (World.ownsRow.lt O4.out j hj).1), Nat.le_trans X3.out A5.out.size, fun g h1 h2 => ?_, fun j hj => ?_⟩
              · rw [List.take_add_one, HX.out, Option.toList_some, left_snoc, HV.out]
                exact T5.out
              · rw [A5.out.block g (Nat.lt_of_lt_of_le h2 X3.out) fun e => ?_]
                · exact X4.out g h1 h2
                · rcases HL.out.blk g e with h | h <;> omega
              · rcases N5.out j hj with h | h
                · exact HL.out.blk j h
                · exact .inr (Nat.le_trans X3.out h)
            case measure => simp [intOf]; omega
        · have e : k = n' := by omega
          subst e
          go_wp2_with fail
          go_ret
          have ho := HL.out.own
          rw [List.take_of_length_le (by have := HN'.out; omega)] at ho
          exact ⟨_, _, rfl, HL.out.bel, ho, .yes Ts Us R HK.out HK2.out HLE.out⟩
    · have HK2 := Lib.hid hk2
      clear hk2
      go_wp2_with fail
      go_ret
      exact ⟨_, [], rfl, HB2.out, E2.out, .no (.inr HK2.out)⟩
  · have HK := Lib.hid hk
    clear hk
    go_wp2_with fail
    go_ret
    exact ⟨_, [], rfl, HB.out, E1.out, .no (.inl HK.out)⟩

structure Li (R : List Bs) (Us : List Tm) (w wr : World) (k : Nat) (v : Value) : Prop where
  le : k ≤ Us.length
  own : Strs wr w.heap.size v (left R ((Us.take k).map Tm.tx))
  bel : Below w.heap.size w wr

/-- The row of what was learned: what stands ahead of it is left as it was. -/
theorem Li.put {R : List Bs} {Us : List Tm} {w wr w4 w5 : World} {k : Nat} {v v5 : Value} {U : Tm} (L : Li R Us w wr k v) (hU : Us[k]? = some U) (h4 : Below wr.heap.size wr w4) (hv : asks R U.tx = false)
    (t5 : Strs w5 w.heap.size v5 (left R ((Us.take k).map Tm.tx) ++ [U.tx])) (b5 : Below w.heap.size w4 w5) : Li R Us w w5 (k + 1) v5 := by
  obtain ⟨hk, _⟩ := List.getElem?_eq_some_iff.1 hU
  refine ⟨hk, ?_, (L.bel.trans (h4.mono L.bel.size)).trans b5⟩
  rw [List.take_add_one, hU, Option.toList_some, List.map_append, List.map_cons, List.map_nil, left_snoc, hv]
  exact t5

theorem Li.skip {R : List Bs} {Us : List Tm} {w wr w4 : World} {k : Nat} {v : Value} {U : Tm} (L : Li R Us w wr k v) (hU : Us[k]? = some U) (h4 : Below wr.heap.size wr w4) (hv : asks R U.tx = true) : Li R Us w w4 (k + 1) v := by
  obtain ⟨hk, _⟩ := List.getElem?_eq_some_iff.1 hU
  refine ⟨hk, ?_, L.bel.trans (h4.mono L.bel.size)⟩
  rw [List.take_add_one, hU, Option.toList_some, List.map_append, List.map_cons, List.map_nil, left_snoc, hv]
  exact Strs.below L.own h4

set_option maxHeartbeats 2000000 in
set_option maxRecDepth 100000 in
theorem implLearned_calls (ad : Option Addr) (n cap : Nat) (ad' : Option Addr) (n' cap' : Nat) (l m : List Bs) (w : World) (hn : n = l.length) (h : Rds w (.slice ad n cap) l) (hm : n ≤ maxLen) (hs : ∀ x ∈ l, x.length ≤ maxLen)
    (hn' : n' = m.length) (h' : Rds w (.slice ad' n' cap') m) (hm' : n' ≤ maxLen) (hs' : ∀ x ∈ m, x.length ≤ maxLen) :
    Calls Tryz.prog 14 #[.slice ad n cap, .slice ad' n' cap'] w fun e w' => ∃ v out, e = .returned v ∧ Below w.heap.size w w' ∧ Strs w' w.heap.size v out ∧ LR l m out := by
  have h1 := partsOf_calls ad n cap l w hn h hm hs
  have h2 := fun (w : World) h => partsOf_calls ad' n' cap' m w hn' h hm' hs'
  have hmf : ∀ (fn : Fn) (first cap : Array Value) (w : World), (Instr.makeFunc fn first cap).run Tryz.prog w = .ok (.func fn first cap) w := fun _ _ _ _ => rfl
  have H' := Lib.hid h'
  have K1 := Lib.hid h1
  have K2 := Lib.hid h2
  clear h1 h2 hn h hm hs hn' h' hs' hm'
  go_enter Tryz.func14, Tryz.ntmps14
  go_wp2_with fail
  refine K1.out.mono ?_
  rintro e w1 ⟨hb, hk⟩
  have HB := Lib.hid hb
  clear hb
  rcases hk with ⟨Ts, v1, es1, hk, rfl, hp1⟩ | ⟨hk, rfl⟩
  · have HK := Lib.hid hk
    have P1 := Lib.hid hp1
    clear hk hp1
    go_wp2_with fail
    refine (K2.out _ (Rds.below H'.out HB.out)).mono ?_
    rintro e w2 ⟨hb2, hk2⟩
    have HB2 := Lib.hid (HB.out.trans (hb2.mono HB.out.size))
    have P12 := Lib.hid (P1.out.below hb2)
    clear hb2
    rcases hk2 with ⟨Us, v2, es2, hk2, rfl, hp2⟩ | ⟨hk2, rfl⟩
    · have HK2 := Lib.hid hk2
      have P2 := Lib.hid hp2
      clear hk2 hp2
      have TK := Lib.hid (tkf.taken_calls v1 _ l Ts es1 w2 P12.out HK.out)
      go_wp2_with fail
      refine TK.out.mono ?_
      rintro e w3 ⟨bm, R, rfl, hb3, hs3, hbm, hle⟩
      have HB3 := Lib.hid (HB2.out.trans (hb3.mono HB2.out.size))
      have P3 := Lib.hid (P2.out.below hb3)
      have HS3 := Lib.hid hs3
      have HLE := Lib.hid hle
      have hbm3 := hs3.lt
      have hw3 := HB3.out.size
      clear hb3 hs3 hle hbm
      have hes := P3.out.len
      obtain ⟨n2, hN⟩ : ∃ n, n = Us.length := ⟨_, rfl⟩
      have hv : ∃ ad cap, v2 = .slice ad n2 cap ∧ (∀ j T, Us[j]? = some T → ∃ g e, ad = some ⟨g, 0, none⟩ ∧ g < w3.heap.size ∧ Lies w3 g (j * 3) e ∧ Prt w3 (fun g => g < w3.heap.size) T e) := by
        rcases P3.out.own.form with ⟨rfl, h⟩ | ⟨g, cap, rfl, h1, h2⟩
        · refine ⟨none, 0, by rw [hN, ← hes, h]; rfl, fun j T hj => ?_⟩
          rw [h] at hes
          have := List.eq_nil_of_length_eq_zero hes.symm
          rw [this] at hj
          simp at hj
        · refine ⟨some ⟨g, 0, none⟩, cap, by rw [hN, hes], fun j T hj => ?_⟩
          have hj' : j < es2.length := by rw [hes]; exact (List.getElem?_eq_some_iff.1 hj).1
          have he := List.getElem?_eq_getElem hj'
          exact ⟨g, es2[j], rfl, h2, P3.out.own.at_ (g := g) rfl he, (P3.out.prt j T _ hj he).same (fun g hg => ⟨rfl, hg.2.1⟩) _ _⟩
      obtain ⟨ad2, cap2, rfl, hat⟩ := hv
      have HN := Lib.hid hN
      have HA := Lib.hid hat
      have hn60 : n2 ≤ 60 := by have h1 := HK2.out.few; rw [HK2.out.txs] at h1; simp at h1; omega
      have hcf : ∀ (v : Value) (w : World), (callFunc 29 #[.map (some bm), v]).run Tryz.prog w = .ok (.enter 29 #[.map (some bm), v]) w := fun v w => by kernel_rfl
      clear hes hat hN
      go_wp2_with fail
      go_loopw [10, 12, 34, 35, 36, 37, 38, 39, 40, 41, 42, 43, 44, 45, 46, 47] (fun v _ vk _ _ _ _ _ _ _ _ _ _ _ _ _ wr => ∃ k, vk = .int .i64 (k : Nat) ∧ Li R Us w3 wr k v) (fun _ _ vk _ _ _ _ _ _ _ _ _ _ _ _ _ _ => n2 - (intOf vk).toNat)
      case atStart => exact ⟨0, rfl, Nat.zero_le _, Strs.nil _ _, Below.refl _ _⟩
      case round =>
        obtain ⟨k, rfl, L⟩ := hrel
        have HL := Lib.hid L
        have hk : k ≤ n2 := by have := L.le; have := HN.out; omega
        have hlen : (left R ((Us.take k).map Tm.tx)).length ≤ 60 := by have := left_len R ((Us.take k).map Tm.tx); rw [List.length_map, List.length_take] at this; omega
        clear L
        by_cases hlt : k < n2
        · obtain ⟨U, hU⟩ : ∃ U, Us[k]? = some U := ⟨_, List.getElem?_eq_getElem (by have := HN.out; omega)⟩
          obtain ⟨g, ⟨kt, ko, kad, kn, kc⟩, rfl, hg, hlies, hprt⟩ := HA.out k U hU
          have htx := hprt.text.1
          simp only at htx
          obtain ⟨m0, m1, m2⟩ := hlies.same (HL.out.bel.block g hg)
          simp only at m0 m1 m2
          have hUr := HK2.out.right U (List.mem_of_getElem? hU)
          have hA4 := bds.new1 wr (.cells #[str kt, str ko, .slice kad kn kc] 53)
          have hB4 : Below w3.heap.size w3 (wr.alloc (.cells #[str kt, str ko, .slice kad kn kc] 53)) := HL.out.bel.trans (hA4.mono HL.out.bel.size)
          have bd := bds.builds_calls U (term_some.1 hUr).2.1 (by have := (term_some.1 hUr).1; omega) _ bm R (fun g => g < w3.heap.size) ⟨kt, ko, kad, kn, kc⟩ (HS3.out.below hB4 hbm3) (hprt.same (fun g hg => ⟨hB4.block g hg, hg⟩) _ _) (fun g hg => Nat.lt_of_lt_of_le hg hB4.size)
          simp only [El.v] at bd
          have BD := Lib.hid bd
          have HAS := Lib.hid (asks_some (L := R) hUr)
          have HUU := Lib.hid hU
          have HTX := Lib.hid htx
          have HA4 := Lib.hid hA4
          have hgr : g < wr.heap.size := by have := HL.out.bel.size; omega
          clear bd hU htx hA4 hB4 hlies hprt hUr
          cases hv : kmp.bld (inn R) U with
          | true =>
            rw [hv] at BD HAS
            have HV := Lib.hid HAS.out
            clear hv
            go_wp2_with fail
            refine BD.out.mono ?_
            rintro e w4 ⟨rfl, hb4⟩
            have SK := Lib.hid (HL.out.skip HUU.out (HA4.out.trans (hb4.mono HA4.out.size)) HV.out)
            clear hb4 m0 m1 m2
            go_wp2_with fail
            go_roundw
            case rel => exact ⟨k + 1, by simp, SK.out⟩
            case measure => simp [intOf]; omega
          | false =>
            rw [hv] at BD HAS
            have HV := Lib.hid HAS.out
            clear hv
            go_wp2_with fail
            refine BD.out.mono ?_
            rintro e w4 ⟨rfl, hb4⟩
            have h4 : Below wr.heap.size wr w4 := HA4.out.trans (hb4.mono HA4.out.size)
            have x0 : w4.cell? ⟨wr.heap.size, 0, none⟩ = some (str kt) := by
              rw [hb4.cell (p := ⟨wr.heap.size, 0, none⟩) (by simp)]
              simp [go_sem]
            have O4 := Lib.hid (Strs.below HL.out.own h4)
            have H4 := Lib.hid h4
            have hz4 : w3.heap.size ≤ w4.heap.size := Nat.le_trans HL.out.bel.size h4.size
            clear hb4 h4 m0 m1 m2
            go_wp2_with (at_builtin; refine wp_putS (.tmp 42) (.tmp 45) kt w3.heap.size _ _ rfl rfl rfl O4.out rfl (by omega) hz4 ?_; intro v5 w5 t5 b5)
            have PU := Lib.hid (HL.out.put HUU.out H4.out HV.out (by rw [← HTX.out]; exact t5) b5)
            clear t5 b5 x0
            go_wp2_with fail
            go_roundw
            case rel => exact ⟨k + 1, by simp, PU.out⟩
            case measure => simp [intOf]; omega
        · have e : k = n2 := by omega
          subst e
          go_wp2_with fail
          go_ret
          have ho := HL.out.own
          rw [List.take_of_length_le (by have := HN.out; omega), ← HK2.out.txs] at ho
          exact ⟨_, _, rfl, HB3.out.trans (HL.out.bel.mono hw3), own_base ho hw3, .yes Ts Us R HK.out HK2.out HLE.out⟩
    · have HK2 := Lib.hid hk2
      clear hk2
      go_wp2_with fail
      go_ret
      exact ⟨_, [], rfl, HB2.out, Strs.nil _ _, .no (.inr HK2.out)⟩
  · have HK := Lib.hid hk
    clear hk
    go_wp2_with fail
    refine (K2.out _ (Rds.below H'.out HB.out)).mono ?_
    rintro e w2 ⟨hb2, hk2⟩
    have HB2 := Lib.hid (HB.out.trans (hb2.mono HB.out.size))
    clear hb2
    rcases hk2 with ⟨Us, v2, es2, hk2, rfl, hp2⟩ | ⟨hk2, rfl⟩
    · clear hk2 hp2
      go_wp2_with fail
      go_ret
      exact ⟨_, [], rfl, HB2.out, Strs.nil _ _, .no (.inl HK.out)⟩
    · clear hk2
      go_wp2_with fail
      go_ret
      exact ⟨_, [], rfl, HB2.out, Strs.nil _ _, .no (.inl HK.out)⟩

#print axioms specLearned_calls
#print axioms implLearned_calls
end Go.Proofs.YtdikjmhnjlalbabGreat.lrn
