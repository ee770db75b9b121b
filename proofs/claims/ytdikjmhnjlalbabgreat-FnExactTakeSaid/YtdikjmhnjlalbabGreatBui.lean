/- knownOf, built and Builds of the program; Builds of the model. -/
import Derived.Test.YtdikjmhnjlalbabGreatBds
import Derived.Test.YtdikjmhnjlalbabGreatSin
namespace Go.Proofs.YtdikjmhnjlalbabGreat.bui
open Go.RowKit Go.Proofs.YtdikjmhnjlalbabGreat.tm Go.Proofs.YtdikjmhnjlalbabGreat.lib Go.Proofs.YtdikjmhnjlalbabGreat.rdr Go.Proofs.YtdikjmhnjlalbabGreat.bld Go.Proofs.YtdikjmhnjlalbabGreat.app Go.Proofs.YtdikjmhnjlalbabGreat.mrk Go.Proofs.YtdikjmhnjlalbabGreat.mrs Go.Proofs.YtdikjmhnjlalbabGreat.kmp Go.Proofs.YtdikjmhnjlalbabGreat.kst Go.Proofs.YtdikjmhnjlalbabGreat.prt Go.Proofs.YtdikjmhnjlalbabGreat.pso Go.Proofs.YtdikjmhnjlalbabGreat.skr Go.Proofs.YtdikjmhnjlalbabGreat.ato
set_option linter.unusedVariables false

structure Lk (w : World) (L : List Bs) (wr : World) (k : Nat) : Prop where
  le : k ≤ L.length
  set : Kset wr w.heap.size (L.take k)
  bel : Below w.heap.size w wr

set_option maxHeartbeats 1000000 in
set_option maxRecDepth 100000 in
theorem knownOf_calls (v : Value) (B : Nat) (Ts : List Tm) (es : List El) (w : World) (hp : Pts w B v Ts es) (hn : (Ts.map Tm.tx).Nodup) (hl : ∀ T ∈ Ts, T.tx.length ≤ 1000000) (hc : Ts.length ≤ 1000000) :
    Calls Tryz.prog 36 #[v] w fun e w' => e = .returned (.map (some w.heap.size)) ∧ Below w.heap.size w w' ∧ Kset w' w.heap.size (Ts.map Tm.tx) := by
  have hmm := @run_makeMap Tryz.prog
  obtain ⟨L, hL⟩ : ∃ L, L = Ts.map Tm.tx := ⟨_, rfl⟩
  have hLn : L.length = Ts.length := by rw [hL]; simp
  have hes := hp.len
  obtain ⟨n, hN⟩ : ∃ n, n = Ts.length := ⟨_, rfl⟩
  have hv : ∃ ad cap, v = .slice ad n cap ∧ (∀ j T, Ts[j]? = some T → ∃ g e, ad = some ⟨g, 0, none⟩ ∧ g < w.heap.size ∧ e.t = T.tx ∧ Lies w g (j * 3) e) := by
    rcases hp.own.form with ⟨rfl, h⟩ | ⟨g, cap, rfl, h1, h2⟩
    · refine ⟨none, 0, by rw [hN, ← hes, h]; rfl, fun j T hj => ?_⟩
      rw [h] at hes
      have := List.eq_nil_of_length_eq_zero hes.symm
      rw [this] at hj
      simp at hj
    · refine ⟨some ⟨g, 0, none⟩, cap, by rw [hN, hes], fun j T hj => ?_⟩
      have hj' : j < es.length := by rw [hes]; exact (List.getElem?_eq_some_iff.1 hj).1
      have he := List.getElem?_eq_getElem hj'
      exact ⟨g, es[j], rfl, h2, (hp.prt j T _ hj he).text.1, hp.own.at_ (g := g) rfl he⟩
  obtain ⟨ad, cap, rfl, hat⟩ := hv
  rw [← hL] at hn ⊢
  have HL := Lib.hid hL
  have HN := Lib.hid hN
  have HA := Lib.hid hat
  have HD := Lib.hid hn
  have HT := Lib.hid hl
  rw [← hN] at hc hLn
  clear hp hes hat hn hl hL hN
  go_enter Tryz.func36, Tryz.ntmps36
  go_wp2_with fail
  go_loopw [5, 9, 10, 11, 12, 13, 14, 15, 16] (fun _ vk _ _ _ _ _ _ _ wr => ∃ k, vk = .int .i64 (k : Nat) ∧ Lk w L wr k) (fun _ vk _ _ _ _ _ _ _ _ => n - (intOf vk).toNat)
  case atStart => exact ⟨0, rfl, Nat.zero_le _, Kset.made w, bds.new1 _ _⟩
  case round =>
    obtain ⟨k, rfl, K⟩ := hrel
    have KK := Lib.hid K
    have hk : k ≤ n := by have := K.le; omega
    clear K
    by_cases hlt : k < n
    · obtain ⟨T, hT⟩ : ∃ T, Ts[k]? = some T := ⟨_, List.getElem?_eq_getElem (by have := HN.out; omega)⟩
      obtain ⟨g, ⟨kt, ko, kad, kn, kc⟩, rfl, hg, he, c0, c1, c2⟩ := HA.out k T hT
      simp only at c0 c1 c2 he
      have hLk : L[k]? = some kt := by rw [HL.out, List.getElem?_map, hT, he]; rfl
      have hkl : kt.length ≤ maxLen := by rw [he]; have := HT.out T (List.mem_of_getElem? hT); unfold maxLen; omega
      have m0 : wr.cell? ⟨g, k * 3, none⟩ = some (str kt) := by rw [← c0]; exact KK.out.bel.cell (p := ⟨g, k * 3, none⟩) hg
      have m1 : wr.cell? ⟨g, k * 3 + 1, none⟩ = some (str ko) := by rw [← c1]; exact KK.out.bel.cell (p := ⟨g, k * 3 + 1, none⟩) hg
      have m2 : wr.cell? ⟨g, k * 3 + 2, none⟩ = some (.slice kad kn kc) := by rw [← c2]; exact KK.out.bel.cell (p := ⟨g, k * 3 + 2, none⟩) hg
      have hnew : ¬ kt ∈ L.take k := by
        intro hm
        obtain ⟨j, hj, e⟩ := List.getElem_of_mem hm
        have hj' : j < k := by simp at hj; omega
        have e2 : L[j]? = some kt := by
          rw [← List.getElem?_take_of_lt hj', List.getElem?_eq_getElem hj, e]
        exact absurd ((List.getElem?_inj (by omega) HD.out).1 (e2.trans hLk.symm)) (by omega)
      have HLK := Lib.hid hLk
      have hA : Below w.heap.size w (wr.alloc (.cells #[str kt, str ko, .slice kad kn kc] 53)) := KK.out.bel.alloc KK.out.bel.size _
      have hsz := KK.out.bel.size
      have HS := Lib.hid (KK.out.set.below (bds.new1 wr (.cells #[str kt, str ko, .slice kad kn kc] 53)) KK.out.set.lt)
      have HAA := Lib.hid hA
      have htl : (L.take k).length < maxLen := by rw [List.length_take]; unfold maxLen; omega
      clear c0 c1 c2 he hT hLk hA
      go_wp2_with (at_mapUpdate; refine wp_mput (.tmp 13) (.tmp 15) (.const (.bool true)) w.heap.size (L.take k) kt rfl rfl rfl rfl rfl HS.out hkl hnew htl ?_; intro w3 hs3 hg3)
      have HB3 := Lib.hid (HAA.out.trans (⟨hg3.os, hg3.tape, hg3.output, hg3.size, fun j hj => hg3.block j (Nat.lt_of_lt_of_le hj HAA.out.size) (by simp; omega)⟩ : Below w.heap.size _ w3))
      have HS3 := Lib.hid hs3
      clear hs3 hg3 m0 m1 m2
      go_wp2_with fail
      go_roundw
      case rel =>
        refine ⟨k + 1, by simp, by omega, ?_, HB3.out⟩
        rw [List.take_add_one, HLK.out]
        exact HS3.out
      case measure => simp [intOf]; omega
    · have e : k = n := by omega
      subst e
      go_wp2_with fail
      go_ret
      refine ⟨rfl, KK.out.bel, ?_⟩
      have := KK.out.set
      rw [List.take_of_length_le (by omega)] at this
      exact this

/-- What is built answers, of a set. -/
def asks (L : List Bs) (t : Bs) : Bool := match term t with | some T => kmp.bld (inn L) T | none => false

theorem asks_some {L : List Bs} {t : Bs} {T : Tm} (h : term t = some T) : asks L t = kmp.bld (inn L) T := by unfold asks; rw [h]
theorem asks_none {L : List Bs} {t : Bs} (h : term t = none) : asks L t = false := by unfold asks; rw [h]

set_option maxHeartbeats 1000000 in
set_option maxRecDepth 100000 in
theorem built_calls (t : Bs) (ht : t.length ≤ maxLen) (b : Nat) (L : List Bs) (w : World) (hs : Kset w b L) :
    Calls Tryz.prog 27 #[.func (.func 29) #[.map (some b)] #[], str t] w fun e w' => e = .returned (.bool (asks L t)) ∧ Below w.heap.size w w' := by
  have hcf : ∀ (v : Value) (w : World), (callFunc 29 #[.map (some b), v]).run Tryz.prog w = .ok (.enter 29 #[.map (some b), v]) w := fun v w => by kernel_rfl
  have HS := Lib.hid hs
  clear hs
  rcases h : term t with _ | T
  · have a1 := grd.termOf_no ⟨t.toArray⟩ (by show t.toArray.size ≤ maxLen; simpa using ht) h
    have HN := Lib.hid (asks_none (L := L) h)
    clear h hcf
    go_enter Tryz.func27, Tryz.ntmps27
    go_wp2_with fail
    refine (a1 _).mono ?_
    rintro e w1 ⟨rfl, hb⟩
    have HB := Lib.hid hb
    clear hb
    go_wp2_with fail
    go_ret
    exact ⟨by rw [HN.out]; rfl, HB.out⟩
  · have a1 := grd.termOf_yes ⟨t.toArray⟩ (by show t.toArray.size ≤ maxLen; simpa using ht) T h
    have hT := (term_some.1 h).2.1
    have hTl : T.tx.length ≤ 1000000 := by have := (term_some.1 h).1; rw [(term_some.1 h).2.2.2]; omega
    have px := pof.partOf_calls T hTl
    have bx := bds.builds_calls T hT hTl
    have HN := Lib.hid (asks_some (L := L) h)
    have BX := Lib.hid bx
    clear h bx
    obtain ⟨tt, vv, ev⟩ := val_iface T
    rw [ev] at px a1
    clear ev
    go_enter Tryz.func27, Tryz.ntmps27
    go_wp2_with fail
    refine (a1 _).mono ?_
    rintro e w1 ⟨rfl, hb⟩
    have HB := Lib.hid hb
    clear hb
    go_wp2_with fail
    refine (px _).mono ?_
    rintro e w2 ⟨⟨kt, ko, kad, kn, kc⟩, rfl, hb2, hp⟩
    have HB2 := Lib.hid (HB.out.trans (hb2.mono HB.out.size))
    have BC := Lib.hid (BX.out w2 b L _ ⟨kt, ko, kad, kn, kc⟩ (HS.out.below HB2.out HS.out.lt) hp (fun g hg => hg.2))
    simp only [El.v] at BC ⊢
    clear hb2 hp
    go_wp2_with fail
    refine BC.out.mono ?_
    rintro e w3 ⟨rfl, hb3⟩
    have HB3 := Lib.hid (HB2.out.trans (hb3.mono HB2.out.size))
    clear hb3
    go_wp2_with fail
    go_ret
    exact ⟨by rw [HN.out]; rfl, HB3.out⟩

def BEnd (ls : List Bs) (t : Bs) (w : World) (e : Ending) (w' : World) : Prop :=
  Below w.heap.size w w' ∧ ((∃ Ts, Kn ls Ts) ∧ e = .returned (.bool (asks ls t)) ∨ (∀ Ts, ¬ Kn ls Ts) ∧ e = .returned (.bool false))

theorem kn_set {ls : List Bs} {Ts : List Tm} (h : Kn ls Ts) : (Ts.map Tm.tx).Nodup ∧ (∀ T ∈ Ts, T.tx.length ≤ 1000000) ∧ Ts.length ≤ 1000000 := by
  refine ⟨by rw [← h.txs]; exact rise_nodup h.rise, fun T hT => by have := (term_some.1 (h.right T hT)).1; omega, ?_⟩
  have h1 := h.few
  rw [h.txs] at h1
  simp at h1
  omega

set_option maxHeartbeats 1000000 in
set_option maxRecDepth 100000 in
theorem implBuilds_calls (ad : Option Addr) (n cap : Nat) (ls : List Bs) (t : Bs) (ht : t.length ≤ maxLen) (w : World) (hn : n = ls.length) (h : Rds w (.slice ad n cap) ls) (hm : n ≤ maxLen) (hs : ∀ x ∈ ls, x.length ≤ maxLen) :
    Calls Tryz.prog 10 #[.slice ad n cap, str t] w (BEnd ls t w) := by
  have h1 := partsOf_calls ad n cap ls w hn h hm hs
  have hmf : ∀ (fn : Fn) (first cap : Array Value) (w : World), (Instr.makeFunc fn first cap).run Tryz.prog w = .ok (.func fn first cap) w := fun _ _ _ _ => rfl
  have H1 := Lib.hid h1
  clear h1 hn h hm hs
  go_enter Tryz.func10, Tryz.ntmps10
  go_wp2_with fail
  refine H1.out.mono ?_
  rintro e w1 ⟨hb, hk⟩
  have HB := Lib.hid hb
  clear hb
  rcases hk with ⟨Ts, v, es, hkn, rfl, hpt⟩ | ⟨hno, rfl⟩
  · have HK := Lib.hid hkn
    have KO := Lib.hid (knownOf_calls v _ Ts es w1 hpt (kn_set hkn).1 (kn_set hkn).2.1 (kn_set hkn).2.2)
    clear hkn hpt
    go_wp2_with fail
    refine KO.out.mono ?_
    rintro e w2 ⟨rfl, hb2, hs2⟩
    have HB2 := Lib.hid (HB.out.trans (hb2.mono HB.out.size))
    have BC := Lib.hid (built_calls t ht w1.heap.size _ w2 hs2)
    clear hb2 hs2
    go_wp2_with fail
    refine BC.out.mono ?_
    rintro e w3 ⟨rfl, hb3⟩
    have HB3 := Lib.hid (HB2.out.trans (hb3.mono HB2.out.size))
    clear hb3
    go_wp2_with fail
    go_ret
    exact ⟨HB3.out, .inl ⟨⟨Ts, HK.out⟩, by rw [HK.out.txs]; rfl⟩⟩
  · have HK := Lib.hid hno
    clear hno
    go_wp2_with fail
    go_ret
    exact ⟨HB.out, .inr ⟨HK.out, rfl⟩⟩

set_option maxHeartbeats 1000000 in
set_option maxRecDepth 100000 in
theorem specBuilds_calls (ad : Option Addr) (n cap : Nat) (ls : List Bs) (t : Bs) (ht : t.length ≤ maxLen) (w : World) (hn : n = ls.length) (h : Rds w (.slice ad n cap) ls) (hm : n ≤ maxLen) (hs : ∀ x ∈ ls, x.length ≤ maxLen) :
    Calls Tryz.prog 11 #[.slice ad n cap, str t] w (BEnd ls t w) := by
  have h1 := specKnownRight_calls ad n cap ls w hn h hm hs
  have h2 := fun w => srt.specTermRight_calls ⟨t.toArray⟩ (by show t.toArray.size ≤ maxLen; simpa using ht) w
  have H := Lib.hid h
  have H1 := Lib.hid h1
  have H2 := Lib.hid h2
  clear h1 h2 hn h hm hs
  go_enter Tryz.func11, Tryz.ntmps11
  go_wp2_with fail
  refine H1.out.mono ?_
  rintro e w1 ⟨hb, hk⟩
  have HB := Lib.hid hb
  clear hb
  rcases hk with ⟨hkn, rfl⟩ | ⟨hno, rfl⟩
  · obtain ⟨Ts, hkn⟩ := hkn
    have HK := Lib.hid hkn
    clear hkn
    go_wp2_with fail
    refine (H2.out _).mono ?_
    rintro e w2 ⟨rfl, hb2⟩
    have HB2 := Lib.hid (HB.out.trans (hb2.mono HB.out.size))
    clear hb2
    rcases hT : term t with _ | T
    · simp only [Option.isSome_none]
      have HN := Lib.hid (asks_none (L := ls) hT)
      clear hT
      go_wp2_with fail
      go_ret
      exact ⟨HB2.out, .inl ⟨⟨Ts, HK.out⟩, by rw [HN.out]; rfl⟩⟩
    · simp only [Option.isSome_some]
      have HN := Lib.hid (asks_some (L := ls) hT)
      have SB := Lib.hid (sin.specBuilds_in T (term_some.1 hT).2.1 (by have := (term_some.1 hT).1; rw [(term_some.1 hT).2.2.2]; exact this) w2 _ ls (Rds.below H.out HB2.out) (by have := HK.out.few; omega))
      rw [(term_some.1 hT).2.2.2] at SB
      clear hT
      go_wp2_with fail
      refine SB.out.mono ?_
      rintro e w3 ⟨rfl, hb3⟩
      have HB3 := Lib.hid (HB2.out.trans (hb3.mono HB2.out.size))
      clear hb3
      go_wp2_with fail
      go_ret
      exact ⟨HB3.out, .inl ⟨⟨Ts, HK.out⟩, by rw [HN.out]; rfl⟩⟩
  · have HK := Lib.hid hno
    clear hno
    go_wp2_with fail
    go_ret
    exact ⟨HB.out, .inr ⟨HK.out, rfl⟩⟩

#print axioms implBuilds_calls
#print axioms specBuilds_calls
end Go.Proofs.YtdikjmhnjlalbabGreat.bui
