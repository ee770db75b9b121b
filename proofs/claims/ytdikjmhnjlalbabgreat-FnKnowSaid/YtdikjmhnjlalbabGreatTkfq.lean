/- taken of the program: the least closed set. Written by wip/gen_tkf.py. -/
import Derived.Test.YtdikjmhnjlalbabGreatTknq
import Derived.Test.YtdikjmhnjlalbabGreatPsoq
import Derived.Laws.EntriesVeiled
namespace Go.Proofs.YtdikjmhnjlalbabGreat.tkf
open Go.RowKit Go.Proofs.YtdikjmhnjlalbabGreat.tm Go.Proofs.YtdikjmhnjlalbabGreat.lib Go.Proofs.YtdikjmhnjlalbabGreat.rdr Go.Proofs.YtdikjmhnjlalbabGreat.bld Go.Proofs.YtdikjmhnjlalbabGreat.app Go.Proofs.YtdikjmhnjlalbabGreat.mrs Go.Proofs.YtdikjmhnjlalbabGreat.kmp Go.Proofs.YtdikjmhnjlalbabGreat.kst Go.Proofs.YtdikjmhnjlalbabGreat.apb Go.Proofs.YtdikjmhnjlalbabGreat.prt Go.Proofs.YtdikjmhnjlalbabGreat.pso Go.Proofs.YtdikjmhnjlalbabGreat.tkn
set_option linter.unusedVariables false

theorem cnt_len (T : Tm) (s : St) (h : s.2.length ≤ s.1.length) : (tk T s).2.length ≤ (tk T s).1.length := by
  have := tk_len T s
  omega

/-- Behind k parts. -/
structure L1 (ls : List Bs) (Ts : List Tm) (B0 bm bT bC bF : Nat) (w wr : World) (k : Nat) (s : St) : Prop where
  le : k ≤ Ts.length
  tst : Tst B0 bm bT bC bF wr s
  inv : Inv ls ((Ts.take k).map Tm.tx) [] s
  cnt : s.2.length ≤ s.1.length
  tf : TF bm bC w wr

/-- At each turn of the outer loop: nb: how many there were. -/
structure L2 (ls : List Bs) (B0 bm bT bC bF : Nat) (w wr : World) (nb : Nat) (s : St) : Prop where
  tst : Tst B0 bm bT bC bF wr s
  inv : Inv ls ls [] s
  cnt : s.2.length ≤ s.1.length
  bel : Below B0 w wr
  le : nb ≤ s.1.length
  fin : s.1.length = nb → ∀ k x : Tm, .shut k x ∈ s.2 → bld (inn s.1) k = false

/-- At each turn of the inner loop: wz: the world when it began; tr: what is tried. -/
structure L3 (ls : List Bs) (B0 bm bT bC bF : Nat) (wz wr : World) (n0 : Nat) (tr : List Tm) (k : Nat) (s : St) : Prop where
  le : k ≤ tr.length
  tst : Tst B0 bm bT bC bF wr s
  inv : Inv ls ls (tr.drop k) s
  cnt : s.2.length + (tr.length - k) ≤ s.1.length
  tf : TF bm bC wz wr
  chk : Chk n0 s

theorem L3.open {ls : List Bs} {B0 bm bT bC bF : Nat} {wz wr w6 : World} {n0 : Nat} {tr : List Tm} {k : Nat} {s : St} (L : L3 ls B0 bm bT bC bF wz wr n0 tr k s) {kk xx : Tm} (hd : tr.drop k = .shut kk xx :: tr.drop (k + 1)) (hx : xx.ok)
    (hb : bld (inn s.1) kk = true) (ht : Tst B0 bm bT bC bF w6 (tk xx s)) (hf : TF bm bC wr w6) : L3 ls B0 bm bT bC bF wz w6 n0 tr (k + 1) (tk xx s) := by
  have h1 := congrArg List.length hd
  simp only [List.length_drop, List.length_cons] at h1
  have hi := L.inv
  rw [hd] at hi
  have h2 := tk_len xx s
  have h3 := L.cnt
  exact ⟨by omega, ht, hi.opened hb, by omega, L.tf.trans hf, L.chk.opened hx⟩

theorem L3.keep {ls : List Bs} {B0 bm bT bC bF : Nat} {wz wr w6 : World} {n0 : Nat} {tr : List Tm} {k : Nat} {s : St} (L : L3 ls B0 bm bT bC bF wz wr n0 tr k s) {kk xx : Tm} (hd : tr.drop k = .shut kk xx :: tr.drop (k + 1))
    (hb : bld (inn s.1) kk = false) (ht : Tst B0 bm bT bC bF w6 (s.1, s.2 ++ [.shut kk xx])) (hf : TF bm bC wr w6) : L3 ls B0 bm bT bC bF wz w6 n0 tr (k + 1) (s.1, s.2 ++ [.shut kk xx]) := by
  have h1 := congrArg List.length hd
  simp only [List.length_drop, List.length_cons] at h1
  have hi := L.inv
  rw [hd] at hi
  have h3 := L.cnt
  exact ⟨by omega, ht, hi.kept, by simp; omega, L.tf.trans hf, L.chk.kept hb⟩

theorem L3.done {ls : List Bs} {B0 bm bT bC bF : Nat} {w wz wr : World} {n0 : Nat} {tr : List Tm} {s : St} (L : L3 ls B0 bm bT bC bF wz wr n0 tr tr.length s) (hz : Tst B0 bm bT bC bF wz ([], []) ∨ ∃ s0, Tst B0 bm bT bC bF wz s0) (hb : Below B0 w wz) : L2 ls B0 bm bT bC bF w wr n0 s := by
  have hi := L.inv
  rw [List.drop_length] at hi
  have h3 := L.cnt
  have hl : Below B0 wz wr := by
    rcases hz with h | ⟨s0, h⟩ <;> exact L.tf.low h
  refine ⟨L.tst, hi, by omega, ?_, L.chk.1, L.chk.2⟩
  exact ⟨hl.os.trans hb.os, hl.tape.trans hb.tape, hl.output.trans hb.output, Nat.le_trans hb.size hl.size, fun g hg => (hl.block g hg).trans (hb.block g hg)⟩

theorem kn_bound {ls : List Bs} {Ts : List Tm} (hk : Kn ls Ts) {h : List Bs} {tr : List Tm} {s : St} (i : Inv ls h tr s) : s.1.length ≤ 60060 ∧ ∀ x ∈ s.1, ∃ T, term x = some T := by
  have h1 := bound hk.txs hk.right i.nd i.min
  have h2 := hk.few
  rw [hk.txs] at h2
  simp at h2
  exact ⟨by omega, h1.2⟩

theorem subs_small {T : Tm} (h : term T.tx = some T) : (subs T).length ≤ 1001 := by
  have := subs_len T (term_some.1 h).2.1
  have := (term_some.1 h).1
  omega

/-- A term that is there is right. -/
theorem inv_right {ls : List Bs} {Ts : List Tm} (hk : Kn ls Ts) {h : List Bs} {tr : List Tm} {s : St} (i : Inv ls h tr s) {U : Tm} (hU : U ∈ s.2 ∨ U ∈ tr) : term U.tx = some U := by
  obtain ⟨h1, h2, _⟩ := i.mine U hU
  obtain ⟨T, hT⟩ := (kn_bound hk i).2 _ h2
  have e := (term_some.1 hT).2.2.2
  rw [tx_inj (term_some.1 hT).2.1 h1 e] at hT
  exact hT

theorem Tst.start (w : World) : Tst w.heap.size w.heap.size (w.heap.size + 1) (w.heap.size + 1 + 1) (w.heap.size + 1 + 1 + 1)
    ((((w.alloc (.map #[] 0)).alloc (.cells #[.map (some w.heap.size)] 43)).alloc (.cells #[.slice none 0 0] 37)).alloc (.cells #[fnV (w.heap.size + 1) (w.heap.size + 1 + 1 + 1) (w.heap.size + 1 + 1)] 62)) ([], []) := by
  have k0 := Kset.made w
  have b1 := bds.new1 (w.alloc (.map #[] 0)) (.cells #[.map (some w.heap.size)] 43)
  have b2 := bds.new1 ((w.alloc (.map #[] 0)).alloc (.cells #[.map (some w.heap.size)] 43)) (.cells #[.slice none 0 0] 37)
  have b3 := bds.new1 (((w.alloc (.map #[] 0)).alloc (.cells #[.map (some w.heap.size)] 43)).alloc (.cells #[.slice none 0 0] 37)) (.cells #[fnV (w.heap.size + 1) (w.heap.size + 1 + 1 + 1) (w.heap.size + 1 + 1)] 62)
  refine ⟨⟨Nat.le_refl _, by omega, by omega, by omega, by simp⟩, ?_, ?_, ?_, _, [], ?_, ⟨Els.nil _ _, rfl, by intro j U e h; simp at h⟩⟩
  · rw [b3.block _ (by simp), b2.block _ (by simp)]
    have := heap_alloc_new (w.alloc (.map #[] 0)) (.cells #[.map (some w.heap.size)] 43)
    simpa using this
  · have := heap_alloc_new (((w.alloc (.map #[] 0)).alloc (.cells #[.map (some w.heap.size)] 43)).alloc (.cells #[.slice none 0 0] 37)) (.cells #[fnV (w.heap.size + 1) (w.heap.size + 1 + 1 + 1) (w.heap.size + 1 + 1)] 62)
    simpa using this
  · exact ((k0.same (b1.block _ k0.lt)).same (b2.block _ (by simp; omega))).same (b3.block _ (by simp; omega))
  · rw [b3.block _ (by simp)]
    have := heap_alloc_new ((w.alloc (.map #[] 0)).alloc (.cells #[.map (some w.heap.size)] 43)) (.cells #[.slice none 0 0] 37)
    simpa using this

/-- The list of what is shut is emptied. -/
theorem Tst.reset {B0 bm bT bC bF : Nat} {w : World} {s : St} (t : Tst B0 bm bT bC bF w s) : Tst B0 bm bT bC bF (w.setCell ⟨bC, 0, none⟩ (.slice none 0 0)) (s.1, []) := by
  obtain ⟨o1, o2, o3, o4, o5⟩ := t.ord
  obtain ⟨v, es, r1, r2⟩ := t.row
  have hb : ∀ g, g ≠ bC → (w.setCell ⟨bC, 0, none⟩ (.slice none 0 0)).heap[g]? = w.heap[g]? := fun g hg => Below.heap_setCell _ _ _ _ hg
  exact ⟨⟨o1, o2, o3, o4, by simpa [World.setCell] using o5⟩, (hb bT (by omega)).trans t.cT, (hb bF (by omega)).trans t.cF, t.set.same (hb bm (by omega)), _, [], set_block (cur := #[v]) r1 0 _, ⟨Els.nil _ _, rfl, by intro j U e h; simp at h⟩⟩

theorem no_row {w : World} {bC : Nat} (h : w.heap[bC]? = some (.cells #[.slice none 0 0] 37 (0, 0))) (g : Nat) : ¬ rowOf w bC g := fun ⟨v, h1, h2⟩ => by
  rw [h] at h1
  cases h1
  simp [Value.ownBlock] at h2

set_option maxHeartbeats 4000000 in
set_option maxRecDepth 100000 in
theorem taken_calls (v : Value) (B : Nat) (ls : List Bs) (Ts : List Tm) (es : List El) (w : World) (hp : Pts w B v Ts es) (hk : Kn ls Ts) :
    Calls Tryz.prog 28 #[v] w fun e w' => ∃ bm L, e = .returned (.map (some bm)) ∧ Below w.heap.size w w' ∧ Kset w' bm L ∧ w.heap.size ≤ bm ∧ Least ls L := by
  have hmm := @run_makeMap Tryz.prog
  have hmf : ∀ (fn : Fn) (first cap : Array Value) (w : World), (Instr.makeFunc fn first cap).run Tryz.prog w = .ok (.func fn first cap) w := fun _ _ _ _ => rfl
  have hes := hp.len
  have hfew : Ts.length ≤ 60 := by have := hk.few; rw [hk.txs] at this; simpa using this
  obtain ⟨n, hN⟩ : ∃ n, n = Ts.length := ⟨_, rfl⟩
  have hv : ∃ ad cap, v = .slice ad n cap ∧ (∀ j T, Ts[j]? = some T → ∃ g e, ad = some ⟨g, 0, none⟩ ∧ g < w.heap.size ∧ Lies w g (j * 3) e ∧ Prt w (fun g => g < w.heap.size) T e) := by
    rcases hp.own.form with ⟨rfl, h⟩ | ⟨g, cap, rfl, h1, h2⟩
    · refine ⟨none, 0, by rw [hN, ← hes, h]; rfl, fun j T hj => ?_⟩
      rw [h] at hes
      have := List.eq_nil_of_length_eq_zero hes.symm
      rw [this] at hj
      simp at hj
    · refine ⟨some ⟨g, 0, none⟩, cap, by rw [hN, hes], fun j T hj => ?_⟩
      have hj' : j < es.length := by rw [hes]; exact (List.getElem?_eq_some_iff.1 hj).1
      have he := List.getElem?_eq_getElem hj'
      exact ⟨g, es[j], rfl, h2, hp.own.at_ (g := g) rfl he, (hp.prt j T _ hj he).same (fun g hg => ⟨rfl, hg.2.1⟩) _ _⟩
  obtain ⟨ad, cap, rfl, hat⟩ := hv
  have HN := Lib.hid hN
  have HA := Lib.hid hat
  have HK := Lib.hid hk
  rw [← hN] at hfew
  clear hp hes hat hN hk
  go_enter Tryz.func28, Tryz.ntmps28
  go_wp2_with fail
  have T0 := Tst.start w
  unfold fnV at T0
  have B0' : Below w.heap.size w ((((w.alloc (.map #[] 0)).alloc (.cells #[.map (some w.heap.size)] 43)).alloc (.cells #[.slice none 0 0] 37)).alloc (.cells #[.func (.func 42) #[] #[.pointer (some ⟨w.heap.size + 1, 0, none⟩), .pointer (some ⟨w.heap.size + 1 + 1 + 1, 0, none⟩), .pointer (some ⟨w.heap.size + 1 + 1, 0, none⟩)]] 62)) :=
    ((((Below.refl _ _).alloc (Nat.le_refl _) _).alloc (by simp) _).alloc (by simp; omega) _).alloc (by simp; omega) _
  generalize hW : ((((w.alloc (.map #[] 0)).alloc (.cells #[.map (some w.heap.size)] 43)).alloc (.cells #[.slice none 0 0] 37)).alloc (.cells #[.func (.func 42) #[] #[.pointer (some ⟨w.heap.size + 1, 0, none⟩), .pointer (some ⟨w.heap.size + 1 + 1 + 1, 0, none⟩), .pointer (some ⟨w.heap.size + 1 + 1, 0, none⟩)]] 62)) = W0 at T0 B0' ⊢
  clear hW
  generalize w.heap.size + 1 + 1 + 1 = bF at T0 ⊢
  generalize w.heap.size + 1 + 1 = bC at T0 ⊢
  generalize w.heap.size + 1 = bT at T0 ⊢
  have HT0 := Lib.hid T0
  have HB0 := Lib.hid B0'
  have hcf : ∀ (v : Value) (w : World), (callFunc 42 #[v, .pointer (some ⟨bT, 0, none⟩), .pointer (some ⟨bF, 0, none⟩), .pointer (some ⟨bC, 0, none⟩)]).run Tryz.prog w = .ok (.enter 42 #[v, .pointer (some ⟨bT, 0, none⟩), .pointer (some ⟨bF, 0, none⟩), .pointer (some ⟨bC, 0, none⟩)]) w := fun v w => by kernel_rfl
  clear T0 B0' hmm hmf
  go_loopw [7, 16, 17, 18, 19, 20, 21, 22, 23] (fun _ vk _ _ _ _ _ _ _ wr => ∃ k s, vk = .int .i64 (k : Nat) ∧ L1 ls Ts w.heap.size w.heap.size bT bC bF W0 wr k s) (fun _ vk _ _ _ _ _ _ _ _ => n - (intOf vk).toNat)
  case atStart => exact ⟨0, ([], []), rfl, Nat.zero_le _, HT0.out, Inv.start ls, Nat.le_refl _, TF.of_below (Below.refl _ _) (by have := HT0.out.ord; omega)⟩
  case round =>
    obtain ⟨k, s, rfl, L⟩ := hrel
    have HL := Lib.hid L
    have hk : k ≤ n := by have := L.le; have := HN.out; omega
    clear L
    by_cases hlt : k < n
    · obtain ⟨T, hT⟩ : ∃ T, Ts[k]? = some T := ⟨_, List.getElem?_eq_getElem (by have := HN.out; omega)⟩
      obtain ⟨g, ⟨kt, ko, kad, kn, kc⟩, rfl, hg, hlies, hprt⟩ := HA.out k T hT
      have hBr : Below w.heap.size w wr := HB0.out.trans (HL.out.tf.low HT0.out)
      obtain ⟨m0, m1, m2⟩ := hlies.same (hBr.block g hg)
      have hgr : g < wr.heap.size := by have := hBr.size; omega
      have hA := bds.new1 wr (.cells #[str kt, str ko, .slice kad kn kc] 53)
      have hkr := HK.out.right T (List.mem_of_getElem? hT)
      have hbd := (kn_bound HK.out HL.out.inv).1
      have htk := tk_all T (term_some.1 hkr).2.1 (by have := (term_some.1 hkr).1; omega) _ w.heap.size w.heap.size bT bC bF s ⟨kt, ko, kad, kn, kc⟩ (HL.out.tst.below hA) (hprt.same (fun g hg => ⟨(hA.block g (by have := hBr.size; omega)).trans (hBr.block g hg), hg⟩) _ _) (by have := subs_small hkr; omega) HL.out.cnt
      simp only [El.v] at htk
      obtain ⟨cF, _, hbF⟩ := cell_one HL.out.tst.cF
      unfold fnV at cF
      have TKH := Lib.hid htk
      have HTT := Lib.hid hT
      have HR := Lib.hid hkr
      have HAA := Lib.hid (TF.of_below (bm := w.heap.size) hA (by have := HL.out.tst.ord; omega : bC < wr.heap.size))
      clear htk hT hkr hlies hprt hBr hA hbd
      simp only at m0 m1 m2
      go_wp2_with fail
      refine TKH.out.mono ?_
      rintro e w4 ⟨rfl, ht4, hf4⟩
      have HT4 := Lib.hid ht4
      have HF4 := Lib.hid (HL.out.tf.trans (HAA.out.trans hf4))
      clear ht4 hf4 m0 m1 m2 cF
      go_wp2_with fail
      go_roundw
      case rel =>
        refine ⟨k + 1, tk T s, by simp, by have := HN.out; omega, HT4.out, ?_, cnt_len T s HL.out.cnt, HF4.out⟩
        have hi := HL.out.inv.take (tr' := []) (term_some.1 HR.out).2.1 (fun X h1 _ => h1 _ (by rw [HK.out.txs]; exact List.mem_map.2 ⟨T, List.mem_of_getElem? HTT.out, rfl⟩)) (fun U h => h) (fun U h => by cases h)
        rw [List.take_add_one, HTT.out]
        simpa using hi
      case measure => simp [intOf]; omega
    · have e : k = n := by omega
      subst e
      have hinv := HL.out.inv
      rw [List.take_of_length_le (by have := HN.out; omega), ← HK.out.txs] at hinv
      have L20 : L2 ls w.heap.size w.heap.size bT bC bF w wr 0 s := ⟨HL.out.tst, hinv, HL.out.cnt, HB0.out.trans (HL.out.tf.low HT0.out), Nat.zero_le _, fun h0 k x hx => by
        have h1 := HL.out.cnt
        have h2 := List.length_pos_of_mem hx
        omega⟩
      have HL2 := Lib.hid L20
      clear hinv L20
      go_wp2_with fail
      go_loopw [8, 9, 11, 24, 25, 26, 27, 28, 29, 30, 31, 32, 33, 34, 35, 36, 37, 38, 39, 40, 41, 42, 43, 44, 45, 46, 47, 48, 49, 50, 51, 52, 53, 54, 55] (fun v8 _ _ _ _ _ _ _ _ _ _ _ _ _ _ _ _ _ _ _ _ _ _ _ _ _ _ _ _ _ _ _ _ _ _ wr => ∃ nb s, v8 = .int .i64 (nb : Nat) ∧ L2 ls w.heap.size w.heap.size bT bC bF w wr nb s) (fun v8 _ _ _ _ _ _ _ _ _ _ _ _ _ _ _ _ _ _ _ _ _ _ _ _ _ _ _ _ _ _ _ _ _ _ _ => 100000 - (intOf v8).toNat)
      case atStart => exact ⟨0, s, rfl, HL2.out⟩
      case round =>
        obtain ⟨nb, s, rfl, M⟩ := hrel
        have HM := Lib.hid M
        have hbd := (kn_bound HK.out M.inv).1
        have hnb := M.le
        obtain ⟨cT, fT, hbT⟩ := cell_one M.tst.cT
        have hln := fun ty => M.tst.set.len ty
        obtain ⟨v9, es9, r1, r2⟩ := M.tst.row
        obtain ⟨c9, f9, hb9⟩ := cell_one r1
        obtain ⟨ad9, cap9, rfl⟩ : ∃ ad cap, v9 = .slice ad es9.length cap := by
          rcases r2.own.form with ⟨rfl, e⟩ | ⟨g, cap, e, _⟩
          · exact ⟨none, 0, by rw [e]; rfl⟩
          · exact ⟨_, _, e⟩
        obtain ⟨n9, hn9⟩ : ∃ n, n = es9.length := ⟨_, rfl⟩
        rw [← hn9] at c9
        have hn9' : n9 ≤ 60060 := by have := M.cnt; have := r2.len; omega
        have H9 := Lib.hid hn9
        have R9 := Lib.hid r2
        have RC9 := Lib.hid r1
        clear M r1 r2 hn9
        by_cases hlt2 : nb < s.1.length
        · go_wp2_with fail
          have WZ := tkf.Tst.reset HM.out.tst
          have hz0 : (wr.setCell ⟨bC, 0, none⟩ (.slice none 0 0)).heap[bC]? = some (.cells #[.slice none 0 0] 37 (0, 0)) := set_block (cur := #[.slice ad9 es9.length cap9]) RC9.out 0 _
          have hzb : ∀ g, g ≠ bC → (wr.setCell ⟨bC, 0, none⟩ (.slice none 0 0)).heap[g]? = wr.heap[g]? := fun g hg => Below.heap_setCell _ _ _ _ hg
          have hzs : (wr.setCell ⟨bC, 0, none⟩ (.slice none 0 0)).heap.size = wr.heap.size := by simp [World.setCell]
          have hbz : Below w.heap.size w (wr.setCell ⟨bC, 0, none⟩ (.slice none 0 0)) := HM.out.bel.setCell (show w.heap.size ≤ bC by have := HM.out.tst.ord; omega) _
          have I0 : L3 ls w.heap.size w.heap.size bT bC bF (wr.setCell ⟨bC, 0, none⟩ (.slice none 0 0)) (wr.setCell ⟨bC, 0, none⟩ (.slice none 0 0)) s.1.length s.2 0 (s.1, []) :=
            ⟨Nat.zero_le _, WZ, HM.out.inv.again, by have := HM.out.cnt; simpa using this, TF.of_below (Below.refl _ _) (by have := WZ.ord; omega), Chk.start _⟩
          have R9z := R9.out.same (w' := wr.setCell ⟨bC, 0, none⟩ (.slice none 0 0)) (fun g hg => hzb g (by have := HM.out.tst.ord; omega)) fun g hg => hzb g (by have := World.ownsRow.lt R9.out.own g hg; have := HM.out.tst.ord; omega)
          generalize (wr.setCell ⟨bC, 0, none⟩ (.slice none 0 0)) = wz at WZ hz0 hbz I0 R9z hzs ⊢
          have HI0 := Lib.hid I0
          have HR9 := Lib.hid R9z
          have HZ0 := Lib.hid hz0
          have HBZ := Lib.hid hbz
          clear WZ hz0 hzb hbz I0 R9z cT fT hln c9 f9
          go_loopw [11, 33, 34, 35, 36, 37, 38, 39, 40, 41, 42, 43, 44, 45, 46, 47, 48, 49, 50, 51, 52, 53, 54, 55] (fun _ v33 _ _ _ _ _ _ _ _ _ _ _ _ _ _ _ _ _ _ _ _ _ _ wr => ∃ k s', v33 = .int .i64 (k : Nat) ∧ L3 ls w.heap.size w.heap.size bT bC bF wz wr s.1.length s.2 k s') (fun _ v33 _ _ _ _ _ _ _ _ _ _ _ _ _ _ _ _ _ _ _ _ _ _ _ => n9 - (intOf v33).toNat)
          case atStart => exact ⟨0, (s.1, []), rfl, HI0.out⟩
          case round =>
            obtain ⟨k, s', rfl, I⟩ := hrel
            have HI := Lib.hid I
            have hkl := I.le
            have hl9 : n9 = s.2.length := by have := H9.out; have := HR9.out.len; omega
            clear I
            by_cases hlt3 : k < n9
            · obtain ⟨U, hU⟩ : ∃ U, s.2[k]? = some U := ⟨_, List.getElem?_eq_getElem (by omega)⟩
              obtain ⟨e9, he9⟩ : ∃ e, es9[k]? = some e := ⟨_, List.getElem?_eq_getElem (by have := HR9.out.len; omega)⟩
              have hdr : s.2.drop k = U :: s.2.drop (k + 1) := by
                obtain ⟨h1, h2⟩ := List.getElem?_eq_some_iff.1 hU
                rw [← h2]; exact List.drop_eq_getElem_cons h1
              have hinv := HI.out.inv
              rw [hdr] at hinv
              have hright := inv_right HK.out hinv (U := U) (.inr (by simp))
              obtain ⟨_, _, kk, xx, rfl⟩ := hinv.mine U (.inr (by simp))
              obtain ⟨g9, rfl⟩ : ∃ g, ad9 = some ⟨g, 0, none⟩ := by
                rcases HR9.out.own.form with ⟨e, h⟩ | ⟨g, cap, e, _⟩
                · rw [h] at he9; simp at he9
                · cases e; exact ⟨g, rfl⟩
              have hg9 := World.ownsRow.lt HR9.out.own g9 rfl
              have ho9 := HI.out.tst.ord
              have hzsz := HI.out.tf.size
              have hrow : wr.heap[g9]? = wz.heap[g9]? := HI.out.tf.block g9 hg9.2 (by omega) (by omega) (no_row HZ0.out g9)
              have hlow : ∀ g, g < w.heap.size → wr.heap[g]? = wz.heap[g]? := fun g hg => HI.out.tf.block g (by have := HBZ.out.size; omega) (by omega) (by omega) (no_row HZ0.out g)
              obtain ⟨m0, m1, m2⟩ := (HR9.out.own.at_ (g := g9) rfl he9).same hrow
              have hpr := (HR9.out.prt k _ e9 hU he9).same (w' := wr) (C' := fun g => g < w.heap.size) (fun g hg => ⟨hlow g hg, hg⟩)
              obtain ⟨et, eo, ead, en, ec⟩ := e9
              obtain ⟨e1, e2, e3, ga, e4, hga, ⟨t0, o0, ad0, n0, c0⟩, ⟨t1, o1, ad1, n1, c1⟩, l0, l1, p0, p1⟩ := hpr
              simp only at e1 e2 e3 e4 m0 m1 m2
              subst e1 e2 e3 e4
              obtain ⟨a0, a1, a2⟩ := l0
              obtain ⟨b0, b1, b2⟩ := l1
              simp only [Nat.zero_add] at a1 a2
              simp only at a0 a1 a2 b0 b1 b2
              obtain ⟨X, hX⟩ : ∃ X, X = Tm.tx (.shut kk xx) := ⟨_, rfl⟩
              rw [← hX] at m0
              obtain ⟨cT, _, hbT'⟩ := cell_one HI.out.tst.cT
              have hA := bds.new1 wr (.cells #[str X, str oShut, .slice (some ⟨ga, 0, none⟩) 2 ec] 53)
              have hgaw : ga < wr.heap.size := by have := HBZ.out.size; omega
              have hg9w : g9 < wr.heap.size := by omega
              obtain ⟨w4, hw4⟩ : ∃ W, W = wr.alloc (.cells #[str X, str oShut, .slice (some ⟨ga, 0, none⟩) 2 ec] 53) := ⟨_, rfl⟩
              have x2 : w4.cell? ⟨wr.heap.size, 2, none⟩ = some (.slice (some ⟨ga, 0, none⟩) 2 ec) := by rw [hw4]; simp [go_sem]
              have xb : w4.heap[wr.heap.size]? = some (.cells #[str X, str oShut, .slice (some ⟨ga, 0, none⟩) 2 ec] 53 (0, 0)) := by rw [hw4]; exact heap_alloc_new wr _
              have hA4 : Below wr.heap.size wr w4 := by rw [hw4]; exact hA
              have xT : w4.cell? ⟨bT, 0, none⟩ = some (.map (some w.heap.size)) := by rw [hA4.cell (p := ⟨bT, 0, none⟩) hbT']; exact cT
              have y0 : w4.cell? ⟨ga, 0, none⟩ = some (str t0) := by rw [hA4.cell (p := ⟨ga, 0, none⟩) hgaw]; exact a0
              have y1 : w4.cell? ⟨ga, 1, none⟩ = some (str o0) := by rw [hA4.cell (p := ⟨ga, 1, none⟩) hgaw]; exact a1
              have y2 : w4.cell? ⟨ga, 2, none⟩ = some (.slice ad0 n0 c0) := by rw [hA4.cell (p := ⟨ga, 2, none⟩) hgaw]; exact a2
              have hxr : Lies wr ga 3 ⟨t1, o1, ad1, n1, c1⟩ := ⟨b0, b1, b2⟩
              have T4 := HI.out.tst.below hA4
              have hkr := term_kid hright (k := kk) (by simp [Tm.kids])
              have hxxr := term_kid hright (k := xx) (by simp [Tm.kids])
              have hlen4 : wr.heap.size < w4.heap.size := by rw [hw4]; simp
              have bd := bds.builds_calls kk (term_some.1 hkr).2.1 (by have := (term_some.1 hkr).1; omega) w4.drew w.heap.size s'.1 (fun g => g < w.heap.size) ⟨t0, o0, ad0, n0, c0⟩ (T4.set.same rfl) (p0.same (w' := w4.drew) (fun g hg => ⟨hA4.block g (by have := HBZ.out.size; omega), hg⟩) _ _) (fun g hg => by show g < w4.heap.size; have := HBZ.out.size; omega)
              simp only [El.v] at bd
              have BD := Lib.hid bd
              have HT4 := Lib.hid T4
              have HA4 := Lib.hid hA4
              have HXR := Lib.hid hxr
              have P1 := Lib.hid p1
              have P0 := Lib.hid p0
              have HINV := Lib.hid hinv
              have HRT := Lib.hid hright
              have HXX := Lib.hid hxxr
              have HXB := Lib.hid xb
              have HXE := Lib.hid hX
              have HDR := Lib.hid hdr
              have HLOW := Lib.hid hlow
              have PAA := Lib.hid (show ∀ W, (∀ g, g < w.heap.size → W.heap[g]? = wr.heap[g]?) → Prt W (fun g => g < w.heap.size) (.shut kk xx) ⟨X, oShut, some ⟨ga, 0, none⟩, 2, ec⟩ from fun W hW => ⟨hX, rfl, rfl, ga, rfl, hga, _, _, ⟨(World.cell?_of_block (hW ga hga)).trans a0, (World.cell?_of_block (hW ga hga)).trans (by simpa using a1), (World.cell?_of_block (hW ga hga)).trans (by simpa using a2)⟩, hxr.same (hW ga hga), p0.same (fun g hg => ⟨hW g hg, hg⟩) _ _, p1.same (fun g hg => ⟨hW g hg, hg⟩) _ _⟩)
              have hga4 : ga < w4.heap.size := by omega
              have hbr := (kn_bound HK.out HI.out.inv).1
              have HL9 := Lib.hid hl9
              clear hl9
              clear T4 hA4 hA hxr p0 p1 hinv hright hkr hxxr xb bd a0 a1 a2 b0 b1 b2 hrow hlow hdr hU he9 hX cT
              unfold oShut at *
              go_wp2_with fail
              rw [← hw4]
              clear hw4 m0 m1 m2
              refine wp_region_still_tail 5 (by kernel_rfl) (by kernel_rfl) ?_
              simp only [List.take_succ_cons, List.take_zero, List.drop_succ_cons, List.drop_zero]
              change wpStill _ _ w4.drew (fun a' => wpList _ _ _ _ a' w4.drew) _ _
              repeat still_step
              refine wpStill_nil ?_
              go_wp2_with fail
              refine BD.out.mono ?_
              rintro e w5 ⟨rfl, hb5'⟩
              have hb5 : Below w4.heap.size w4 w5 := ⟨hb5'.os, hb5'.tape, hb5'.output, hb5'.size, hb5'.block⟩
              have HT5 := Lib.hid (HT4.out.below hb5)
              have HF5 := Lib.hid (TF.of_below (bm := w.heap.size) (bC := bC) (HA4.out.trans (hb5.mono HA4.out.size)) (by have := HI.out.tst.ord; omega))
              have hA5 : Below wr.heap.size wr w5 := HA4.out.trans (hb5.mono HA4.out.size)
              have v2 : w5.cell? ⟨wr.heap.size, 2, none⟩ = some (.slice (some ⟨ga, 0, none⟩) 2 ec) := by rw [hb5.cell (p := ⟨wr.heap.size, 2, none⟩) hlen4]; exact x2
              have vb := (hb5.block wr.heap.size hlen4).trans HXB.out
              obtain ⟨vx0, vx1, vx2, _, _, _, hbx5⟩ := pof.three vb
              have hlow5 : ∀ g, g < w.heap.size → w5.heap[g]? = wr.heap[g]? := fun g hg => hA5.block g (by have := HBZ.out.size; omega)
              obtain ⟨b0, b1, b2⟩ := HXR.out.same (hlow5 ga hga)
              simp only at b0 b1 b2
              have hga5 : ga < w5.heap.size := by omega
              obtain ⟨cF, _, hbF5⟩ := cell_one HT5.out.cF
              unfold fnV at cF
              have HL5 := Lib.hid hlow5
              clear hb5' hb5 hA5 vb x2 xT y0 y1 y2 vx2
              cases hbl : kmp.bld (inn s'.1) kk with
              | true =>
                have HBL := Lib.hid hbl
                have htk := tk_all xx (term_some.1 HXX.out).2.1 (by have := (term_some.1 HXX.out).1; omega) w5.drew w.heap.size w.heap.size bT bC bF s' ⟨t1, o1, ad1, n1, c1⟩ (HT5.out.below (drew_below _)) (P1.out.same (w' := w5.drew) (fun g hg => ⟨HL5.out g hg, hg⟩) _ _) (by have := subs_small HXX.out; omega) (by have := HI.out.cnt; omega)
                simp only [El.v] at htk
                have HTK := Lib.hid htk
                clear htk hbl hlow5
                go_wp2_with fail
                refine wp_region_still_tail 5 (by kernel_rfl) (by kernel_rfl) ?_
                simp only [List.take_succ_cons, List.take_zero, List.drop_succ_cons, List.drop_zero]
                change wpStill _ _ w5.drew (fun a' => wpList _ _ _ _ a' w5.drew) _ _
                repeat still_step
                refine wpStill_nil ?_
                go_wp2_with fail
                refine HTK.out.mono ?_
                rintro e w6 ⟨rfl, ht6, hf6'⟩
                have hf6 : TF w.heap.size bC w5 w6 := ⟨hf6'.os, hf6'.tape, hf6'.output, hf6'.size, hf6'.block, hf6'.row⟩
                have OPENED := Lib.hid (HI.out.open HDR.out (term_some.1 HXX.out).2.1 HBL.out ht6 (HF5.out.trans hf6))
                clear hf6' hf6 ht6 v2 vx0 vx1 b0 b1 b2 cF
                go_wp2_with fail
                go_roundw
                case rel => exact ⟨k + 1, _, by simp, OPENED.out⟩
                case measure => simp [intOf]; omega
              | false =>
                have HBL := Lib.hid hbl
                obtain ⟨vc, esc, r1, r2⟩ := HT5.out.row
                have o3 := HT5.out.ord
                obtain ⟨cC, fC, hbC⟩ := cell_one r1
                obtain ⟨cad, cc, rfl⟩ : ∃ vad vc', vc = .slice vad esc.length vc' := by
                  rcases r2.own.form with ⟨rfl, e⟩ | ⟨g, cap, e, _⟩
                  · exact ⟨none, 0, by rw [e]; rfl⟩
                  · exact ⟨_, _, e⟩
                have hesc : esc.length + 1 ≤ 1000000 := by have := r2.len; have := HI.out.cnt; omega
                have PP := Lib.hid (PAA.out w5 HL5.out)
                have NC := Lib.hid (show (Value.slice cad esc.length cc).ownBlock ≠ some bC from fun e => by have := World.ownsRow.lt r2.own _ e; omega)
                have R1 := Lib.hid r1
                have R2 := Lib.hid r2
                have HTR := Lib.hid HDR.out
                have q2 := v2
                clear r1 r2 hbl hlow5 b0 b1 b2 v2
                go_wp2_with fail
                refine wp_region_any (by kernel_rfl) ?_
                change wpAny _ _ _ _ _ _ _ (World.drew _)
                refine wpAny_ready (rs := [0, 1, 3]) (by kernel_rfl) (by simp) ?_
                refine AllReady.cons rfl (fun K hK => ?_) ?_
                · go_simp
                  refine hK _ _ ?_
                  clear hK K
                  refine wpAny_take (i := 2) (v := ?_) rfl (by kernel_rfl) (by kernel_rfl) (by kernel_rfl) (fun _ _ _ h => h) (Or.inl ⟨by rfl, ?_⟩) ?_
                  rotate_left
                  · intro w; go_simp; first | done | with_reducible rfl
                  refine wpAny_ready (rs := [1, 3]) (by kernel_rfl) (by simp) ?_
                  refine AllReady.cons rfl (fun K hK => ?_) ?_
                  · go_simp
                    refine hK _ _ ?_
                    clear hK K
                    refine wpAny_ready (rs := [3]) (by kernel_rfl) (by simp) ?_
                    refine AllReady.cons rfl (fun K hK => ?_) AllReady.nil
                    go_simp
                    refine hK _ _ ?_
                    clear hK K
                    refine wpAny_ready (rs := [4]) (by kernel_rfl) (by simp) ?_
                    refine AllReady.cons rfl (fun K hK => ?_) AllReady.nil
                    refine (if_pos (by rfl)).mpr ?_
                    refine op_zero (w := w5.drew) (.tmp 49) (.tmp 52) (bF + 1) _ esc rfl rfl R2.out.own rfl hesc (by show bF + 1 ≤ w5.heap.size; omega) fun v6 w6 t6 a6 n6 => ?_
                    refine hK _ _ ?_
                    clear hK K
                    obtain ⟨g5, cap5, rfl⟩ : ∃ g5 cap5, v6 = .slice (some ⟨g5, 0, none⟩) (esc.length + 1) cap5 := by
                      rcases t6.form with ⟨_, e⟩ | ⟨g, cap, e, _⟩
                      · simp at e
                      · exact ⟨g, cap, by rw [e]; simp⟩
                    have a6' : mrs.Aside (Value.slice cad esc.length cc) w5 w6 := ⟨a6.os, a6.tape, a6.output, a6.size, a6.block⟩
                    obtain ⟨z0, z1, z2⟩ := t6.at_ (g := g5) rfl (j := esc.length) (k := El0) (by simp)
                    have hg5 := World.ownsRow.lt t6 g5 rfl
                    have hln : (esc.length : Int) < (esc.length : Int) + 1 := by omega
                    have hne1 : g5 ≠ bC := by omega
                    have hne2 : bC ≠ g5 := by omega
                    have zf : ∀ o, w6.frozen? ⟨g5, o, none⟩ = false := by
                      intro o
                      rcases t6.2 with ⟨e, _⟩ | ⟨g', cap', cur, e, _, hg, _⟩
                      · cases e
                      · simp only [Value.slice.injEq, Option.some.injEq, Addr.mk.injEq] at e
                        obtain ⟨⟨rfl, _⟩, _⟩ := e
                        simp [World.frozen?, hg]
                    have z3 := zf (esc.length * 3)
                    have z4 := zf (esc.length * 3 + 1)
                    have z5 := zf (esc.length * 3 + 2)
                    have hb6 : w6.heap[bC]? = w5.heap[bC]? := a6'.block bC hbC NC.out
                    have c6 : w6.cell? ⟨bC, 0, none⟩ = some (.slice cad esc.length cc) := (World.cell?_of_block hb6).trans cC
                    have f6 : w6.frozen? ⟨bC, 0, none⟩ = false := (World.frozen?_of_block (a := ⟨bC, 0, none⟩) hb6).trans fC
                    have FN := HT5.out.shutput R1.out R2.out t6 a6' (fun j e => n6 j e) PP.out
                    have KEPT := Lib.hid (HI.out.keep HTR.out HBL.out FN.1 (HF5.out.trans FN.2))
                    clear t6 a6 a6' n6 FN zf hb6
                    refine wpAny_take (i := 5) (v := ?_) rfl (by kernel_rfl) (by kernel_rfl) (by kernel_rfl) (fun _ _ _ h => h) (Or.inl ⟨by rfl, ?_⟩) ?_
                    rotate_left
                    · intro w; go_simp; first | done | with_reducible rfl
                    refine wpAny_ready (rs := [6, 7]) (by kernel_rfl) (by simp) ?_
                    refine AllReady.cons rfl (fun K hK => ?_) (AllReady.cons rfl (fun K hK => ?_) AllReady.nil)
                    · go_simp
                      refine hK _ _ ?_
                      clear hK K
                      refine wpAny_ready (rs := [7]) (by kernel_rfl) (by simp) ?_
                      refine AllReady.cons rfl (fun K hK => ?_) AllReady.nil
                      go_simp
                      refine hK _ _ ?_
                      clear hK K
                      refine wpAny_done (by kernel_rfl) ?_ _
                      go_wp2_with fail
                      go_roundw
                      case rel => exact ⟨k + 1, _, by simp, KEPT.out⟩
                      case measure => simp [intOf]; omega
                    · go_simp
                      refine hK _ _ ?_
                      clear hK K
                      refine wpAny_ready (rs := [6]) (by kernel_rfl) (by simp) ?_
                      refine AllReady.cons rfl (fun K hK => ?_) AllReady.nil
                      go_simp
                      refine hK _ _ ?_
                      clear hK K
                      refine wpAny_done (by kernel_rfl) ?_ _
                      go_wp2_with fail
                      rw [setCell_comm _ ⟨bC, 0, none⟩ ⟨g5, esc.length * 3, none⟩ _ _ hne2, setCell_comm _ ⟨bC, 0, none⟩ ⟨g5, esc.length * 3 + 1, none⟩ _ _ hne2, setCell_comm _ ⟨bC, 0, none⟩ ⟨g5, esc.length * 3 + 2, none⟩ _ _ hne2]
                      go_roundw
                      case rel => exact ⟨k + 1, _, by simp, KEPT.out⟩
                      case measure => simp [intOf]; omega
                  refine AllReady.cons rfl (fun K hK => ?_) AllReady.nil
                  go_simp
                  refine hK _ _ ?_
                  clear hK K
                  refine wpAny_ready (rs := [1]) (by kernel_rfl) (by simp) ?_
                  refine AllReady.cons rfl (fun K hK => ?_) AllReady.nil
                  go_simp
                  refine hK _ _ ?_
                  clear hK K
                  refine wpAny_ready (rs := [4]) (by kernel_rfl) (by simp) ?_
                  refine AllReady.cons rfl (fun K hK => ?_) AllReady.nil
                  refine (if_pos (by rfl)).mpr ?_
                  refine op_zero (w := w5.drew) (.tmp 49) (.tmp 52) (bF + 1) _ esc rfl rfl R2.out.own rfl hesc (by show bF + 1 ≤ w5.heap.size; omega) fun v6 w6 t6 a6 n6 => ?_
                  refine hK _ _ ?_
                  clear hK K
                  obtain ⟨g5, cap5, rfl⟩ : ∃ g5 cap5, v6 = .slice (some ⟨g5, 0, none⟩) (esc.length + 1) cap5 := by
                    rcases t6.form with ⟨_, e⟩ | ⟨g, cap, e, _⟩
                    · simp at e
                    · exact ⟨g, cap, by rw [e]; simp⟩
                  have a6' : mrs.Aside (Value.slice cad esc.length cc) w5 w6 := ⟨a6.os, a6.tape, a6.output, a6.size, a6.block⟩
                  obtain ⟨z0, z1, z2⟩ := t6.at_ (g := g5) rfl (j := esc.length) (k := El0) (by simp)
                  have hg5 := World.ownsRow.lt t6 g5 rfl
                  have hln : (esc.length : Int) < (esc.length : Int) + 1 := by omega
                  have hne1 : g5 ≠ bC := by omega
                  have hne2 : bC ≠ g5 := by omega
                  have zf : ∀ o, w6.frozen? ⟨g5, o, none⟩ = false := by
                    intro o
                    rcases t6.2 with ⟨e, _⟩ | ⟨g', cap', cur, e, _, hg, _⟩
                    · cases e
                    · simp only [Value.slice.injEq, Option.some.injEq, Addr.mk.injEq] at e
                      obtain ⟨⟨rfl, _⟩, _⟩ := e
                      simp [World.frozen?, hg]
                  have z3 := zf (esc.length * 3)
                  have z4 := zf (esc.length * 3 + 1)
                  have z5 := zf (esc.length * 3 + 2)
                  have hb6 : w6.heap[bC]? = w5.heap[bC]? := a6'.block bC hbC NC.out
                  have c6 : w6.cell? ⟨bC, 0, none⟩ = some (.slice cad esc.length cc) := (World.cell?_of_block hb6).trans cC
                  have f6 : w6.frozen? ⟨bC, 0, none⟩ = false := (World.frozen?_of_block (a := ⟨bC, 0, none⟩) hb6).trans fC
                  have FN := HT5.out.shutput R1.out R2.out t6 a6' (fun j e => n6 j e) PP.out
                  have KEPT := Lib.hid (HI.out.keep HTR.out HBL.out FN.1 (HF5.out.trans FN.2))
                  clear t6 a6 a6' n6 FN zf hb6
                  refine wpAny_take (i := 5) (v := ?_) rfl (by kernel_rfl) (by kernel_rfl) (by kernel_rfl) (fun _ _ _ h => h) (Or.inl ⟨by rfl, ?_⟩) ?_
                  rotate_left
                  · intro w; go_simp; first | done | with_reducible rfl
                  refine wpAny_ready (rs := [6, 7]) (by kernel_rfl) (by simp) ?_
                  refine AllReady.cons rfl (fun K hK => ?_) (AllReady.cons rfl (fun K hK => ?_) AllReady.nil)
                  · go_simp
                    refine hK _ _ ?_
                    clear hK K
                    refine wpAny_ready (rs := [7]) (by kernel_rfl) (by simp) ?_
                    refine AllReady.cons rfl (fun K hK => ?_) AllReady.nil
                    go_simp
                    refine hK _ _ ?_
                    clear hK K
                    refine wpAny_done (by kernel_rfl) ?_ _
                    go_wp2_with fail
                    go_roundw
                    case rel => exact ⟨k + 1, _, by simp, KEPT.out⟩
                    case measure => simp [intOf]; omega
                  · go_simp
                    refine hK _ _ ?_
                    clear hK K
                    refine wpAny_ready (rs := [6]) (by kernel_rfl) (by simp) ?_
                    refine AllReady.cons rfl (fun K hK => ?_) AllReady.nil
                    go_simp
                    refine hK _ _ ?_
                    clear hK K
                    refine wpAny_done (by kernel_rfl) ?_ _
                    go_wp2_with fail
                    rw [setCell_comm _ ⟨bC, 0, none⟩ ⟨g5, esc.length * 3, none⟩ _ _ hne2, setCell_comm _ ⟨bC, 0, none⟩ ⟨g5, esc.length * 3 + 1, none⟩ _ _ hne2, setCell_comm _ ⟨bC, 0, none⟩ ⟨g5, esc.length * 3 + 2, none⟩ _ _ hne2]
                    go_roundw
                    case rel => exact ⟨k + 1, _, by simp, KEPT.out⟩
                    case measure => simp [intOf]; omega
                refine AllReady.cons rfl (fun K hK => ?_) ?_
                · go_simp
                  refine hK _ _ ?_
                  clear hK K
                  refine wpAny_ready (rs := [0, 3]) (by kernel_rfl) (by simp) ?_
                  refine AllReady.cons rfl (fun K hK => ?_) ?_
                  · go_simp
                    refine hK _ _ ?_
                    clear hK K
                    refine wpAny_take (i := 2) (v := ?_) rfl (by kernel_rfl) (by kernel_rfl) (by kernel_rfl) (fun _ _ _ h => h) (Or.inl ⟨by rfl, ?_⟩) ?_
                    rotate_left
                    · intro w; go_simp; first | done | with_reducible rfl
                    refine wpAny_ready (rs := [3]) (by kernel_rfl) (by simp) ?_
                    refine AllReady.cons rfl (fun K hK => ?_) AllReady.nil
                    go_simp
                    refine hK _ _ ?_
                    clear hK K
                    refine wpAny_ready (rs := [4]) (by kernel_rfl) (by simp) ?_
                    refine AllReady.cons rfl (fun K hK => ?_) AllReady.nil
                    refine (if_pos (by rfl)).mpr ?_
                    refine op_zero (w := w5.drew) (.tmp 49) (.tmp 52) (bF + 1) _ esc rfl rfl R2.out.own rfl hesc (by show bF + 1 ≤ w5.heap.size; omega) fun v6 w6 t6 a6 n6 => ?_
                    refine hK _ _ ?_
                    clear hK K
                    obtain ⟨g5, cap5, rfl⟩ : ∃ g5 cap5, v6 = .slice (some ⟨g5, 0, none⟩) (esc.length + 1) cap5 := by
                      rcases t6.form with ⟨_, e⟩ | ⟨g, cap, e, _⟩
                      · simp at e
                      · exact ⟨g, cap, by rw [e]; simp⟩
                    have a6' : mrs.Aside (Value.slice cad esc.length cc) w5 w6 := ⟨a6.os, a6.tape, a6.output, a6.size, a6.block⟩
                    obtain ⟨z0, z1, z2⟩ := t6.at_ (g := g5) rfl (j := esc.length) (k := El0) (by simp)
                    have hg5 := World.ownsRow.lt t6 g5 rfl
                    have hln : (esc.length : Int) < (esc.length : Int) + 1 := by omega
                    have hne1 : g5 ≠ bC := by omega
                    have hne2 : bC ≠ g5 := by omega
                    have zf : ∀ o, w6.frozen? ⟨g5, o, none⟩ = false := by
                      intro o
                      rcases t6.2 with ⟨e, _⟩ | ⟨g', cap', cur, e, _, hg, _⟩
                      · cases e
                      · simp only [Value.slice.injEq, Option.some.injEq, Addr.mk.injEq] at e
                        obtain ⟨⟨rfl, _⟩, _⟩ := e
                        simp [World.frozen?, hg]
                    have z3 := zf (esc.length * 3)
                    have z4 := zf (esc.length * 3 + 1)
                    have z5 := zf (esc.length * 3 + 2)
                    have hb6 : w6.heap[bC]? = w5.heap[bC]? := a6'.block bC hbC NC.out
                    have c6 : w6.cell? ⟨bC, 0, none⟩ = some (.slice cad esc.length cc) := (World.cell?_of_block hb6).trans cC
                    have f6 : w6.frozen? ⟨bC, 0, none⟩ = false := (World.frozen?_of_block (a := ⟨bC, 0, none⟩) hb6).trans fC
                    have FN := HT5.out.shutput R1.out R2.out t6 a6' (fun j e => n6 j e) PP.out
                    have KEPT := Lib.hid (HI.out.keep HTR.out HBL.out FN.1 (HF5.out.trans FN.2))
                    clear t6 a6 a6' n6 FN zf hb6
                    refine wpAny_take (i := 5) (v := ?_) rfl (by kernel_rfl) (by kernel_rfl) (by kernel_rfl) (fun _ _ _ h => h) (Or.inl ⟨by rfl, ?_⟩) ?_
                    rotate_left
                    · intro w; go_simp; first | done | with_reducible rfl
                    refine wpAny_ready (rs := [6, 7]) (by kernel_rfl) (by simp) ?_
                    refine AllReady.cons rfl (fun K hK => ?_) (AllReady.cons rfl (fun K hK => ?_) AllReady.nil)
                    · go_simp
                      refine hK _ _ ?_
                      clear hK K
                      refine wpAny_ready (rs := [7]) (by kernel_rfl) (by simp) ?_
                      refine AllReady.cons rfl (fun K hK => ?_) AllReady.nil
                      go_simp
                      refine hK _ _ ?_
                      clear hK K
                      refine wpAny_done (by kernel_rfl) ?_ _
                      go_wp2_with fail
                      go_roundw
                      case rel => exact ⟨k + 1, _, by simp, KEPT.out⟩
                      case measure => simp [intOf]; omega
                    · go_simp
                      refine hK _ _ ?_
                      clear hK K
                      refine wpAny_ready (rs := [6]) (by kernel_rfl) (by simp) ?_
                      refine AllReady.cons rfl (fun K hK => ?_) AllReady.nil
                      go_simp
                      refine hK _ _ ?_
                      clear hK K
                      refine wpAny_done (by kernel_rfl) ?_ _
                      go_wp2_with fail
                      rw [setCell_comm _ ⟨bC, 0, none⟩ ⟨g5, esc.length * 3, none⟩ _ _ hne2, setCell_comm _ ⟨bC, 0, none⟩ ⟨g5, esc.length * 3 + 1, none⟩ _ _ hne2, setCell_comm _ ⟨bC, 0, none⟩ ⟨g5, esc.length * 3 + 2, none⟩ _ _ hne2]
                      go_roundw
                      case rel => exact ⟨k + 1, _, by simp, KEPT.out⟩
                      case measure => simp [intOf]; omega
                  refine AllReady.cons rfl (fun K hK => ?_) AllReady.nil
                  go_simp
                  refine hK _ _ ?_
                  clear hK K
                  refine wpAny_ready (rs := [0]) (by kernel_rfl) (by simp) ?_
                  refine AllReady.cons rfl (fun K hK => ?_) AllReady.nil
                  go_simp
                  refine hK _ _ ?_
                  clear hK K
                  refine wpAny_take (i := 2) (v := ?_) rfl (by kernel_rfl) (by kernel_rfl) (by kernel_rfl) (fun _ _ _ h => h) (Or.inl ⟨by rfl, ?_⟩) ?_
                  rotate_left
                  · intro w; go_simp; first | done | with_reducible rfl
                  refine wpAny_ready (rs := [4]) (by kernel_rfl) (by simp) ?_
                  refine AllReady.cons rfl (fun K hK => ?_) AllReady.nil
                  refine (if_pos (by rfl)).mpr ?_
                  refine op_zero (w := w5.drew) (.tmp 49) (.tmp 52) (bF + 1) _ esc rfl rfl R2.out.own rfl hesc (by show bF + 1 ≤ w5.heap.size; omega) fun v6 w6 t6 a6 n6 => ?_
                  refine hK _ _ ?_
                  clear hK K
                  obtain ⟨g5, cap5, rfl⟩ : ∃ g5 cap5, v6 = .slice (some ⟨g5, 0, none⟩) (esc.length + 1) cap5 := by
                    rcases t6.form with ⟨_, e⟩ | ⟨g, cap, e, _⟩
                    · simp at e
                    · exact ⟨g, cap, by rw [e]; simp⟩
                  have a6' : mrs.Aside (Value.slice cad esc.length cc) w5 w6 := ⟨a6.os, a6.tape, a6.output, a6.size, a6.block⟩
                  obtain ⟨z0, z1, z2⟩ := t6.at_ (g := g5) rfl (j := esc.length) (k := El0) (by simp)
                  have hg5 := World.ownsRow.lt t6 g5 rfl
                  have hln : (esc.length : Int) < (esc.length : Int) + 1 := by omega
                  have hne1 : g5 ≠ bC := by omega
                  have hne2 : bC ≠ g5 := by omega
                  have zf : ∀ o, w6.frozen? ⟨g5, o, none⟩ = false := by
                    intro o
                    rcases t6.2 with ⟨e, _⟩ | ⟨g', cap', cur, e, _, hg, _⟩
                    · cases e
                    · simp only [Value.slice.injEq, Option.some.injEq, Addr.mk.injEq] at e
                      obtain ⟨⟨rfl, _⟩, _⟩ := e
                      simp [World.frozen?, hg]
                  have z3 := zf (esc.length * 3)
                  have z4 := zf (esc.length * 3 + 1)
                  have z5 := zf (esc.length * 3 + 2)
                  have hb6 : w6.heap[bC]? = w5.heap[bC]? := a6'.block bC hbC NC.out
                  have c6 : w6.cell? ⟨bC, 0, none⟩ = some (.slice cad esc.length cc) := (World.cell?_of_block hb6).trans cC
                  have f6 : w6.frozen? ⟨bC, 0, none⟩ = false := (World.frozen?_of_block (a := ⟨bC, 0, none⟩) hb6).trans fC
                  have FN := HT5.out.shutput R1.out R2.out t6 a6' (fun j e => n6 j e) PP.out
                  have KEPT := Lib.hid (HI.out.keep HTR.out HBL.out FN.1 (HF5.out.trans FN.2))
                  clear t6 a6 a6' n6 FN zf hb6
                  refine wpAny_take (i := 5) (v := ?_) rfl (by kernel_rfl) (by kernel_rfl) (by kernel_rfl) (fun _ _ _ h => h) (Or.inl ⟨by rfl, ?_⟩) ?_
                  rotate_left
                  · intro w; go_simp; first | done | with_reducible rfl
                  refine wpAny_ready (rs := [6, 7]) (by kernel_rfl) (by simp) ?_
                  refine AllReady.cons rfl (fun K hK => ?_) (AllReady.cons rfl (fun K hK => ?_) AllReady.nil)
                  · go_simp
                    refine hK _ _ ?_
                    clear hK K
                    refine wpAny_ready (rs := [7]) (by kernel_rfl) (by simp) ?_
                    refine AllReady.cons rfl (fun K hK => ?_) AllReady.nil
                    go_simp
                    refine hK _ _ ?_
                    clear hK K
                    refine wpAny_done (by kernel_rfl) ?_ _
                    go_wp2_with fail
                    go_roundw
                    case rel => exact ⟨k + 1, _, by simp, KEPT.out⟩
                    case measure => simp [intOf]; omega
                  · go_simp
                    refine hK _ _ ?_
                    clear hK K
                    refine wpAny_ready (rs := [6]) (by kernel_rfl) (by simp) ?_
                    refine AllReady.cons rfl (fun K hK => ?_) AllReady.nil
                    go_simp
                    refine hK _ _ ?_
                    clear hK K
                    refine wpAny_done (by kernel_rfl) ?_ _
                    go_wp2_with fail
                    rw [setCell_comm _ ⟨bC, 0, none⟩ ⟨g5, esc.length * 3, none⟩ _ _ hne2, setCell_comm _ ⟨bC, 0, none⟩ ⟨g5, esc.length * 3 + 1, none⟩ _ _ hne2, setCell_comm _ ⟨bC, 0, none⟩ ⟨g5, esc.length * 3 + 2, none⟩ _ _ hne2]
                    go_roundw
                    case rel => exact ⟨k + 1, _, by simp, KEPT.out⟩
                    case measure => simp [intOf]; omega
                refine AllReady.cons rfl (fun K hK => ?_) AllReady.nil
                go_simp
                refine hK _ _ ?_
                clear hK K
                refine wpAny_ready (rs := [0, 1]) (by kernel_rfl) (by simp) ?_
                refine AllReady.cons rfl (fun K hK => ?_) ?_
                · go_simp
                  refine hK _ _ ?_
                  clear hK K
                  refine wpAny_take (i := 2) (v := ?_) rfl (by kernel_rfl) (by kernel_rfl) (by kernel_rfl) (fun _ _ _ h => h) (Or.inl ⟨by rfl, ?_⟩) ?_
                  rotate_left
                  · intro w; go_simp; first | done | with_reducible rfl
                  refine wpAny_ready (rs := [1]) (by kernel_rfl) (by simp) ?_
                  refine AllReady.cons rfl (fun K hK => ?_) AllReady.nil
                  go_simp
                  refine hK _ _ ?_
                  clear hK K
                  refine wpAny_ready (rs := [4]) (by kernel_rfl) (by simp) ?_
                  refine AllReady.cons rfl (fun K hK => ?_) AllReady.nil
                  refine (if_pos (by rfl)).mpr ?_
                  refine op_zero (w := w5.drew) (.tmp 49) (.tmp 52) (bF + 1) _ esc rfl rfl R2.out.own rfl hesc (by show bF + 1 ≤ w5.heap.size; omega) fun v6 w6 t6 a6 n6 => ?_
                  refine hK _ _ ?_
                  clear hK K
                  obtain ⟨g5, cap5, rfl⟩ : ∃ g5 cap5, v6 = .slice (some ⟨g5, 0, none⟩) (esc.length + 1) cap5 := by
                    rcases t6.form with ⟨_, e⟩ | ⟨g, cap, e, _⟩
                    · simp at e
                    · exact ⟨g, cap, by rw [e]; simp⟩
                  have a6' : mrs.Aside (Value.slice cad esc.length cc) w5 w6 := ⟨a6.os, a6.tape, a6.output, a6.size, a6.block⟩
                  obtain ⟨z0, z1, z2⟩ := t6.at_ (g := g5) rfl (j := esc.length) (k := El0) (by simp)
                  have hg5 := World.ownsRow.lt t6 g5 rfl
                  have hln : (esc.length : Int) < (esc.length : Int) + 1 := by omega
                  have hne1 : g5 ≠ bC := by omega
                  have hne2 : bC ≠ g5 := by omega
                  have zf : ∀ o, w6.frozen? ⟨g5, o, none⟩ = false := by
                    intro o
                    rcases t6.2 with ⟨e, _⟩ | ⟨g', cap', cur, e, _, hg, _⟩
                    · cases e
                    · simp only [Value.slice.injEq, Option.some.injEq, Addr.mk.injEq] at e
                      obtain ⟨⟨rfl, _⟩, _⟩ := e
                      simp [World.frozen?, hg]
                  have z3 := zf (esc.length * 3)
                  have z4 := zf (esc.length * 3 + 1)
                  have z5 := zf (esc.length * 3 + 2)
                  have hb6 : w6.heap[bC]? = w5.heap[bC]? := a6'.block bC hbC NC.out
                  have c6 : w6.cell? ⟨bC, 0, none⟩ = some (.slice cad esc.length cc) := (World.cell?_of_block hb6).trans cC
                  have f6 : w6.frozen? ⟨bC, 0, none⟩ = false := (World.frozen?_of_block (a := ⟨bC, 0, none⟩) hb6).trans fC
                  have FN := HT5.out.shutput R1.out R2.out t6 a6' (fun j e => n6 j e) PP.out
                  have KEPT := Lib.hid (HI.out.keep HTR.out HBL.out FN.1 (HF5.out.trans FN.2))
                  clear t6 a6 a6' n6 FN zf hb6
                  refine wpAny_take (i := 5) (v := ?_) rfl (by kernel_rfl) (by kernel_rfl) (by kernel_rfl) (fun _ _ _ h => h) (Or.inl ⟨by rfl, ?_⟩) ?_
                  rotate_left
                  · intro w; go_simp; first | done | with_reducible rfl
                  refine wpAny_ready (rs := [6, 7]) (by kernel_rfl) (by simp) ?_
                  refine AllReady.cons rfl (fun K hK => ?_) (AllReady.cons rfl (fun K hK => ?_) AllReady.nil)
                  · go_simp
                    refine hK _ _ ?_
                    clear hK K
                    refine wpAny_ready (rs := [7]) (by kernel_rfl) (by simp) ?_
                    refine AllReady.cons rfl (fun K hK => ?_) AllReady.nil
                    go_simp
                    refine hK _ _ ?_
                    clear hK K
                    refine wpAny_done (by kernel_rfl) ?_ _
                    go_wp2_with fail
                    go_roundw
                    case rel => exact ⟨k + 1, _, by simp, KEPT.out⟩
                    case measure => simp [intOf]; omega
                  · go_simp
                    refine hK _ _ ?_
                    clear hK K
                    refine wpAny_ready (rs := [6]) (by kernel_rfl) (by simp) ?_
                    refine AllReady.cons rfl (fun K hK => ?_) AllReady.nil
                    go_simp
                    refine hK _ _ ?_
                    clear hK K
                    refine wpAny_done (by kernel_rfl) ?_ _
                    go_wp2_with fail
                    rw [setCell_comm _ ⟨bC, 0, none⟩ ⟨g5, esc.length * 3, none⟩ _ _ hne2, setCell_comm _ ⟨bC, 0, none⟩ ⟨g5, esc.length * 3 + 1, none⟩ _ _ hne2, setCell_comm _ ⟨bC, 0, none⟩ ⟨g5, esc.length * 3 + 2, none⟩ _ _ hne2]
                    go_roundw
                    case rel => exact ⟨k + 1, _, by simp, KEPT.out⟩
                    case measure => simp [intOf]; omega
                refine AllReady.cons rfl (fun K hK => ?_) AllReady.nil
                go_simp
                refine hK _ _ ?_
                clear hK K
                refine wpAny_ready (rs := [0]) (by kernel_rfl) (by simp) ?_
                refine AllReady.cons rfl (fun K hK => ?_) AllReady.nil
                go_simp
                refine hK _ _ ?_
                clear hK K
                refine wpAny_take (i := 2) (v := ?_) rfl (by kernel_rfl) (by kernel_rfl) (by kernel_rfl) (fun _ _ _ h => h) (Or.inl ⟨by rfl, ?_⟩) ?_
                rotate_left
                · intro w; go_simp; first | done | with_reducible rfl
                refine wpAny_ready (rs := [4]) (by kernel_rfl) (by simp) ?_
                refine AllReady.cons rfl (fun K hK => ?_) AllReady.nil
                refine (if_pos (by rfl)).mpr ?_
                refine op_zero (w := w5.drew) (.tmp 49) (.tmp 52) (bF + 1) _ esc rfl rfl R2.out.own rfl hesc (by show bF + 1 ≤ w5.heap.size; omega) fun v6 w6 t6 a6 n6 => ?_
                refine hK _ _ ?_
                clear hK K
                obtain ⟨g5, cap5, rfl⟩ : ∃ g5 cap5, v6 = .slice (some ⟨g5, 0, none⟩) (esc.length + 1) cap5 := by
                  rcases t6.form with ⟨_, e⟩ | ⟨g, cap, e, _⟩
                  · simp at e
                  · exact ⟨g, cap, by rw [e]; simp⟩
                have a6' : mrs.Aside (Value.slice cad esc.length cc) w5 w6 := ⟨a6.os, a6.tape, a6.output, a6.size, a6.block⟩
                obtain ⟨z0, z1, z2⟩ := t6.at_ (g := g5) rfl (j := esc.length) (k := El0) (by simp)
                have hg5 := World.ownsRow.lt t6 g5 rfl
                have hln : (esc.length : Int) < (esc.length : Int) + 1 := by omega
                have hne1 : g5 ≠ bC := by omega
                have hne2 : bC ≠ g5 := by omega
                have zf : ∀ o, w6.frozen? ⟨g5, o, none⟩ = false := by
                  intro o
                  rcases t6.2 with ⟨e, _⟩ | ⟨g', cap', cur, e, _, hg, _⟩
                  · cases e
                  · simp only [Value.slice.injEq, Option.some.injEq, Addr.mk.injEq] at e
                    obtain ⟨⟨rfl, _⟩, _⟩ := e
                    simp [World.frozen?, hg]
                have z3 := zf (esc.length * 3)
                have z4 := zf (esc.length * 3 + 1)
                have z5 := zf (esc.length * 3 + 2)
                have hb6 : w6.heap[bC]? = w5.heap[bC]? := a6'.block bC hbC NC.out
                have c6 : w6.cell? ⟨bC, 0, none⟩ = some (.slice cad esc.length cc) := (World.cell?_of_block hb6).trans cC
                have f6 : w6.frozen? ⟨bC, 0, none⟩ = false := (World.frozen?_of_block (a := ⟨bC, 0, none⟩) hb6).trans fC
                have FN := HT5.out.shutput R1.out R2.out t6 a6' (fun j e => n6 j e) PP.out
                have KEPT := Lib.hid (HI.out.keep HTR.out HBL.out FN.1 (HF5.out.trans FN.2))
                clear t6 a6 a6' n6 FN zf hb6
                refine wpAny_take (i := 5) (v := ?_) rfl (by kernel_rfl) (by kernel_rfl) (by kernel_rfl) (fun _ _ _ h => h) (Or.inl ⟨by rfl, ?_⟩) ?_
                rotate_left
                · intro w; go_simp; first | done | with_reducible rfl
                refine wpAny_ready (rs := [6, 7]) (by kernel_rfl) (by simp) ?_
                refine AllReady.cons rfl (fun K hK => ?_) (AllReady.cons rfl (fun K hK => ?_) AllReady.nil)
                · go_simp
                  refine hK _ _ ?_
                  clear hK K
                  refine wpAny_ready (rs := [7]) (by kernel_rfl) (by simp) ?_
                  refine AllReady.cons rfl (fun K hK => ?_) AllReady.nil
                  go_simp
                  refine hK _ _ ?_
                  clear hK K
                  refine wpAny_done (by kernel_rfl) ?_ _
                  go_wp2_with fail
                  go_roundw
                  case rel => exact ⟨k + 1, _, by simp, KEPT.out⟩
                  case measure => simp [intOf]; omega
                · go_simp
                  refine hK _ _ ?_
                  clear hK K
                  refine wpAny_ready (rs := [6]) (by kernel_rfl) (by simp) ?_
                  refine AllReady.cons rfl (fun K hK => ?_) AllReady.nil
                  go_simp
                  refine hK _ _ ?_
                  clear hK K
                  refine wpAny_done (by kernel_rfl) ?_ _
                  go_wp2_with fail
                  rw [setCell_comm _ ⟨bC, 0, none⟩ ⟨g5, esc.length * 3, none⟩ _ _ hne2, setCell_comm _ ⟨bC, 0, none⟩ ⟨g5, esc.length * 3 + 1, none⟩ _ _ hne2, setCell_comm _ ⟨bC, 0, none⟩ ⟨g5, esc.length * 3 + 2, none⟩ _ _ hne2]
                  go_roundw
                  case rel => exact ⟨k + 1, _, by simp, KEPT.out⟩
                  case measure => simp [intOf]; omega
            · have e : k = s.2.length := by omega
              subst e
              have DN := Lib.hid (HI.out.done (.inr ⟨_, HI0.out.tst⟩) HBZ.out)
              go_wp2_with fail
              go_roundw
              case rel => exact ⟨s.1.length, s', by simp, DN.out⟩
              case measure => simp [intOf]; omega
        · have e : nb = s.1.length := by omega
          have LE := Lib.hid (HM.out.inv.least (HM.out.fin e.symm))
          go_wp2_with fail
          go_ret
          exact ⟨w.heap.size, s.1, rfl, ⟨HM.out.bel.os, HM.out.bel.tape, HM.out.bel.output, HM.out.bel.size, HM.out.bel.block⟩, HM.out.tst.set, Nat.le_refl _, LE.out⟩

#print axioms taken_calls
end Go.Proofs.YtdikjmhnjlalbabGreat.tkf
