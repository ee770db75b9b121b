/- The laws' helpers on buckets and limits: sizes; made the program's. -/
import Derived.Test.YtdikjmhnjlalbaaFmm
import Derived.Test.YtdikjmhnjlalbaaGl0
import Derived.Test.YtdikjmhnjlalbaaBkr
import Derived.OwnWalk
namespace Go.Proofs.Ytdikjmhnjlalbaa.blh
open Go.RowKit Go.Proofs.Ytdikjmhnjlalbaa.tm Go.Proofs.Ytdikjmhnjlalbaa.lib Go.Proofs.Ytdikjmhnjlalbaa.rdr Go.Proofs.Ytdikjmhnjlalbaa.bld Go.Proofs.Ytdikjmhnjlalbaa.gdp Go.Proofs.Ytdikjmhnjlalbaa.rbk Go.Proofs.Ytdikjmhnjlalbaa.bkr Go.Proofs.Ytdikjmhnjlalbaa.fmg Go.Proofs.Ytdikjmhnjlalbaa.glh
set_option linter.unusedVariables false

set_option maxHeartbeats 1000000 in
set_option maxRecDepth 100000 in
theorem szBucket_calls (b : Bk) (hb : b.st.length ≤ maxLen) (L : Nat) (hL : L ≤ 1048576) (w : World) : Calls Try.prog 68 #[.agg (bkA b), .int .i64 L] w fun e w' => Below w.heap.size w w' ∧
    ((e = .returned (.int .i64 (-1)) ∧ L < b.st.length) ∨ (e = .returned (.int .i64 ((L - b.st.length : Nat) : Int)) ∧ b.st.length ≤ L)) := by
  obtain ⟨s, x, y⟩ := b
  unfold maxLen at hb
  unfold bkA
  simp only at hb ⊢
  by_cases e1 : L < s.length
  · have d1 : decide ((L : Int) - (s.length : Int) < 0) = true := by simp; omega
    go_enter Try.func68, Try.ntmps68
    go_wp2_with fail
    go_ret
    exact ⟨new1 _ _, .inl ⟨rfl, e1⟩⟩
  have d1 : decide ((L : Int) - (s.length : Int) < 0) = false := by simp; omega
  go_enter Try.func68, Try.ntmps68
  go_wp2_with fail
  go_ret
  refine ⟨new1 _ _, .inr ⟨?_, by omega⟩⟩
  have q1 : ((L - s.length : Nat) : Int) = (L : Int) - (s.length : Int) := by omega
  rw [q1]
  rfl

def SzB (l : List Bk) (w : World) (e : Ending) (w' : World) : Prop :=
  Below w.heap.size w w' ∧ (e = .returned (.int .i64 (-1)) ∨ ∃ L : Nat, L ≤ 1048576 ∧ e = .returned (.int .i64 L) ∧ l.length ≤ 1048576 ∧ ∀ b ∈ l, b.st.length ≤ 1048576)

set_option maxHeartbeats 1000000 in
set_option maxRecDepth 100000 in
theorem szBucketS_calls (ad : Option Addr) (n cap : Nat) (l : List Bk) (w : World) (hn : n = l.length) (h : Rbk w (.slice ad n cap) l) (hm : n ≤ maxLen) (hw : ∀ b ∈ l, b.st.length ≤ maxLen) :
    Calls Try.prog 39 #[.slice ad n cap, .int .i64 1048576] w (SzB l w) := by
  have hm' := hm
  unfold maxLen at hm'
  by_cases hbig : 1048576 < n
  · have d1 : decide ((1048576 : Int) - (n : Int) < 0) = true := by simp; omega
    clear hn h hw hm
    go_enter Try.func39, Try.ntmps39
    go_wp2_with fail
    go_ret
    exact ⟨Below.refl _ _, .inl rfl⟩
  · have d1 : decide ((1048576 : Int) - (n : Int) < 0) = false := by simp; omega
    have H := Lib.hid h
    have HN := Lib.hid hn
    have HW := Lib.hid hw
    clear hn h hw hm
    go_enter Try.func39, Try.ntmps39
    go_wp2_with fail
    go_loopw [1, 5, 12, 13, 14, 15, 16, 17, 18, 19, 20, 21, 22, 23, 24, 25] (fun vL vi _ _ _ _ _ _ _ _ _ _ _ _ _ _ wr => ∃ k L : Nat, k ≤ n ∧ L ≤ 1048576 ∧ vi = .int .i64 k ∧ vL = .int .i64 L ∧ Below w.heap.size w wr ∧ Hid (∀ j x, j < k → l[j]? = some x → x.st.length ≤ 1048576)) (fun _ vi _ _ _ _ _ _ _ _ _ _ _ _ _ _ _ => n - (intOf vi).toNat)
    case atStart => exact ⟨0, 1048576 - n, Nat.zero_le _, by omega, rfl, by congr 1; omega, Below.refl _ _, Lib.hid fun j x hj => by omega⟩
    case round =>
      obtain ⟨k, L, hk, hL, rfl, rfl, hb, HA⟩ := hrel
      have HB := Lib.hid hb
      clear hb
      by_cases hlt : k < n
      · have hk' : k < l.length := by have := HN.out; omega
        obtain ⟨x, hx⟩ : ∃ x, l[k]? = some x := ⟨_, List.getElem?_eq_getElem hk'⟩
        rcases H.out with ⟨h0, _⟩ | ⟨g, off, cap', e, hg, hc⟩
        · rw [h0] at hx; simp at hx
        cases e
        obtain ⟨c1, c2, c3⟩ := (hc k x hx).same (HB.out.block g hg)
        have SZ := Lib.hid (fun w' => szBucket_calls x (HW.out x (List.mem_of_getElem? hx)) L hL w')
        have HX := Lib.hid hx
        clear hx hc hg
        unfold bkA at SZ
        go_wp2_with fail
        refine (SZ.out _).mono ?_
        rintro e w1 ⟨hb, ⟨rfl, hlx⟩ | ⟨rfl, hlx⟩⟩
        · have HB1 := Lib.hid (HB.out.trans (hb.mono HB.out.size))
          clear hb
          go_wp2_with fail
          go_ret
          exact ⟨HB1.out, .inl rfl⟩
        · have HB1 := Lib.hid (HB.out.trans (hb.mono HB.out.size))
          obtain ⟨M, hM⟩ : ∃ M, M = L - x.st.length := ⟨_, rfl⟩
          have hML : M ≤ 1048576 := by omega
          rw [← hM]
          have d2 : decide ((M : Int) < 0) = false := by simp
          clear hb hM c1 c2 c3
          go_wp2_with fail
          go_roundw
          case rel =>
            refine ⟨k + 1, M, by omega, hML, by go_num, rfl, HB1.out, Lib.hid fun j y hj hy => ?_⟩
            by_cases e : j = k
            · subst e; rw [HX.out] at hy; cases hy; omega
            · exact HA.out j y (by omega) hy
          case measure => simp [intOf]; omega
      · obtain rfl : k = n := by omega
        go_wp2_with fail
        go_ret
        refine ⟨HB.out, .inr ⟨L, hL, rfl, by have := HN.out; omega, fun x hx => ?_⟩⟩
        obtain ⟨j, hj⟩ := List.getElem?_of_mem hx
        refine HA.out j x ?_ hj
        rcases Nat.lt_or_ge j l.length with h | h
        · have := HN.out; omega
        · rw [List.getElem?_eq_none h] at hj; cases hj

set_option maxHeartbeats 1000000 in
set_option maxRecDepth 100000 in
theorem szLimit_calls (rate burst : Int) (v : Value) (l : List Bk) (w : World) (h : LmIn w rate burst v l) : Calls Try.prog 14 #[.agg (lmA rate burst v), .int .i64 1048576] w (SzB l w) := by
  obtain ⟨ad, cap, rfl⟩ := h.rbk.form
  have sz := fun w' hb => szBucketS_calls ad l.length cap l w' rfl (h.rbk.below hb) h.len fun b hb => (h.each b hb).1
  have SZ := Lib.hid sz
  clear h sz
  unfold lmA
  obtain ⟨n, hn⟩ : ∃ n, n = l.length := ⟨_, rfl⟩
  rw [← hn] at SZ ⊢
  clear hn
  go_enter Try.func14, Try.ntmps14
  go_wp2_with fail
  refine (SZ.out _ (new1 _ _)).mono ?_
  rintro e w1 ⟨hb, hE⟩
  have HB := Lib.hid ((new1 _ _).trans (hb.mono (by simp)))
  clear hb
  rcases hE with rfl | ⟨L, hL, rfl, hs1, hs2⟩
  · go_wp2_with fail
    go_ret
    exact ⟨HB.out, .inl rfl⟩
  · have S1 := Lib.hid hs1
    have S2 := Lib.hid hs2
    clear hs1 hs2
    have d0 : decide ((L : Int) < 0) = false := by simp
    go_wp2_with fail
    go_ret
    exact ⟨HB.out, .inr ⟨L, hL, rfl, S1.out, S2.out⟩⟩

set_option maxHeartbeats 1000000 in
set_option maxRecDepth 100000 in
theorem toBucket_calls (b : Bk) (w : World) : Calls Try.prog 69 #[.agg (bkA b)] w fun e w' => e = .returned (.agg (bkA b)) ∧ Below w.heap.size w w' := by
  obtain ⟨s, x, y⟩ := b
  unfold bkA
  go_enter Try.func69, Try.ntmps69
  go_wp2_with fail
  refine bodyPost_ret (v := .agg #[str s, .int .i64 x, .int .i64 y]) (by simp [results, Try.results69, go_sem]) rfl ⟨rfl, ?_⟩
  exact new3 _ _ _ _

structure Cb (b n : Nat) (l : List Bk) (w wr : World) (k : Nat) : Prop where
  bel : Below w.heap.size w wr
  lt : b < wr.heap.size
  told : ∀ j x, j < k → l[j]? = some x → LiesB wr b (j * 3) x
  cell : ∀ j, j < n * 3 → ∃ u, wr.cell? ⟨b, j, none⟩ = some u
  free : ∀ j, j < n * 3 → wr.frozen? ⟨b, j, none⟩ = false

theorem Cb.below {b n : Nat} {l : List Bk} {w wr w1 : World} {k : Nat} (h : Cb b n l w wr k) (hb : Below wr.heap.size wr w1) : Cb b n l w w1 k := by
  refine ⟨h.bel.trans (hb.mono h.bel.size), Nat.lt_of_lt_of_le h.lt hb.size, fun j x hj hx => (h.told j x hj hx).same (hb.block b h.lt), fun j hj => ?_, fun j hj => ?_⟩
  · obtain ⟨u, hu⟩ := h.cell j hj
    exact ⟨u, by rw [hb.cell (p := ⟨b, j, none⟩) h.lt]; exact hu⟩
  · rw [hb.frozen (p := ⟨b, j, none⟩) h.lt]; exact h.free j hj

theorem cell_set {w : World} {b i j : Nat} {u v : Value} (hj : w.cell? ⟨b, j, none⟩ = some u) : (w.setCell ⟨b, i, none⟩ v).cell? ⟨b, j, none⟩ = some (if j = i then v else u) := by
  by_cases e : j = i
  · subst e
    rw [if_pos rfl]
    exact World.cell?_setCell_same w _ _ (by rw [hj])
  · rw [if_neg e, World.cell?_setCell_other _ _ _ _ (by intro e'; first | (simp at e'; done) | (simp at e'; omega))]
    exact hj

theorem Cb.put {b n : Nat} {l : List Bk} {w wr : World} {k : Nat} {x : Bk} (h : Cb b n l w wr k) (hk : k < n) (hb : w.heap.size ≤ b) (hx : l[k]? = some x) :
    Cb b n l w (((wr.setCell ⟨b, k * 3, none⟩ (str x.st)).setCell ⟨b, k * 3 + 1, none⟩ (.int .i64 x.left)).setCell ⟨b, k * 3 + 2, none⟩ (.int .i64 x.at_)) (k + 1) := by
  obtain ⟨u0, q0⟩ := h.cell (k * 3) (by omega)
  obtain ⟨u1, q1⟩ := h.cell (k * 3 + 1) (by omega)
  obtain ⟨u2, q2⟩ := h.cell (k * 3 + 2) (by omega)
  have key : ∀ j u, wr.cell? ⟨b, j, none⟩ = some u → ∃ u', (((wr.setCell ⟨b, k * 3, none⟩ (str x.st)).setCell ⟨b, k * 3 + 1, none⟩ (.int .i64 x.left)).setCell ⟨b, k * 3 + 2, none⟩ (.int .i64 x.at_)).cell? ⟨b, j, none⟩ = some u' ∧
      (j = k * 3 → u' = str x.st) ∧ (j = k * 3 + 1 → u' = .int .i64 x.left) ∧ (j = k * 3 + 2 → u' = .int .i64 x.at_) ∧ (j < k * 3 → u' = u) := by
    intro j u hu
    refine ⟨_, cell_set (cell_set (cell_set hu)), fun e => ?_, fun e => ?_, fun e => ?_, fun e => ?_⟩
    · rw [if_neg (by omega), if_neg (by omega), if_pos e]
    · rw [if_neg (by omega), if_pos e]
    · rw [if_pos e]
    · rw [if_neg (by omega), if_neg (by omega), if_neg (by omega)]
  refine ⟨((h.bel.setCell hb _).setCell hb _).setCell hb _, by simpa [World.setCell] using h.lt, fun j y hj hy => ?_, fun j hj => ?_, fun j hj => ?_⟩
  · by_cases e : j = k
    · subst e
      rw [hx] at hy
      cases hy
      obtain ⟨a0, r0, r1, _⟩ := key _ _ q0
      obtain ⟨b0, s0, _, s1, _⟩ := key _ _ q1
      obtain ⟨c0, t0, _, _, t1, _⟩ := key _ _ q2
      exact ⟨by rw [r0, r1 rfl], by rw [s0, s1 rfl], by rw [t0, t1 rfl]⟩
    · obtain ⟨h0, h1, h2⟩ := h.told j y (by omega) hy
      obtain ⟨a0, r0, _, _, _, r1⟩ := key _ _ h0
      obtain ⟨b0, s0, _, _, _, s1⟩ := key _ _ h1
      obtain ⟨c0, t0, _, _, _, t1⟩ := key _ _ h2
      exact ⟨by rw [r0, r1 (by omega)], by rw [s0, s1 (by omega)], by rw [t0, t1 (by omega)]⟩
  · obtain ⟨u, hu⟩ := h.cell j hj
    obtain ⟨u', r, _⟩ := key j u hu
    exact ⟨u', r⟩
  · rw [World.frozen?_setCell, World.frozen?_setCell, World.frozen?_setCell]
    exact h.free j hj

theorem made_rowB {w w1 : World} {n : Nat} (h : w1.ownsRow w.heap.size 71 3 (.slice (some ⟨w.heap.size, 0, none⟩) n n) n (madeCells (Value.agg #[str [], .int .i64 0, .int .i64 0]).cells (n * 3)).toList) (hg : w.grownBy w1 none) (l : List Bk) :
    Cb w.heap.size n l w w1 0 := by
  have hlt := (World.ownsRow.lt h w.heap.size rfl).2
  refine ⟨(Below.refl _ _).grown hg (Nat.le_refl _) (fun k e => by cases e), hlt, fun j x hj => by omega, fun j hj => ?_, fun j hj => ?_⟩
  · have hl := h.1
    obtain ⟨u, hu⟩ : ∃ u, (madeCells (Value.agg #[str [], .int .i64 0, .int .i64 0]).cells (n * 3)).toList[j]? = some u := ⟨_, List.getElem?_eq_getElem (by rw [hl]; omega)⟩
    have := World.ownsRow.cells h (g := w.heap.size) rfl j u hu
    rw [Addr.add_lit, Nat.zero_add] at this
    exact ⟨u, this⟩
  · obtain ⟨_, h2⟩ := h
    rcases h2 with ⟨h0, _⟩ | ⟨g, cap, cur, e', hg', hh, _⟩
    · cases h0
    · cases e'
      simp [World.frozen?, hh]

set_option maxHeartbeats 1000000 in
set_option maxRecDepth 100000 in
theorem toBucketS_fit (ad : Option Addr) (n cap : Nat) (l : List Bk) (w : World) (hn : n = l.length) (h : Rbk w (.slice ad n cap) l) (hl : l.length ≤ 2000000) :
    Calls Try.prog 42 #[.slice ad n cap] w fun e w' => ∃ g v, v = .slice (some ⟨g, 0, none⟩) n n ∧ g < w'.heap.size ∧ e = .returned v ∧ Below w.heap.size w w' ∧ Wbk w' w.heap.size v l := by
  obtain ⟨i0, hi, hz0, hz1, hz2⟩ := info_parts infoB
  have hn2 : n ≤ 2000000 := by omega
  have H := Lib.hid h
  have HN := Lib.hid hn
  clear h hn hl
  go_enter Try.func42, Try.ntmps42
  go_wp2_with (at_make; refine wpList_make_full _ rfl (.tmp 6) (.tmp 6) 34 rfl w.heap.size 71 i0 (.agg #[str [], .int .i64 0, .int .i64 0]) 3 Try.underlying34 hi hz0 hz1 .i64 .i64 _ _ n rfl rfl rfl rfl (by rw [hz2]; omega) (by unfold maxLen; omega) (Nat.le_refl _) ?_; intro w1 hr1 hg1)
  have C1 := Lib.hid (made_rowB hr1 hg1 l)
  clear hr1 hg1 hi hz0 hz1 hz2
  go_loopw [4, 8, 9, 10, 11, 12, 13, 14, 15, 16, 17, 18, 19, 20, 21] (fun vi _ _ _ _ _ _ _ _ _ _ _ _ _ _ wr => ∃ k : Nat, k ≤ n ∧ vi = .int .i64 k ∧ Cb w.heap.size n l w wr k) (fun vi _ _ _ _ _ _ _ _ _ _ _ _ _ _ _ => n - (intOf vi).toNat)
  case atStart => exact ⟨0, Nat.zero_le _, rfl, C1.out⟩
  case round =>
    obtain ⟨k, hk, rfl, hm⟩ := hrel
    have HM := Lib.hid hm
    clear hm
    by_cases hlt : k < n
    · have hk' : k < l.length := by have := HN.out; omega
      obtain ⟨x, hx⟩ : ∃ x, l[k]? = some x := ⟨_, List.getElem?_eq_getElem hk'⟩
      rcases H.out with ⟨h0, _⟩ | ⟨g, off, cap', e, hg, hc⟩
      · rw [h0] at hx; simp at hx
      cases e
      obtain ⟨c1, c2, c3⟩ := (hc k x hx).same (HM.out.bel.block g hg)
      have TB := Lib.hid (fun w' => toBucket_calls x w')
      have HX := Lib.hid hx
      clear hx hc hg
      unfold bkA at TB
      go_wp2_with fail
      refine (TB.out _).mono ?_
      rintro e w2 ⟨rfl, hb⟩
      have HM2 := Lib.hid (HM.out.below hb)
      clear hb c1 c2 c3
      obtain ⟨u0, q0⟩ := HM2.out.cell (k * 3) (by omega)
      obtain ⟨u1, q1⟩ := HM2.out.cell (k * 3 + 1) (by omega)
      obtain ⟨u2, q2⟩ := HM2.out.cell (k * 3 + 2) (by omega)
      have f0 := HM2.out.free (k * 3) (by omega)
      have f1 := HM2.out.free (k * 3 + 1) (by omega)
      have f2 := HM2.out.free (k * 3 + 2) (by omega)
      go_wp2_with fail
      go_roundw
      case rel => exact ⟨k + 1, by omega, by go_num, HM2.out.put hlt (Nat.le_refl _) HX.out⟩
      case measure => simp [intOf]; omega
    · obtain rfl : k = n := by omega
      go_wp2_with fail
      go_ret
      have hN := HN.out
      have f1 : ∀ j x, l[j]? = some x → LiesB wr w.heap.size (0 + j * 3) x := fun j x hj => by
        rw [Nat.zero_add]
        refine HM.out.told j x ?_ hj
        rcases Nat.lt_or_ge j l.length with h | h
        · omega
        · rw [List.getElem?_eq_none h] at hj; cases hj
      have f2 : ∀ j, j < l.length * 3 → wr.frozen? ⟨w.heap.size, 0 + j, none⟩ = false := fun j hj => by
        rw [Nat.zero_add]; exact HM.out.free j (by omega)
      have e : Value.slice (some ⟨w.heap.size, 0, none⟩) k k = .slice (some ⟨w.heap.size, 0, none⟩) l.length k := by rw [← hN]
      exact ⟨w.heap.size, _, rfl, HM.out.lt, rfl, HM.out.bel, .inr ⟨w.heap.size, 0, k, e, Nat.le_refl _, HM.out.lt, f1, f2⟩⟩

theorem toBucketS_calls (ad : Option Addr) (n cap : Nat) (l : List Bk) (w : World) (hn : n = l.length) (h : Rbk w (.slice ad n cap) l) (hl : l.length ≤ 2000000) :
    Calls Try.prog 42 #[.slice ad n cap] w fun e w' => ∃ v, e = .returned v ∧ Below w.heap.size w w' ∧ Wbk w' w.heap.size v l :=
  (toBucketS_fit ad n cap l w hn h hl).mono fun e w' ⟨_, v, _, _, h1, h2⟩ => ⟨v, h1, h2⟩
end Go.Proofs.Ytdikjmhnjlalbaa.blh
