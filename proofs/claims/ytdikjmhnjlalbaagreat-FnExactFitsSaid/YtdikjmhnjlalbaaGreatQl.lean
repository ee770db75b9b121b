/- Several small texts, one behind the other. -/
import Derived.Test.YtdikjmhnjlalbaaGreatQb
import Derived.Test.YtdikjmhnjlalbaaGreatQj
import Derived.Test.YtdikjmhnjlalbaaGreatQk
import Derived.Test.YtdikjmhnjlalbaaGreatQe
import Derived.Test.YtdikjmhnjlalbaaGreatQg
import Derived.Test.YtdikjmhnjlalbaaGreatQc
import Derived.OwnWalk
import Derived.Deep.QuietTactic
import Derived.BigQuiet
import Derived.Lib.QuietBelow
import Derived.Laws.Concat
import Derived.IntWalk

/- Cookies: plain mathematics. -/
namespace Go.Proofs.YtdikjmhnjlalbaaGreat.gck
open Go.RowKit Go.Proofs.YtdikjmhnjlalbaaGreat.tm Go.Proofs.YtdikjmhnjlalbaaGreat.mkp Go.Proofs.YtdikjmhnjlalbaaGreat.ltq Go.Proofs.YtdikjmhnjlalbaaGreat.ltp Go.Proofs.YtdikjmhnjlalbaaGreat.gdp Go.Proofs.YtdikjmhnjlalbaaGreat.rbk
set_option linter.unusedVariables false

def pairS (a : Ad) : Bs := say oPair [a.st, a.hs]
def cookS (s : Bs) (a : Ad) : Bs := say oMac [s, pairS a]
/-- CookieOf. -/
def cookieR (s : Bs) (a : Ad) : Bs := if atomR s && adR a then cookS s a else []

theorem ad_atoms {a : Ad} (h : adR a = true) : atomR a.st = true ∧ atomR a.hs = true := by unfold adR at h; simpa using h
theorem pair_term {a : Ad} (h : adR a = true) : term (pairS a) = some (.pair (.atom a.st) (.atom a.hs)) := by
  obtain ⟨h1, h2⟩ := ad_atoms h
  have l1 := atomR_len h1
  have l2 := atomR_len h2
  refine term_some.2 ⟨by simp [pairS, say, oPair]; omega, ⟨h1, h2⟩, by simp [Tm.deep], ?_⟩
  rfl
theorem cook_term {s : Bs} {a : Ad} (hs : atomR s = true) (h : adR a = true) : term (cookS s a) = some (.mac (.atom s) (.pair (.atom a.st) (.atom a.hs))) := by
  obtain ⟨h1, h2⟩ := ad_atoms h
  have l1 := atomR_len h1
  have l2 := atomR_len h2
  have l3 := atomR_len hs
  refine term_some.2 ⟨by simp [cookS, pairS, say, oPair, oMac]; omega, ⟨hs, h1, h2⟩, by simp [Tm.deep], ?_⟩
  rfl
theorem atom_term {s : Bs} (hs : atomR s = true) : okT s = true := by
  have l3 := atomR_len hs
  unfold okT
  rw [show term s = some (.atom s) from term_some.2 ⟨by omega, hs, by simp [Tm.deep], rfl⟩]
  rfl
theorem pair_made {a : Ad} (h : adR a = true) : (makeR oPair [a.st, a.hs]).1 = pairS a := by
  obtain ⟨h1, h2⟩ := ad_atoms h
  rw [made_two _ _ _ (.inl rfl), atom_term h1, atom_term h2]
  have := pair_term h
  unfold pairS at this ⊢
  rw [show okT (say oPair [a.st, a.hs]) = true by unfold okT; rw [this]; rfl]
  rfl
theorem cook_made {s : Bs} {a : Ad} (hs : atomR s = true) (h : adR a = true) : (makeR oMac [s, pairS a]).1 = cookS s a := by
  rw [made_two _ _ _ (.inr (.inl rfl)), atom_term hs]
  have h2 := pair_term h
  have := cook_term hs h
  rw [show okT (pairS a) = true by unfold okT; rw [h2]; rfl]
  unfold cookS at this ⊢
  rw [show okT (say oMac [s, pairS a]) = true by unfold okT; rw [this]; rfl]
  rfl
theorem cook_ok {s : Bs} {a : Ad} (hs : atomR s = true) (h : adR a = true) : okT (cookS s a) = true := by unfold okT; rw [cook_term hs h]; rfl
theorem pair_len {a : Ad} (h : adR a = true) : (pairS a).length ≤ 30 := by
  obtain ⟨h1, h2⟩ := ad_atoms h
  have l1 := atomR_len h1
  have l2 := atomR_len h2
  simp [pairS, say, oPair]; omega
theorem cookie_len (s : Bs) (a : Ad) : (cookieR s a).length ≤ 60 := by
  unfold cookieR
  split
  · rename_i h
    simp only [Bool.and_eq_true] at h
    have l1 := atomR_len h.1
    have l2 := pair_len h.2
    simp [cookS, say, oMac]; omega
  · simp

theorem atom8 {s : Bs} (h : atomR s = true) : s.length ≤ 100000 := by have := (atomR_len h).2; omega
end Go.Proofs.YtdikjmhnjlalbaaGreat.gck

/- Contract of l05Cookie of the model. -/
namespace Go.Proofs.YtdikjmhnjlalbaaGreat.gck
open Go.RowKit Go.Sort Go.Proofs.YtdikjmhnjlalbaaGreat.tm Go.Proofs.YtdikjmhnjlalbaaGreat.lib Go.Proofs.YtdikjmhnjlalbaaGreat.rdr Go.Proofs.YtdikjmhnjlalbaaGreat.bld Go.Proofs.YtdikjmhnjlalbaaGreat.mkp Go.Proofs.YtdikjmhnjlalbaaGreat.ltq Go.Proofs.YtdikjmhnjlalbaaGreat.ltp Go.Proofs.YtdikjmhnjlalbaaGreat.gdp Go.Proofs.YtdikjmhnjlalbaaGreat.rbk Go.Proofs.YtdikjmhnjlalbaaGreat.gri
set_option linter.unusedVariables false

set_option maxHeartbeats 1000000 in
set_option maxRecDepth 100000 in
theorem l05Cookie_calls (s : Bs) (a : Ad) (hs : s.length ≤ 100000) (h1 : a.st.length ≤ 100000) (h2 : a.hs.length ≤ 100000) (w : World) :
    Calls Tryz.prog 18 #[str s, .agg (adA a)] w fun e w' => e = .returned (str (cookS s a)) ∧ Below w.heap.size w w' := by
  obtain ⟨p, q⟩ := a
  unfold adA cookS pairS
  simp only at h1 h2 ⊢
  obtain ⟨P, hP⟩ : ∃ P, P = say oPair [p, q] := ⟨_, rfl⟩
  have hPl : P.length ≤ 4000000 := by rw [hP]; simp [say, oPair]; omega
  have c1 := fun (w : World) (b : Nat) h0 h1 => ssy.say_two oPair p q b 0 2 w h0 h1 (by decide) (by omega) (by omega)
  rw [← hP] at c1 ⊢
  have c2 := fun (w : World) (b : Nat) h0 h1 => ssy.say_two oMac s P b 0 2 w h0 h1 (by decide) (by omega) hPl
  obtain ⟨G, hG⟩ : ∃ G, G = say oMac [s, P] := ⟨_, rfl⟩
  rw [← hG] at c2 ⊢
  have C1 := Lib.hid c1
  have C2 := Lib.hid c2
  unfold oPair at C1
  unfold oMac at C2
  clear c1 c2 hP hG hPl hs h1 h2
  go_enter Tryz.func18, Tryz.ntmps18
  go_wp2_with fail
  refine (C1.out _ _ (by simp [go_sem]) (by simp [go_sem])).mono ?_
  rintro e w1 ⟨rfl, hb1⟩
  have HB1 := Lib.hid ((((Below.refl _ w).alloc (Nat.le_refl _) _).alloc (by simp) _).trans (hb1.mono (by simp; omega)))
  clear hb1
  go_wp2_with fail
  refine (C2.out _ _ (by simp [go_sem]) (by simp [go_sem])).mono ?_
  rintro e w2 ⟨rfl, hb2⟩
  have HB2 := Lib.hid ((HB1.out.alloc HB1.out.size _).trans (hb2.mono (by have := HB1.out.size; simp; omega)))
  clear hb2
  go_wp2_with fail
  go_ret
  exact ⟨rfl, HB2.out⟩
end Go.Proofs.YtdikjmhnjlalbaaGreat.gck

/- Contracts of the laws' helpers on []string: toStringS, szStringS. -/
namespace Go.Proofs.YtdikjmhnjlalbaaGreat.tsz
open Go.RowKit Go.Proofs.YtdikjmhnjlalbaaGreat.tm Go.Proofs.YtdikjmhnjlalbaaGreat.lib Go.Proofs.YtdikjmhnjlalbaaGreat.rdr Go.Proofs.YtdikjmhnjlalbaaGreat.bld Go.Proofs.YtdikjmhnjlalbaaGreat.app Go.Proofs.YtdikjmhnjlalbaaGreat.mrk
set_option linter.unusedVariables false

structure Cp (b n : Nat) (ls : List Bs) (w wr : World) (k : Nat) : Prop where
  bel : Below w.heap.size w wr
  lt : b < wr.heap.size
  told : ∀ j l, j < k → ls[j]? = some l → wr.cell? ⟨b, j, none⟩ = some (str l)
  cell : ∀ j, j < n → ∃ l, wr.cell? ⟨b, j, none⟩ = some (str l)
  free : ∀ j, j < n → wr.frozen? ⟨b, j, none⟩ = false

theorem Cp.put {b n : Nat} {ls : List Bs} {w wr : World} {k : Nat} {x : Bs} (h : Cp b n ls w wr k) (hk : k < n) (hb : w.heap.size ≤ b) (hx : ls[k]? = some x) : Cp b n ls w (wr.setCell ⟨b, k, none⟩ (str x)) (k + 1) := by
  obtain ⟨l0, ck⟩ := h.cell k hk
  refine ⟨h.bel.setCell hb _, by simpa [World.setCell] using h.lt, fun j l hj hl => ?_, fun j hj => ?_, fun j hj => ?_⟩
  · by_cases e : j = k
    · subst e
      rw [hx] at hl
      cases hl
      exact World.cell?_setCell_same wr _ _ (by rw [ck])
    · rw [World.cell?_setCell_other _ _ _ _ (by intro e'; first | (simp at e'; done) | (simp at e'; omega))]
      exact h.told j l (by omega) hl
  · by_cases e : j = k
    · subst e
      exact ⟨x, World.cell?_setCell_same wr _ _ (by rw [ck])⟩
    · obtain ⟨l, h1⟩ := h.cell j hj
      refine ⟨l, ?_⟩
      rw [World.cell?_setCell_other _ _ _ _ (by intro e'; first | (simp at e'; done) | (simp at e'; omega))]
      exact h1
  · rw [World.frozen?_setCell]
    exact h.free j hj

theorem made_row {w w1 : World} {n : Nat} (h : w1.ownsRow w.heap.size 9 1 (.slice (some ⟨w.heap.size, 0, none⟩) n n) n (madeCells (Value.string ⟨#[]⟩).cells (n * 1)).toList) (hg : w.grownBy w1 none) (ls : List Bs) :
    Cp w.heap.size n ls w w1 0 := by
  have e : (madeCells (Value.string ⟨#[]⟩).cells (n * 1)).toList = (List.replicate n ([] : Bs)).map str := by
    show (madeCells #[Value.string ⟨#[]⟩] (n * 1)).toList = _
    rw [Nat.mul_one, toList_madeCells_one]
    simp
  rw [e] at h
  have hlt := (World.ownsRow.lt h w.heap.size rfl).2
  refine ⟨(Below.refl _ _).grown hg (Nat.le_refl _) (fun k e => by cases e), hlt, fun j l hj => by omega, fun j hj => ⟨[], ?_⟩, fun j hj => ?_⟩
  · have := World.ownsRow.cells h (g := w.heap.size) rfl j (str []) (by rw [List.getElem?_map, List.getElem?_replicate, if_pos hj]; rfl)
    rw [Addr.add_lit, Nat.zero_add] at this
    exact this
  · obtain ⟨_, h2⟩ := h
    rcases h2 with ⟨h0, _⟩ | ⟨g, cap, cur, e', hg', hh, _⟩
    · cases h0
    · cases e'
      simp [World.frozen?, hh]

set_option maxHeartbeats 1000000 in
set_option maxRecDepth 100000 in
theorem toStringS_calls (ad : Option Addr) (n cap : Nat) (ls : List Bs) (w : World) (hn : n = ls.length) (h : Rds w (.slice ad n cap) ls) (hl : ls.length ≤ 2000000) :
    Calls Tryz.prog 19 #[.slice ad n cap] w fun e w' => ∃ v, e = .returned v ∧ Below w.heap.size w w' ∧ mrs.Wrs w' w.heap.size v ls := by
  obtain ⟨i0, hi, hz0, hz1, hz2⟩ := info_parts infoS
  have hn2 : n ≤ 2000000 := by omega
  have H := Lib.hid h
  have HN := Lib.hid hn
  clear h hn hl
  go_enter Tryz.func19, Tryz.ntmps19
  go_wp2_with (at_make; refine wpList_make_full _ rfl (.tmp 6) (.tmp 6) 24 rfl w.heap.size 9 i0 (.string ⟨#[]⟩) 1 Tryz.underlying24 hi hz0 hz1 .i64 .i64 _ _ n rfl rfl rfl rfl (by rw [hz2]; omega) (by unfold maxLen; omega) (Nat.le_refl _) ?_; intro w1 hr1 hg1)
  have C1 := Lib.hid (made_row hr1 hg1 ls)
  clear hr1 hg1 hi hz0 hz1 hz2
  go_loopw [4, 8, 9, 10, 11, 12, 13, 14, 15, 16, 17, 18, 19, 20] (fun vi _ _ _ _ _ _ _ _ _ _ _ _ _ wr => ∃ k : Nat, k ≤ n ∧ vi = .int .i64 k ∧ Cp w.heap.size n ls w wr k) (fun vi _ _ _ _ _ _ _ _ _ _ _ _ _ _ => n - (intOf vi).toNat)
  case atStart => exact ⟨0, Nat.zero_le _, rfl, C1.out⟩
  case round =>
    obtain ⟨k, hk, rfl, hm⟩ := hrel
    have HM := Lib.hid hm
    clear hm
    by_cases hlt : k < n
    · have hk' : k < ls.length := by have := HN.out; omega
      obtain ⟨x, hx⟩ : ∃ x, ls[k]? = some x := ⟨_, List.getElem?_eq_getElem hk'⟩
      rcases H.out with ⟨h0, _⟩ | ⟨g, off, cap', e, hg, hc⟩
      · rw [h0] at hx; simp at hx
      cases e
      have c1 : wr.cell? ⟨g, off + k, none⟩ = some (str x) := by rw [← hc k x hx]; exact HM.out.bel.cell (p := ⟨g, off + k, none⟩) hg
      obtain ⟨l0, c2⟩ := HM.out.cell k hlt
      have f2 := HM.out.free k hlt
      have HX := Lib.hid hx
      clear hx hc hg
      go_wp2_with fail
      go_roundw
      case rel => exact ⟨k + 1, by omega, by go_num, HM.out.put hlt (Nat.le_refl _) HX.out⟩
      case measure => simp [intOf]; omega
    · obtain rfl : k = n := by omega
      go_wp2_with fail
      go_ret
      have hN := HN.out
      have f1 : ∀ j l, ls[j]? = some l → wr.cell? ⟨w.heap.size, 0 + j, none⟩ = some (str l) := fun j l hj => by
        rw [Nat.zero_add]
        refine HM.out.told j l ?_ hj
        rcases Nat.lt_or_ge j ls.length with h | h
        · omega
        · rw [List.getElem?_eq_none h] at hj; cases hj
      have f2 : ∀ j, j < ls.length → wr.frozen? ⟨w.heap.size, 0 + j, none⟩ = false := fun j hj => by
        rw [Nat.zero_add]; exact HM.out.free j (by omega)
      have e : Value.slice (some ⟨w.heap.size, 0, none⟩) k k = .slice (some ⟨w.heap.size, 0, none⟩) ls.length k := by rw [← hN]
      exact ⟨_, rfl, HM.out.bel, .inr ⟨w.heap.size, 0, k, e, Nat.le_refl _, HM.out.lt, f1, f2⟩⟩

def SzEnd (ls : List Bs) (w : World) (e : Ending) (w' : World) : Prop :=
  w = w' ∧ (e = .returned (.int .i64 (-1)) ∨ ∃ L : Nat, L ≤ 1048576 ∧ e = .returned (.int .i64 L) ∧ ls.length ≤ 1048576 ∧ ∀ x ∈ ls, x.length ≤ 1048576)

set_option maxHeartbeats 1000000 in
set_option maxRecDepth 100000 in
theorem szStringS_calls (ad : Option Addr) (n cap : Nat) (ls : List Bs) (w : World) (hn : n = ls.length) (h : Rds w (.slice ad n cap) ls) (hm : n ≤ maxLen) (hw : ∀ x ∈ ls, x.length ≤ maxLen) :
    Calls Tryz.prog 13 #[.slice ad n cap, .int .i64 1048576] w (SzEnd ls w) := by
  unfold maxLen at hm hw
  by_cases hbig : 1048576 < n
  · have d1 : decide ((1048576 : Int) - (n : Int) < 0) = true := by simp; omega
    clear hn h hw
    go_enter Tryz.func13, Tryz.ntmps13
    go_wp2_with fail
    go_ret
    exact ⟨rfl, .inl rfl⟩
  · have d1 : decide ((1048576 : Int) - (n : Int) < 0) = false := by simp; omega
    have H := Lib.hid h
    have HN := Lib.hid hn
    have HW := Lib.hid hw
    clear hn h hw
    go_enter Tryz.func13, Tryz.ntmps13
    go_wp2_with fail
    go_loopw [1, 5, 12, 13, 14, 15, 16, 17, 18, 19, 20, 21, 22, 23, 24, 25, 26] (fun vL vi _ _ _ _ _ _ _ _ _ _ _ _ _ _ _ wr => ∃ k L : Nat, k ≤ n ∧ L ≤ 1048576 ∧ vi = .int .i64 k ∧ vL = .int .i64 L ∧ wr = w ∧ Hid (∀ j x, j < k → ls[j]? = some x → x.length ≤ 1048576)) (fun _ vi _ _ _ _ _ _ _ _ _ _ _ _ _ _ _ _ => n - (intOf vi).toNat)
    case atStart => exact ⟨0, 1048576 - n, Nat.zero_le _, by omega, rfl, by congr 1; omega, rfl, Lib.hid fun j x hj => by omega⟩
    case round =>
      obtain ⟨k, L, hk, hL, rfl, rfl, rfl, HA⟩ := hrel
      by_cases hlt : k < n
      · have hk' : k < ls.length := by have := HN.out; omega
        obtain ⟨x, hx⟩ : ∃ x, ls[k]? = some x := ⟨_, List.getElem?_eq_getElem hk'⟩
        rcases H.out with ⟨h0, _⟩ | ⟨g, off, cap', e, hg, hc⟩
        · rw [h0] at hx; simp at hx
        cases e
        have c1 := hc k x hx
        have hxl := HW.out x (List.mem_of_getElem? hx)
        have HX := Lib.hid hx
        clear hx hc hg
        by_cases hLx : x.length ≤ L
        · have d2 : decide ((L : Int) - (x.length : Int) < 0) = false := by simp; omega
          go_wp2_with fail
          go_roundw
          case rel =>
            refine ⟨k + 1, L - x.length, by omega, by omega, by go_num, by congr 1; omega, by first | trivial | rfl, Lib.hid fun j y hj hy => ?_⟩
            by_cases e : j = k
            · subst e; rw [HX.out] at hy; cases hy; omega
            · exact HA.out j y (by omega) hy
          case measure => simp [intOf]; omega
        · have d2 : decide ((L : Int) - (x.length : Int) < 0) = true := by simp; omega
          go_wp2_with fail
          go_ret
          exact ⟨rfl, .inl rfl⟩
      · obtain rfl : k = n := by omega
        go_wp2_with fail
        go_ret
        refine ⟨rfl, .inr ⟨L, hL, rfl, by have := HN.out; omega, fun x hx => ?_⟩⟩
        obtain ⟨j, hj⟩ := List.getElem?_of_mem hx
        refine HA.out j x ?_ hj
        rcases Nat.lt_or_ge j ls.length with h | h
        · have := HN.out; omega
        · rw [List.getElem?_eq_none h] at hj; cases hj
end Go.Proofs.YtdikjmhnjlalbaaGreat.tsz

/- Contract of the laws' eqStringS, of two lists that are one. -/
namespace Go.Proofs.YtdikjmhnjlalbaaGreat.mrk
open Go.RowKit Go.Sort Go.Proofs.YtdikjmhnjlalbaaGreat.tm Go.Proofs.YtdikjmhnjlalbaaGreat.lib Go.Proofs.YtdikjmhnjlalbaaGreat.rdr Go.Proofs.YtdikjmhnjlalbaaGreat.bld Go.Proofs.YtdikjmhnjlalbaaGreat.app
set_option linter.unusedVariables false

set_option maxHeartbeats 1000000 in
set_option maxRecDepth 100000 in
theorem eqStringS_calls (va vb : Value) (ls : List Bs) (w : World) (ha : Rds w va ls) (hb : Rds w vb ls) (hl : ls.length ≤ 100000000) :
    Calls Tryz.prog 25 #[va, vb] w fun e w' => e = .returned (.bool true) ∧ Still w w' := by
  by_cases h0 : ls = []
  · subst h0
    have fa : ∃ ad cap, va = .slice ad 0 cap := by rcases ha with ⟨_, h⟩ | ⟨g, off, cap, h, _⟩; exact h; exact ⟨_, _, h⟩
    have fb : ∃ ad cap, vb = .slice ad 0 cap := by rcases hb with ⟨_, h⟩ | ⟨g, off, cap, h, _⟩; exact h; exact ⟨_, _, h⟩
    obtain ⟨aa, ca, rfl⟩ := fa
    obtain ⟨ab, cb, rfl⟩ := fb
    clear ha hb
    go_enter Tryz.func25, Tryz.ntmps25
    go_wp2_with fail
    refine wp_loop_rounds 1 ?_
    rw [rounds_succ]
    go_wp2_with fail
    go_ret
    exact ⟨rfl, Still.refl _⟩
  · rcases ha with ⟨h, _⟩ | ⟨ga, oa, ca, rfl, hga, hca⟩
    · exact absurd h h0
    rcases hb with ⟨h, _⟩ | ⟨gb, ob, cb, rfl, hgb, hcb⟩
    · exact absurd h h0
    obtain ⟨n, hn⟩ : ∃ n, n = ls.length := ⟨_, rfl⟩
    rw [← hn] at hl ⊢
    have HA := Lib.hid hca
    have HB := Lib.hid hcb
    have HN := Lib.hid hn
    clear hca hcb hn h0
    go_enter Tryz.func25, Tryz.ntmps25
    go_wp2_with fail
    go_loopw [5, 11, 12, 13, 14, 15, 16, 17, 18, 19, 20, 21, 22, 23, 24, 25] (fun vk _ _ _ _ _ _ _ _ _ _ _ _ _ _ _ wr => ∃ k : Nat, k ≤ n ∧ vk = .int .i64 k ∧ Still w wr) (fun vk _ _ _ _ _ _ _ _ _ _ _ _ _ _ _ _ => n - (intOf vk).toNat)
    case atStart => exact ⟨0, Nat.zero_le _, rfl, Still.refl _⟩
    case round =>
      obtain ⟨k, hk, rfl, hst⟩ := hrel
      have HS := Lib.hid hst
      by_cases hlt : k < n
      · have hk' : k < ls.length := by have := HN.out; omega
        obtain ⟨l, hl'⟩ : ∃ l, ls[k]? = some l := ⟨_, List.getElem?_eq_getElem hk'⟩
        have c1 : wr.cell? ⟨ga, oa + k, none⟩ = some (str l) := by rw [← HA.out k l hl']; exact World.cell?_of_block (by rw [hst.heap])
        have c2 : wr.cell? ⟨gb, ob + k, none⟩ = some (str l) := by rw [← HB.out k l hl']; exact World.cell?_of_block (by rw [hst.heap])
        clear hst hl'
        go_wp2_with fail
        go_quiet (fail)
        go_wp2_with fail
        go_roundw
        case rel => exact ⟨k + 1, by omega, by go_num, HS.out.trans (Still.drewN _ _)⟩
        case measure => simp [intOf]; omega
      · clear hst
        go_wp2_with fail
        go_ret
        exact ⟨rfl, HS.out⟩
end Go.Proofs.YtdikjmhnjlalbaaGreat.mrk

/- The laws' helpers on letters: szLetter, toLetter, eqLetter. -/
namespace Go.Proofs.YtdikjmhnjlalbaaGreat.lth
open Go.RowKit Go.Proofs.YtdikjmhnjlalbaaGreat.tm Go.Proofs.YtdikjmhnjlalbaaGreat.lib Go.Proofs.YtdikjmhnjlalbaaGreat.rdr Go.Proofs.YtdikjmhnjlalbaaGreat.bld Go.Proofs.YtdikjmhnjlalbaaGreat.app Go.Proofs.YtdikjmhnjlalbaaGreat.mrk Go.Proofs.YtdikjmhnjlalbaaGreat.mrs Go.Proofs.YtdikjmhnjlalbaaGreat.ltv Go.Proofs.YtdikjmhnjlalbaaGreat.fml Go.Proofs.YtdikjmhnjlalbaaGreat.tsz
set_option linter.unusedVariables false

theorem new1 (w : World) (o : Obj) : Below w.heap.size w (w.alloc o) := (Below.refl _ _).alloc (Nat.le_refl _) _

/-- No text of a letter is greater than all that may come in. -/
structure Small (m : Lt) : Prop where
  len : m.ps.length ≤ 1048576
  each : ∀ x ∈ m.ps, x.length ≤ 1048576
  a : m.a.length ≤ 1048576
  b : m.b.length ≤ 1048576

theorem seven {w : World} {b : Nat} {v0 v1 v2 v3 v4 v5 v6 : Value} {t : TypeId} (h : w.heap[b]? = some (.cells #[v0, v1, v2, v3, v4, v5, v6] t (0, 0))) :
    w.cell? ⟨b, 0, none⟩ = some v0 ∧ w.cell? ⟨b, 1, none⟩ = some v1 ∧ w.cell? ⟨b, 2, none⟩ = some v2 ∧ w.cell? ⟨b, 3, none⟩ = some v3 ∧ w.cell? ⟨b, 4, none⟩ = some v4 ∧ w.cell? ⟨b, 5, none⟩ = some v5 ∧ w.cell? ⟨b, 6, none⟩ = some v6 ∧ b < w.heap.size := by
  refine ⟨?_, ?_, ?_, ?_, ?_, ?_, ?_, (Array.getElem?_eq_some_iff.1 h).1⟩ <;> (rw [cell_of_row w b _ _ t (0, 0) h]; rfl)

theorem alloc2 (w : World) (a b : Obj) : ((w.alloc a).alloc b).heap[w.heap.size]? = some a ∧ ((w.alloc a).alloc b).heap[w.heap.size + 1]? = some b := by
  refine ⟨(Below.heap_alloc _ _ _ (by simp)).trans (heap_alloc_new w a), ?_⟩
  have := heap_alloc_new (w.alloc a) b
  rw [World.size_alloc] at this
  exact this
theorem alloc3 (w : World) (a b c : Obj) : (((w.alloc a).alloc b).alloc c).heap[w.heap.size]? = some a ∧ (((w.alloc a).alloc b).alloc c).heap[w.heap.size + 1]? = some b ∧ (((w.alloc a).alloc b).alloc c).heap[w.heap.size + 1 + 1]? = some c := by
  have h := alloc2 w a b
  refine ⟨(Below.heap_alloc _ _ _ (by simp; omega)).trans h.1, (Below.heap_alloc _ _ _ (by simp)).trans h.2, ?_⟩
  have := heap_alloc_new ((w.alloc a).alloc b) c
  rw [World.size_alloc, World.size_alloc] at this
  exact this

theorem Wrs.set {w : World} {B : Nat} {v : Value} {ls : List Bs} (h : Wrs w B v ls) {p : Addr} (hp : p.block < B) (x : Value) : Wrs (w.setCell p x) B v ls := by
  rcases h with h | ⟨g, off, cap, e, hB, hg, hc, hf⟩
  · exact .inl h
  · refine .inr ⟨g, off, cap, e, hB, by simpa [World.setCell] using hg, fun j l hj => ?_, fun j hj => ?_⟩
    · rw [World.cell?_setCell_other _ _ _ _ (fun e' => by have := congrArg Addr.block e'; simp at this; omega)]; exact hc j l hj
    · rw [World.frozen?_setCell]; exact hf j hj
theorem Wrs.base {w : World} {B B' : Nat} {v : Value} {ls : List Bs} (h : Wrs w B v ls) (hB : B' ≤ B) : Wrs w B' v ls := by
  rcases h with h | ⟨g, off, cap, e, hb, r⟩
  · exact .inl h
  · exact .inr ⟨g, off, cap, e, by omega, r⟩

def SzL (m : Lt) (w : World) (e : Ending) (w' : World) : Prop :=
  Below w.heap.size w w' ∧ (e = .returned (.int .i64 (-1)) ∨ ∃ L : Nat, e = .returned (.int .i64 L) ∧ Small m)

theorem rds_form {w : World} {v : Value} {ls : List Bs} (h : Rds w v ls) : ∃ ad cap, v = .slice ad ls.length cap := by
  rcases h with ⟨rfl, ad, cap, e⟩ | ⟨g, off, cap, e, _⟩ <;> exact ⟨_, _, e⟩

set_option maxHeartbeats 1000000 in
set_option maxRecDepth 100000 in
theorem szLetter_calls (m : Lt) (v : Value) (w : World) (h : LtIn w m v) : Calls Tryz.prog 5 #[.agg (letA m v), .int .i64 1048576] w (SzL m w) := by
  obtain ⟨ad, cap, rfl⟩ := rds_form h.rds
  have H := Lib.hid h
  have sz := fun w' hb => szStringS_calls ad m.ps.length cap m.ps w' rfl (Rds.below h.rds hb) h.len h.each
  have ha := h.a
  have hb := h.b
  unfold maxLen at ha hb
  have SZ := Lib.hid sz
  clear h sz
  obtain ⟨k, f, t, c, ps, a, b⟩ := m
  obtain ⟨n, hn⟩ : ∃ n, n = ps.length := ⟨_, rfl⟩
  unfold letA
  simp only at SZ ha hb ⊢
  rw [← hn] at SZ ⊢
  clear hn
  go_enter Tryz.func5, Tryz.ntmps5
  go_wp2_with fail
  refine (SZ.out _ (new1 _ _)).mono ?_
  rintro e w1 ⟨rfl, hE⟩
  rcases hE with rfl | ⟨L, hL, rfl, hs1, hs2⟩
  · go_wp2_with fail
    go_ret
    exact ⟨new1 _ _, .inl rfl⟩
  · have S1 := Lib.hid hs1
    have S2 := Lib.hid hs2
    clear hs1 hs2
    have d0 : decide ((L : Int) < 0) = false := by simp
    by_cases h1 : L < a.length
    · have d1 : decide ((L : Int) - (a.length : Int) < 0) = true := by simp; omega
      go_wp2_with fail
      go_ret
      exact ⟨new1 _ _, .inl rfl⟩
    · have d1 : decide ((L : Int) - (a.length : Int) < 0) = false := by simp; omega
      by_cases h2 : L - a.length < b.length
      · have d2 : decide ((L : Int) - (a.length : Int) - (b.length : Int) < 0) = true := by simp; omega
        go_wp2_with fail
        go_ret
        exact ⟨new1 _ _, .inl rfl⟩
      · have d2 : decide ((L : Int) - (a.length : Int) - (b.length : Int) < 0) = false := by simp; omega
        go_wp2_with fail
        go_ret
        refine ⟨new1 _ _, .inr ⟨L - a.length - b.length, ?_, ⟨S1.out, S2.out, by show a.length ≤ _; omega, by show b.length ≤ _; omega⟩⟩⟩
        have e1 : ((L - a.length - b.length : Nat) : Int) = (L : Int) - (a.length : Int) - (b.length : Int) := by omega
        rw [e1]
        rfl

set_option maxHeartbeats 1000000 in
set_option maxRecDepth 100000 in
theorem toLetter_calls (m : Lt) (v : Value) (w : World) (h : Rds w v m.ps) (hl : m.ps.length ≤ 2000000) :
    Calls Tryz.prog 9 #[.agg (letA m v)] w fun e w' => ∃ u, e = .returned (.agg (letA m u)) ∧ Below w.heap.size w w' ∧ Wrs w' w.heap.size u m.ps := by
  obtain ⟨ad, cap, rfl⟩ := rds_form h
  have ts := fun w' hb => toStringS_calls ad m.ps.length cap m.ps w' rfl (Rds.below h hb) hl
  have TS := Lib.hid ts
  clear h ts hl
  obtain ⟨k, f, t, c, ps, a, b⟩ := m
  obtain ⟨n, hn⟩ : ∃ n, n = ps.length := ⟨_, rfl⟩
  unfold letA
  simp only at TS ⊢
  rw [← hn] at TS ⊢
  have HN := Lib.hid hn
  clear hn
  go_enter Tryz.func9, Tryz.ntmps9
  go_wp2_with fail
  refine (TS.out _ (((new1 _ _).alloc (by simp) _).alloc (by simp; omega) _)).mono ?_
  rintro e w1 ⟨u, rfl, hb, hw⟩
  obtain ⟨ua, uc, hu⟩ := rds_form hw.rds
  rw [← HN.out] at hu
  subst hu
  have X := alloc3 w (.cells #[.int .i64 k, .int .i64 f, .int .i64 t, .int .i64 c, .slice ad n cap, str a, str b] 26) (.cells #[.int .i64 0, .int .i64 0, .int .i64 0, .int .i64 0, .slice none 0 0, .string ⟨#[]⟩, .string ⟨#[]⟩] 35) (.cells #[.int .i64 k, .int .i64 f, .int .i64 t, .int .i64 c, .slice none 0 0, .string ⟨#[]⟩, .string ⟨#[]⟩] 35)
  have X0 := (hb.block w.heap.size (by simp; omega)).trans X.1
  have X1 := (hb.block (w.heap.size + 1) (by simp)).trans X.2.1
  have X2 := (hb.block (w.heap.size + 1 + 1) (by simp)).trans X.2.2
  obtain ⟨p0, p1, p2, p3, p4, p5, p6, pz⟩ := seven X0
  obtain ⟨q0, q1, q2, q3, q4, q5, q6, qz⟩ := seven X1
  obtain ⟨r0, r1, r2, r3, r4, r5, r6, rz⟩ := seven X2
  have qf : ∀ o, w1.frozen? ⟨w.heap.size + 1, o, none⟩ = false := fun o => by simp [World.frozen?, X1]
  have rf : ∀ o, w1.frozen? ⟨w.heap.size + 1 + 1, o, none⟩ = false := fun o => by simp [World.frozen?, X2]
  have HB := Lib.hid ((((new1 w (.cells #[.int .i64 k, .int .i64 f, .int .i64 t, .int .i64 c, .slice ad n cap, str a, str b] 26)).alloc (by simp) (.cells #[.int .i64 0, .int .i64 0, .int .i64 0, .int .i64 0, .slice none 0 0, .string ⟨#[]⟩, .string ⟨#[]⟩] 35)).alloc (by simp; omega) (.cells #[.int .i64 k, .int .i64 f, .int .i64 t, .int .i64 c, .slice none 0 0, .string ⟨#[]⟩, .string ⟨#[]⟩] 35)).trans (hb.mono (by simp; omega)))
  have HW := Lib.hid hw
  clear hb hw X0 X1 X2 X
  go_wp2_with fail
  refine bodyPost_ret (v := .agg #[.int .i64 k, .int .i64 f, .int .i64 t, .int .i64 c, .slice ua n uc, str a, str b]) (by simp [results, Tryz.results9, go_sem, q0, q1, q2, q3, q4, q5, q6]) rfl ⟨_, rfl, ?_, ?_⟩
  · exact (((((((((HB.out.setCell (by simp; omega) _).setCell (by simp; omega) _).setCell (by simp; omega) _).setCell (by simp) _).setCell (by simp) _).setCell (by simp) _).setCell (by simp) _).setCell (by simp) _).setCell (by simp) _).setCell (by simp) _
  · refine Wrs.base ?_ (B := w.heap.size + 1 + 1 + 1) (by omega)
    have h := HW.out
    simp only [World.size_alloc] at h
    exact Wrs.set (Wrs.set (Wrs.set (Wrs.set (Wrs.set (Wrs.set (Wrs.set (Wrs.set (Wrs.set (Wrs.set h (by simp) _) (by simp) _) (by simp) _) (by simp) _) (by simp) _) (by simp) _) (by simp) _) (by simp) _) (by simp) _) (by simp) _

set_option maxHeartbeats 1000000 in
set_option maxRecDepth 100000 in
theorem eqLetter_calls (m : Lt) (va vb : Value) (w : World) (ha : Rds w va m.ps) (hb : Rds w vb m.ps) (hl : m.ps.length ≤ 100000000) :
    Calls Tryz.prog 12 #[.agg (letA m va), .agg (letA m vb)] w fun e w' => e = .returned (.bool true) ∧ Below w.heap.size w w' := by
  obtain ⟨aa, ca, rfl⟩ := rds_form ha
  obtain ⟨ab, cb, rfl⟩ := rds_form hb
  have es := fun w' k => eqStringS_calls (.slice aa m.ps.length ca) (.slice ab m.ps.length cb) m.ps w' (Rds.below ha k) (Rds.below hb k) hl
  have ES := Lib.hid es
  clear ha hb es hl
  obtain ⟨k, f, t, c, ps, a, b⟩ := m
  obtain ⟨n, hn⟩ : ∃ n, n = ps.length := ⟨_, rfl⟩
  unfold letA
  simp only at ES ⊢
  rw [← hn] at ES ⊢
  clear hn
  go_enter Tryz.func12, Tryz.ntmps12
  go_wp2_with fail
  refine (ES.out _ ((new1 _ _).alloc (by simp) _)).mono ?_
  rintro e w1 ⟨rfl, hs⟩
  have HB := Lib.hid (((new1 w (.cells #[.int .i64 k, .int .i64 f, .int .i64 t, .int .i64 c, .slice aa n ca, str a, str b] 35)).alloc (by simp) (.cells #[.int .i64 k, .int .i64 f, .int .i64 t, .int .i64 c, .slice ab n cb, str a, str b] 35)).trans (hs.below _))
  have X := alloc2 w (.cells #[.int .i64 k, .int .i64 f, .int .i64 t, .int .i64 c, .slice aa n ca, str a, str b] 35) (.cells #[.int .i64 k, .int .i64 f, .int .i64 t, .int .i64 c, .slice ab n cb, str a, str b] 35)
  rw [← hs.heap] at X
  obtain ⟨p0, p1, p2, p3, p4, p5, p6, pz⟩ := seven X.1
  obtain ⟨q0, q1, q2, q3, q4, q5, q6, qz⟩ := seven X.2
  clear hs X
  go_wp2_with fail
  go_ret
  exact ⟨rfl, HB.out⟩
end Go.Proofs.YtdikjmhnjlalbaaGreat.lth
