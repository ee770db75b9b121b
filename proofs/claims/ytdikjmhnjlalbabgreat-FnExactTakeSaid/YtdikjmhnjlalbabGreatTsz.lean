/- Contracts of the laws' helpers on []string: toStringS, szStringS. -/
import Derived.Test.YtdikjmhnjlalbabGreatRds
import Derived.Test.YtdikjmhnjlalbabGreatRow
import Derived.OwnWalk
namespace Go.Proofs.YtdikjmhnjlalbabGreat.tsz
open Go.RowKit Go.Proofs.YtdikjmhnjlalbabGreat.tm Go.Proofs.YtdikjmhnjlalbabGreat.lib Go.Proofs.YtdikjmhnjlalbabGreat.rdr Go.Proofs.YtdikjmhnjlalbabGreat.bld Go.Proofs.YtdikjmhnjlalbabGreat.app Go.Proofs.YtdikjmhnjlalbabGreat.mrk
set_option linter.unusedVariables false

structure Cp (b n : Nat) (ls : List Bs) (w wr : World) (k : Nat) : Prop where
  bel : Below w.heap.size w wr
  lt : b < wr.heap.size
  told : ∀ j l, j < k → ls[j]? = some l → wr.cell? ⟨b, j, none⟩ = some (str l)
  cell : ∀ j, j < n → ∃ l, wr.cell? ⟨b, j, none⟩ = some (str l)
  free : ∀ j, j < n → wr.frozen? ⟨b, j, none⟩ = false

theorem Cp.put {b n : Nat} {ls : List Bs} {w wr : World} {k : Nat} {x : Bs} (h : Cp b n ls w wr k) (hk : k < n) (hb : w.heap.size ≤ b) (hx : ls[k]? = some x) : Cp b n ls w (wr.setCell ⟨b, k, none⟩ (str x)) (k + 1) := by
  obtain ⟨l0, ck⟩ := h.cell k hk
  refine ⟨h.bel.setCell hb _, by simpa [World.setCell] using h.lt, fun j l hj hl => ?_, fun j hj => ?_, fun j hj => ?_⟩
  · by_cases e : j = k
    · subst e
      rw [hx] at hl
      cases hl
      exact World.cell?_setCell_same wr _ _ (by rw [ck])
    · rw [World.cell?_setCell_other _ _ _ _ (by intro e'; first | (simp at e'; done) | (simp at e'; omega))]
      exact h.told j l (by omega) hl
  · by_cases e : j = k
    · subst e
      exact ⟨x, World.cell?_setCell_same wr _ _ (by rw [ck])⟩
    · obtain ⟨l, h1⟩ := h.cell j hj
      refine ⟨l, ?_⟩
      rw [World.cell?_setCell_other _ _ _ _ (by intro e'; first | (simp at e'; done) | (simp at e'; omega))]
      exact h1
  · rw [World.frozen?_setCell]
    exact h.free j hj

theorem made_row {w w1 : World} {n : Nat} (h : w1.ownsRow w.heap.size 9 1 (.slice (some ⟨w.heap.size, 0, none⟩) n n) n (madeCells (Value.string ⟨#[]⟩).cells (n * 1)).toList) (hg : w.grownBy w1 none) (ls : List Bs) :
    Cp w.heap.size n ls w w1 0 := by
  have e : (madeCells (Value.string ⟨#[]⟩).cells (n * 1)).toList = (List.replicate n ([] : Bs)).map str := by
    show (madeCells #[Value.string ⟨#[]⟩] (n * 1)).toList = _
    rw [Nat.mul_one, toList_madeCells_one]
    simp
  rw [e] at h
  have hlt := (World.ownsRow.lt h w.heap.size rfl).2
  refine ⟨(Below.refl _ _).grown hg (Nat.le_refl _) (fun k e => by cases e), hlt, fun j l hj => by omega, fun j hj => ⟨[], ?_⟩, fun j hj => ?_⟩
  · have := World.ownsRow.cells h (g := w.heap.size) rfl j (str []) (by rw [List.getElem?_map, List.getElem?_replicate, if_pos hj]; rfl)
    rw [Addr.add_lit, Nat.zero_add] at this
    exact this
  · obtain ⟨_, h2⟩ := h
    rcases h2 with ⟨h0, _⟩ | ⟨g, cap, cur, e', hg', hh, _⟩
    · cases h0
    · cases e'
      simp [World.frozen?, hh]

set_option maxHeartbeats 1000000 in
set_option maxRecDepth 100000 in
theorem toStringS_calls (ad : Option Addr) (n cap : Nat) (ls : List Bs) (w : World) (hn : n = ls.length) (h : Rds w (.slice ad n cap) ls) (hl : ls.length ≤ 2000000) :
    Calls Tryz.prog 21 #[.slice ad n cap] w fun e w' => ∃ v, e = .returned v ∧ Below w.heap.size w w' ∧ mrs.Wrs w' w.heap.size v ls := by
  obtain ⟨i0, hi, hz0, hz1, hz2⟩ := info_parts infoS
  have hn2 : n ≤ 2000000 := by omega
  have H := Lib.hid h
  have HN := Lib.hid hn
  clear h hn hl
  go_enter Tryz.func21, Tryz.ntmps21
  go_wp2_with (at_make; refine wpList_make_full _ rfl (.tmp 6) (.tmp 6) 23 rfl w.heap.size 9 i0 (.string ⟨#[]⟩) 1 Tryz.underlying23 hi hz0 hz1 .i64 .i64 _ _ n rfl rfl rfl rfl (by rw [hz2]; omega) (by unfold maxLen; omega) (Nat.le_refl _) ?_; intro w1 hr1 hg1)
  have C1 := Lib.hid (made_row hr1 hg1 ls)
  clear hr1 hg1 hi hz0 hz1 hz2
  go_loopw [4, 8, 9, 10, 11, 12, 13, 14, 15, 16, 17, 18, 19, 20] (fun vi _ _ _ _ _ _ _ _ _ _ _ _ _ wr => ∃ k : Nat, k ≤ n ∧ vi = .int .i64 k ∧ Cp w.heap.size n ls w wr k) (fun vi _ _ _ _ _ _ _ _ _ _ _ _ _ _ => n - (intOf vi).toNat)
  case atStart => exact ⟨0, Nat.zero_le _, rfl, C1.out⟩
  case round =>
    obtain ⟨k, hk, rfl, hm⟩ := hrel
    have HM := Lib.hid hm
    clear hm
    by_cases hlt : k < n
    · have hk' : k < ls.length := by have := HN.out; omega
      obtain ⟨x, hx⟩ : ∃ x, ls[k]? = some x := ⟨_, List.getElem?_eq_getElem hk'⟩
      rcases H.out with ⟨h0, _⟩ | ⟨g, off, cap', e, hg, hc⟩
      · rw [h0] at hx; simp at hx
      cases e
      have c1 : wr.cell? ⟨g, off + k, none⟩ = some (str x) := by rw [← hc k x hx]; exact HM.out.bel.cell (p := ⟨g, off + k, none⟩) hg
      obtain ⟨l0, c2⟩ := HM.out.cell k hlt
      have f2 := HM.out.free k hlt
      have HX := Lib.hid hx
      clear hx hc hg
      go_wp2_with fail
      go_roundw
      case rel => exact ⟨k + 1, by omega, by go_num, HM.out.put hlt (Nat.le_refl _) HX.out⟩
      case measure => simp [intOf]; omega
    · obtain rfl : k = n := by omega
      go_wp2_with fail
      go_ret
      have hN := HN.out
      have f1 : ∀ j l, ls[j]? = some l → wr.cell? ⟨w.heap.size, 0 + j, none⟩ = some (str l) := fun j l hj => by
        rw [Nat.zero_add]
        refine HM.out.told j l ?_ hj
        rcases Nat.lt_or_ge j ls.length with h | h
        · omega
        · rw [List.getElem?_eq_none h] at hj; cases hj
      have f2 : ∀ j, j < ls.length → wr.frozen? ⟨w.heap.size, 0 + j, none⟩ = false := fun j hj => by
        rw [Nat.zero_add]; exact HM.out.free j (by omega)
      have e : Value.slice (some ⟨w.heap.size, 0, none⟩) k k = .slice (some ⟨w.heap.size, 0, none⟩) ls.length k := by rw [← hN]
      exact ⟨_, rfl, HM.out.bel, .inr ⟨w.heap.size, 0, k, e, Nat.le_refl _, HM.out.lt, f1, f2⟩⟩

def SzEnd (ls : List Bs) (w : World) (e : Ending) (w' : World) : Prop :=
  w = w' ∧ (e = .returned (.int .i64 (-1)) ∨ ∃ L : Nat, L ≤ 1048576 ∧ e = .returned (.int .i64 L) ∧ ls.length ≤ 1048576 ∧ ∀ x ∈ ls, x.length ≤ 1048576)

set_option maxHeartbeats 1000000 in
set_option maxRecDepth 100000 in
theorem szStringS_calls (ad : Option Addr) (n cap : Nat) (ls : List Bs) (w : World) (hn : n = ls.length) (h : Rds w (.slice ad n cap) ls) (hm : n ≤ maxLen) (hw : ∀ x ∈ ls, x.length ≤ maxLen) :
    Calls Tryz.prog 20 #[.slice ad n cap, .int .i64 1048576] w (SzEnd ls w) := by
  unfold maxLen at hm hw
  by_cases hbig : 1048576 < n
  · have d1 : decide ((1048576 : Int) - (n : Int) < 0) = true := by simp; omega
    clear hn h hw
    go_enter Tryz.func20, Tryz.ntmps20
    go_wp2_with fail
    go_ret
    exact ⟨rfl, .inl rfl⟩
  · have d1 : decide ((1048576 : Int) - (n : Int) < 0) = false := by simp; omega
    have H := Lib.hid h
    have HN := Lib.hid hn
    have HW := Lib.hid hw
    clear hn h hw
    go_enter Tryz.func20, Tryz.ntmps20
    go_wp2_with fail
    go_loopw [1, 5, 12, 13, 14, 15, 16, 17, 18, 19, 20, 21, 22, 23, 24, 25, 26] (fun vL vi _ _ _ _ _ _ _ _ _ _ _ _ _ _ _ wr => ∃ k L : Nat, k ≤ n ∧ L ≤ 1048576 ∧ vi = .int .i64 k ∧ vL = .int .i64 L ∧ wr = w ∧ Hid (∀ j x, j < k → ls[j]? = some x → x.length ≤ 1048576)) (fun _ vi _ _ _ _ _ _ _ _ _ _ _ _ _ _ _ _ => n - (intOf vi).toNat)
    case atStart => exact ⟨0, 1048576 - n, Nat.zero_le _, by omega, rfl, by congr 1; omega, rfl, Lib.hid fun j x hj => by omega⟩
    case round =>
      obtain ⟨k, L, hk, hL, rfl, rfl, rfl, HA⟩ := hrel
      by_cases hlt : k < n
      · have hk' : k < ls.length := by have := HN.out; omega
        obtain ⟨x, hx⟩ : ∃ x, ls[k]? = some x := ⟨_, List.getElem?_eq_getElem hk'⟩
        rcases H.out with ⟨h0, _⟩ | ⟨g, off, cap', e, hg, hc⟩
        · rw [h0] at hx; simp at hx
        cases e
        have c1 := hc k x hx
        have hxl := HW.out x (List.mem_of_getElem? hx)
        have HX := Lib.hid hx
        clear hx hc hg
        by_cases hLx : x.length ≤ L
        · have d2 : decide ((L : Int) - (x.length : Int) < 0) = false := by simp; omega
          go_wp2_with fail
          go_roundw
          case rel =>
            refine ⟨k + 1, L - x.length, by omega, by omega, by go_num, by congr 1; omega, by first | trivial | rfl, Lib.hid fun j y hj hy => ?_⟩
            by_cases e : j = k
            · subst e; rw [HX.out] at hy; cases hy; omega
            · exact HA.out j y (by omega) hy
          case measure => simp [intOf]; omega
        · have d2 : decide ((L : Int) - (x.length : Int) < 0) = true := by simp; omega
          go_wp2_with fail
          go_ret
          exact ⟨rfl, .inl rfl⟩
      · obtain rfl : k = n := by omega
        go_wp2_with fail
        go_ret
        refine ⟨rfl, .inr ⟨L, hL, rfl, by have := HN.out; omega, fun x hx => ?_⟩⟩
        obtain ⟨j, hj⟩ := List.getElem?_of_mem hx
        refine HA.out j x ?_ hj
        rcases Nat.lt_or_ge j ls.length with h | h
        · have := HN.out; omega
        · rw [List.getElem?_eq_none h] at hj; cases hj
end Go.Proofs.YtdikjmhnjlalbabGreat.tsz
