/- Several small texts, one behind the other. -/
import Derived.Test.YtdikjmhnjlalbaaGreatQl

/- szStringS, from whatever is left. -/
namespace Go.Proofs.YtdikjmhnjlalbaaGreat.szm
open Go.RowKit Go.Proofs.YtdikjmhnjlalbaaGreat.tm Go.Proofs.YtdikjmhnjlalbaaGreat.lib Go.Proofs.YtdikjmhnjlalbaaGreat.rdr Go.Proofs.YtdikjmhnjlalbaaGreat.bld Go.Proofs.YtdikjmhnjlalbaaGreat.app Go.Proofs.YtdikjmhnjlalbaaGreat.mrk Go.Proofs.YtdikjmhnjlalbaaGreat.tsz
set_option linter.unusedVariables false

set_option maxHeartbeats 1000000 in
set_option maxRecDepth 100000 in
theorem szFrom_calls (L0 : Nat) (hL0 : L0 ≤ 1048576) (ad : Option Addr) (n cap : Nat) (ls : List Bs) (w : World) (hn : n = ls.length) (h : Rds w (.slice ad n cap) ls) (hm : n ≤ maxLen) (hw : ∀ x ∈ ls, x.length ≤ maxLen) :
    Calls Tryz.prog 13 #[.slice ad n cap, .int .i64 (L0 : Nat)] w (SzEnd ls w) := by
  unfold maxLen at hm hw
  by_cases hbig : L0 < n
  · have d1 : decide ((L0 : Int) - (n : Int) < 0) = true := by simp; omega
    clear hn h hw
    go_enter Tryz.func13, Tryz.ntmps13
    go_wp2_with fail
    go_ret
    exact ⟨rfl, .inl rfl⟩
  · have d1 : decide ((L0 : Int) - (n : Int) < 0) = false := by simp; omega
    have H := Lib.hid h
    have HN := Lib.hid hn
    have HW := Lib.hid hw
    clear hn h hw
    go_enter Tryz.func13, Tryz.ntmps13
    go_wp2_with fail
    go_loopw [1, 5, 12, 13, 14, 15, 16, 17, 18, 19, 20, 21, 22, 23, 24, 25, 26] (fun vL vi _ _ _ _ _ _ _ _ _ _ _ _ _ _ _ wr => ∃ k L : Nat, k ≤ n ∧ L ≤ 1048576 ∧ vi = .int .i64 k ∧ vL = .int .i64 L ∧ wr = w ∧ Hid (∀ j x, j < k → ls[j]? = some x → x.length ≤ 1048576)) (fun _ vi _ _ _ _ _ _ _ _ _ _ _ _ _ _ _ _ => n - (intOf vi).toNat)
    case atStart => exact ⟨0, L0 - n, Nat.zero_le _, by omega, rfl, by congr 1; omega, rfl, Lib.hid fun j x hj => by omega⟩
    case round =>
      obtain ⟨k, L, hk, hL, rfl, rfl, rfl, HA⟩ := hrel
      by_cases hlt : k < n
      · have hk' : k < ls.length := by have := HN.out; omega
        obtain ⟨x, hx⟩ : ∃ x, ls[k]? = some x := ⟨_, List.getElem?_eq_getElem hk'⟩
        rcases H.out with ⟨h0, _⟩ | ⟨g, off, cap', e, hg, hc⟩
        · rw [h0] at hx; simp at hx
        cases e
        have c1 := hc k x hx
        have hxl := HW.out x (List.mem_of_getElem? hx)
        have HX := Lib.hid hx
        clear hx hc hg
        by_cases hLx : x.length ≤ L
        · have d2 : decide ((L : Int) - (x.length : Int) < 0) = false := by simp; omega
          go_wp2_with fail
          go_roundw
          case rel =>
            refine ⟨k + 1, L - x.length, by omega, by omega, by go_num, by congr 1; omega, by first | trivial | rfl, Lib.hid fun j y hj hy => ?_⟩
            by_cases e : j = k
            · subst e; rw [HX.out] at hy; cases hy; omega
            · exact HA.out j y (by omega) hy
          case measure => simp [intOf]; omega
        · have d2 : decide ((L : Int) - (x.length : Int) < 0) = true := by simp; omega
          go_wp2_with fail
          go_ret
          exact ⟨rfl, .inl rfl⟩
      · obtain rfl : k = n := by omega
        go_wp2_with fail
        go_ret
        refine ⟨rfl, .inr ⟨L, hL, rfl, by have := HN.out; omega, fun x hx => ?_⟩⟩
        obtain ⟨j, hj⟩ := List.getElem?_of_mem hx
        refine HA.out j x ?_ hj
        rcases Nat.lt_or_ge j ls.length with h | h
        · have := HN.out; omega
        · rw [List.getElem?_eq_none h] at hj; cases hj
end Go.Proofs.YtdikjmhnjlalbaaGreat.szm

/- szLetter of the laws, from whatever is left. -/
namespace Go.Proofs.YtdikjmhnjlalbaaGreat.lth
open Go.RowKit Go.Proofs.YtdikjmhnjlalbaaGreat.tm Go.Proofs.YtdikjmhnjlalbaaGreat.lib Go.Proofs.YtdikjmhnjlalbaaGreat.rdr Go.Proofs.YtdikjmhnjlalbaaGreat.bld Go.Proofs.YtdikjmhnjlalbaaGreat.app Go.Proofs.YtdikjmhnjlalbaaGreat.mrk Go.Proofs.YtdikjmhnjlalbaaGreat.ltv Go.Proofs.YtdikjmhnjlalbaaGreat.tsz Go.Proofs.YtdikjmhnjlalbaaGreat.fml
set_option linter.unusedVariables false

set_option maxHeartbeats 1000000 in
set_option maxRecDepth 100000 in
theorem szLetterFrom_calls (L0 : Nat) (hL0 : L0 ≤ 1048576) (m : Lt) (v : Value) (w : World) (h : LtIn w m v) : Calls Tryz.prog 5 #[.agg (letA m v), .int .i64 (L0 : Nat)] w fun e w' => Below w.heap.size w w' ∧ (e = .returned (.int .i64 (-1)) ∨ ∃ L : Nat, L ≤ 1048576 ∧ e = .returned (.int .i64 (L : Nat)) ∧ Small m) := by
  obtain ⟨ad, cap, rfl⟩ := rds_form h.rds
  have sz := fun w' hb => szm.szFrom_calls L0 hL0 ad m.ps.length cap m.ps w' rfl (Rds.below h.rds hb) h.len h.each
  have ha := h.a
  have hb := h.b
  unfold maxLen at ha hb
  have SZ := Lib.hid sz
  clear h sz
  obtain ⟨k, f, t, c, ps, a, b⟩ := m
  obtain ⟨n, hn⟩ : ∃ n, n = ps.length := ⟨_, rfl⟩
  unfold letA
  simp only at SZ ha hb ⊢
  rw [← hn] at SZ ⊢
  clear hn hL0
  go_enter Tryz.func5, Tryz.ntmps5
  go_wp2_with fail
  refine (SZ.out _ (new1 _ _)).mono ?_
  rintro e w1 ⟨rfl, hE⟩
  rcases hE with rfl | ⟨L, hL, rfl, hs1, hs2⟩
  · go_wp2_with fail
    go_ret
    exact ⟨new1 _ _, .inl rfl⟩
  · have S1 := Lib.hid hs1
    have S2 := Lib.hid hs2
    clear hs1 hs2
    have d0 : decide ((L : Int) < 0) = false := by simp
    by_cases h1 : L < a.length
    · have d1 : decide ((L : Int) - (a.length : Int) < 0) = true := by simp; omega
      go_wp2_with fail
      go_ret
      exact ⟨new1 _ _, .inl rfl⟩
    · have d1 : decide ((L : Int) - (a.length : Int) < 0) = false := by simp; omega
      by_cases h2 : L - a.length < b.length
      · have d2 : decide ((L : Int) - (a.length : Int) - (b.length : Int) < 0) = true := by simp; omega
        go_wp2_with fail
        go_ret
        exact ⟨new1 _ _, .inl rfl⟩
      · have d2 : decide ((L : Int) - (a.length : Int) - (b.length : Int) < 0) = false := by simp; omega
        go_wp2_with fail
        go_ret
        refine ⟨new1 _ _, .inr ⟨L - a.length - b.length, by omega, ?_, ⟨S1.out, S2.out, by show a.length ≤ _; omega, by show b.length ≤ _; omega⟩⟩⟩
        have e1 : ((L - a.length - b.length : Nat) : Int) = (L : Int) - (a.length : Int) - (b.length : Int) := by omega
        rw [e1]
        rfl
end Go.Proofs.YtdikjmhnjlalbaaGreat.lth
