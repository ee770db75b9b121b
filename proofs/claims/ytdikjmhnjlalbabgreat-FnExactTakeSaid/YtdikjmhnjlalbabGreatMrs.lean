/- Contracts of the laws' helpers on []string: markStringS, heldStringS. -/
import Derived.Test.YtdikjmhnjlalbabGreatMrk
namespace Go.Proofs.YtdikjmhnjlalbabGreat.mrs
open Go.RowKit Go.Sort Go.Proofs.YtdikjmhnjlalbabGreat.tm Go.Proofs.YtdikjmhnjlalbabGreat.lib Go.Proofs.YtdikjmhnjlalbabGreat.rdr Go.Proofs.YtdikjmhnjlalbabGreat.bld Go.Proofs.YtdikjmhnjlalbabGreat.app Go.Proofs.YtdikjmhnjlalbabGreat.mrk
set_option linter.unusedVariables false

/-- The marks from k on. -/
def marks (k n : Nat) : List Bs := (List.range n).map fun i => mkT (k + i)
theorem marks_len (k n : Nat) : (marks k n).length = n := by simp [marks]
theorem marks_at (k n j : Nat) (h : j < n) : (marks k n)[j]? = some (mkT (k + j)) := by simp [marks, h]

structure Mk (g off n k0 k : Nat) (w wr : World) : Prop where
  only : Only g w wr
  lt : g < wr.heap.size
  cell : ∀ j, j < n → ∃ l, wr.cell? ⟨g, off + j, none⟩ = some (str l) ∧ (j < k → l = mkT (k0 + j))
  free : ∀ j, j < n → wr.frozen? ⟨g, off + j, none⟩ = false

theorem Mk.below {g off n k0 k : Nat} {w wr w1 : World} (h : Mk g off n k0 k w wr) (hb : Below wr.heap.size wr w1) : Mk g off n k0 k w w1 := by
  refine ⟨h.only.trans (Only.of_below hb), Nat.lt_of_lt_of_le h.lt hb.size, fun j hj => ?_, fun j hj => ?_⟩
  · obtain ⟨l, h1, h2⟩ := h.cell j hj
    exact ⟨l, by rw [hb.cell (p := ⟨g, off + j, none⟩) h.lt]; exact h1, h2⟩
  · rw [hb.frozen (p := ⟨g, off + j, none⟩) h.lt]; exact h.free j hj

theorem Mk.put {g off n k0 k : Nat} {w w1 : World} (h : Mk g off n k0 k w w1) (hk : k < n) : Mk g off n k0 (k + 1) w (w1.setCell ⟨g, off + k, none⟩ (str (mkT (k0 + k)))) := by
  obtain ⟨lk, ck, _⟩ := h.cell k hk
  refine ⟨h.only.trans (Only.setCell _ _), by simpa [World.setCell] using h.lt, fun j hj => ?_, fun j hj => ?_⟩
  · by_cases e : j = k
    · subst e
      exact ⟨mkT (k0 + j), World.cell?_setCell_same w1 _ _ (by rw [ck]), fun _ => rfl⟩
    · obtain ⟨l, h1, h2⟩ := h.cell j hj
      refine ⟨l, ?_, fun hlt => h2 (by omega)⟩
      rw [World.cell?_setCell_other _ _ _ _ (by intro e'; first | (simp at e'; done) | (simp at e'; omega))]
      exact h1
  · rw [World.frozen?_setCell]
    exact h.free j hj

set_option maxHeartbeats 1000000 in
set_option maxRecDepth 100000 in
theorem markStringS_calls (v : Value) (ls : List Bs) (B : Nat) (w : World) (h : Wrs w B v ls) (hl : ls.length ≤ 10000000) (k0 : Nat) (hk1 : 1 ≤ k0) (hk2 : k0 ≤ 10000000) :
    Calls Tryz.prog 23 #[v, .int .i64 k0] w fun e w' => e = .returned (.int .i64 (k0 + ls.length : Nat)) ∧ Marked v ls w w' ∧ Rds w' v (marks k0 ls.length) := by
  rcases h with ⟨rfl, ad, cap, rfl⟩ | ⟨g, off, cap, rfl, hBg, hg, hc, hf⟩
  · go_enter Tryz.func23, Tryz.ntmps23
    go_wp2_with fail
    refine wp_loop_rounds 1 ?_
    rw [rounds_succ]
    go_wp2_with fail
    go_ret
    exact ⟨rfl, .inl ⟨rfl, Below.refl _ _⟩, .inl ⟨rfl, _, _, rfl⟩⟩
  · by_cases h0 : ls = []
    · subst h0
      clear hc hf
      go_enter Tryz.func23, Tryz.ntmps23
      go_wp2_with fail
      refine wp_loop_rounds 1 ?_
      rw [rounds_succ]
      go_wp2_with fail
      go_ret
      exact ⟨rfl, .inl ⟨rfl, Below.refl _ _⟩, .inl ⟨rfl, _, _, rfl⟩⟩
    have H0 := Lib.hid h0
    clear h0
    obtain ⟨n, hn⟩ : ∃ n, n = ls.length := ⟨_, rfl⟩
    have hM : Mk g off n k0 0 w w := ⟨Only.refl _ _, hg, fun j hj => ⟨_, hc j _ (List.getElem?_eq_getElem (by omega)), fun h => by omega⟩, fun j hj => hf j (by omega)⟩
    rw [← hn] at hl ⊢
    have HM := Lib.hid hM
    clear hc hf hn hM
    go_enter Tryz.func23, Tryz.ntmps23
    go_wp2_with fail
    go_loopw [1, 5, 6, 7, 8, 9, 10, 11, 12, 13, 14, 15, 16, 17, 18] (fun vk vi _ _ _ _ _ _ _ _ _ _ _ _ _ wr => ∃ k : Nat, k ≤ n ∧ vi = .int .i64 k ∧ vk = .int .i64 (k0 + k : Nat) ∧ Mk g off n k0 k w wr) (fun _ vi _ _ _ _ _ _ _ _ _ _ _ _ _ _ => n - (intOf vi).toNat)
    case atStart => exact ⟨0, Nat.zero_le _, rfl, rfl, HM.out⟩
    case round =>
      obtain ⟨k, hk, rfl, rfl, hm⟩ := hrel
      have HR := Lib.hid hm
      clear hm
      by_cases hlt : k < n
      · have a1 := markText_calls (k0 + k) (by omega) (by omega)
        obtain ⟨T, hT⟩ : ∃ T, T = mkT (k0 + k) := ⟨_, rfl⟩
        rw [← hT] at a1
        have HT := Lib.hid hT
        clear hT
        go_wp2_with fail
        refine (a1 _).mono ?_
        rintro e w1 ⟨rfl, hb⟩
        have HR1 := Lib.hid (HR.out.below hb)
        obtain ⟨l, c1, _⟩ := HR1.out.cell k hlt
        have f1 := HR1.out.free k hlt
        clear hb
        go_wp2_with fail
        go_roundw
        case rel => exact ⟨k + 1, by omega, by go_num, by go_num, by rw [HT.out]; exact HR1.out.put hlt⟩
        case measure => simp [intOf]; omega
      · obtain rfl : k = n := by omega
        go_wp2_with fail
        go_ret
        refine ⟨rfl, .inr ⟨H0.out, Aside.of_only HR.out.only rfl⟩, .inr ⟨g, off, cap, by rw [marks_len], HR.out.lt, fun j l hj => ?_⟩⟩
        have hj' : j < k := by
          rcases Nat.lt_or_ge j k with h | h
          · exact h
          · rw [List.getElem?_eq_none (by rw [marks_len]; exact h)] at hj; cases hj
        rw [marks_at _ _ _ hj'] at hj
        cases hj
        obtain ⟨l, h1, h2⟩ := HR.out.cell j hj'
        rw [h1, h2 hj']

set_option maxHeartbeats 1000000 in
set_option maxRecDepth 100000 in
theorem heldStringS_calls (v : Value) (n : Nat) (w : World) (k0 : Nat) (h : Rds w v (marks k0 n)) (hl : n ≤ 10000000) (hk1 : 1 ≤ k0) (hk2 : k0 ≤ 10000000) :
    Calls Tryz.prog 24 #[v, .int .i64 k0] w fun e w' => e = .returned (.int .i64 (k0 + n : Nat)) ∧ Below w.heap.size w w' := by
  rcases h with ⟨h, ad, cap, rfl⟩ | ⟨g, off, cap, rfl, hg, hc⟩
  · obtain rfl : n = 0 := by have := congrArg List.length h; rw [marks_len] at this; simpa using this
    clear h
    go_enter Tryz.func24, Tryz.ntmps24
    go_wp2_with fail
    refine wp_loop_rounds 1 ?_
    rw [rounds_succ]
    go_wp2_with fail
    go_ret
    exact ⟨rfl, Below.refl _ _⟩
  · rw [marks_len]
    have hcc : ∀ j, j < n → w.cell? ⟨g, off + j, none⟩ = some (str (mkT (k0 + j))) := fun j hj => hc j _ (marks_at k0 n j hj)
    have HC := Lib.hid hcc
    clear hc hcc
    go_enter Tryz.func24, Tryz.ntmps24
    go_wp2_with fail
    go_loopw [1, 5, 6, 7, 8, 9, 10, 11, 12, 13, 14, 15, 16, 17, 18, 19, 20] (fun vk vi _ _ _ _ _ _ _ _ _ _ _ _ _ _ _ wr => ∃ k : Nat, k ≤ n ∧ vi = .int .i64 k ∧ vk = .int .i64 (k0 + k : Nat) ∧ Below w.heap.size w wr) (fun _ vi _ _ _ _ _ _ _ _ _ _ _ _ _ _ _ _ => n - (intOf vi).toNat)
    case atStart => exact ⟨0, Nat.zero_le _, rfl, rfl, Below.refl _ _⟩
    case round =>
      obtain ⟨k, hk, rfl, rfl, hm⟩ := hrel
      have HR := Lib.hid hm
      by_cases hlt : k < n
      · have a1 := markText_calls (k0 + k) (by omega) (by omega)
        have c1 : wr.cell? ⟨g, off + k, none⟩ = some (str (mkT (k0 + k))) := by rw [hm.cell (p := ⟨g, off + k, none⟩) hg]; exact HC.out k hlt
        obtain ⟨T, hT⟩ : ∃ T, T = mkT (k0 + k) := ⟨_, rfl⟩
        rw [← hT] at a1 c1
        have hc2 := fun (d : Nat) (os : Array Obj) => cell_regrown (d := d) (os := os) c1
        clear hm hT
        go_wp2_with fail
        refine wp_region_quiet_below (by kernel_rfl) (by kernel_rfl) ?_
        repeat (quiet_step (exact Calls.regrown_of (a1 _)))
        refine wpQuiet_nil ?_
        rintro w2 ⟨⟨dq, osq⟩, hw2⟩
        have hb2 : Below wr.heap.size wr w2 := by rw [hw2]; exact below_regrown _ _ _
        have HB2 := Lib.hid (HR.out.trans (hb2.mono HR.out.size))
        clear hw2 hb2
        go_wp2_with fail
        go_roundw
        case rel => exact ⟨k + 1, by omega, by go_num, by go_num, HB2.out⟩
        case measure => simp [intOf]; omega
      · obtain rfl : k = n := by omega
        clear hm
        go_wp2_with fail
        go_ret
        exact ⟨rfl, HR.out⟩
end Go.Proofs.YtdikjmhnjlalbabGreat.mrs
