/- Several small texts, one behind the other. -/
import Derived.Test.YtonjohlecomeoaaGreatQh
import Derived.Test.YtonjohlecomeoaaGreatQd

/- Contracts of the laws' helpers on []string: markStringS, heldStringS. -/
namespace Go.Proofs.YtonjohlecomeoaaGreat.mrs
open Go.RowKit Go.Sort Go.Proofs.YtonjohlecomeoaaGreat.tm Go.Proofs.YtonjohlecomeoaaGreat.lib Go.Proofs.YtonjohlecomeoaaGreat.rdr Go.Proofs.YtonjohlecomeoaaGreat.bld Go.Proofs.YtonjohlecomeoaaGreat.app Go.Proofs.YtonjohlecomeoaaGreat.mrk
set_option linter.unusedVariables false

/-- The marks from k on. -/
def marks (k n : Nat) : List Bs := (List.range n).map fun i => mkT (k + i)
theorem marks_len (k n : Nat) : (marks k n).length = n := by simp [marks]
theorem marks_at (k n j : Nat) (h : j < n) : (marks k n)[j]? = some (mkT (k + j)) := by simp [marks, h]

structure Mk (g off n k0 k : Nat) (w wr : World) : Prop where
  only : Only g w wr
  lt : g < wr.heap.size
  cell : ∀ j, j < n → ∃ l, wr.cell? ⟨g, off + j, none⟩ = some (str l) ∧ (j < k → l = mkT (k0 + j))
  free : ∀ j, j < n → wr.frozen? ⟨g, off + j, none⟩ = false

theorem Mk.below {g off n k0 k : Nat} {w wr w1 : World} (h : Mk g off n k0 k w wr) (hb : Below wr.heap.size wr w1) : Mk g off n k0 k w w1 := by
  refine ⟨h.only.trans (Only.of_below hb), Nat.lt_of_lt_of_le h.lt hb.size, fun j hj => ?_, fun j hj => ?_⟩
  · obtain ⟨l, h1, h2⟩ := h.cell j hj
    exact ⟨l, by rw [hb.cell (p := ⟨g, off + j, none⟩) h.lt]; exact h1, h2⟩
  · rw [hb.frozen (p := ⟨g, off + j, none⟩) h.lt]; exact h.free j hj

theorem Mk.put {g off n k0 k : Nat} {w w1 : World} (h : Mk g off n k0 k w w1) (hk : k < n) : Mk g off n k0 (k + 1) w (w1.setCell ⟨g, off + k, none⟩ (str (mkT (k0 + k)))) := by
  obtain ⟨lk, ck, _⟩ := h.cell k hk
  refine ⟨h.only.trans (Only.setCell _ _), by simpa [World.setCell] using h.lt, fun j hj => ?_, fun j hj => ?_⟩
  · by_cases e : j = k
    · subst e
      exact ⟨mkT (k0 + j), World.cell?_setCell_same w1 _ _ (by rw [ck]), fun _ => rfl⟩
    · obtain ⟨l, h1, h2⟩ := h.cell j hj
      refine ⟨l, ?_, fun hlt => h2 (by omega)⟩
      rw [World.cell?_setCell_other _ _ _ _ (by intro e'; first | (simp at e'; done) | (simp at e'; omega))]
      exact h1
  · rw [World.frozen?_setCell]
    exact h.free j hj

set_option maxHeartbeats 1000000 in
set_option maxRecDepth 100000 in
theorem markStringS_calls (v : Value) (ls : List Bs) (B : Nat) (w : World) (h : Wrs w B v ls) (hl : ls.length ≤ 10000000) (k0 : Nat) (hk1 : 1 ≤ k0) (hk2 : k0 ≤ 10000000) :
    Calls Tryz.prog 71 #[v, .int .i64 k0] w fun e w' => e = .returned (.int .i64 (k0 + ls.length : Nat)) ∧ Marked v ls w w' ∧ Rds w' v (marks k0 ls.length) := by
  rcases h with ⟨rfl, ad, cap, rfl⟩ | ⟨g, off, cap, rfl, hBg, hg, hc, hf⟩
  · go_enter Tryz.func71, Tryz.ntmps71
    go_wp2_with fail
    refine wp_loop_rounds 1 ?_
    rw [rounds_succ]
    go_wp2_with fail
    go_ret
    exact ⟨rfl, .inl ⟨rfl, Below.refl _ _⟩, .inl ⟨rfl, _, _, rfl⟩⟩
  · by_cases h0 : ls = []
    · subst h0
      clear hc hf
      go_enter Tryz.func71, Tryz.ntmps71
      go_wp2_with fail
      refine wp_loop_rounds 1 ?_
      rw [rounds_succ]
      go_wp2_with fail
      go_ret
      exact ⟨rfl, .inl ⟨rfl, Below.refl _ _⟩, .inl ⟨rfl, _, _, rfl⟩⟩
    have H0 := Lib.hid h0
    clear h0
    obtain ⟨n, hn⟩ : ∃ n, n = ls.length := ⟨_, rfl⟩
    have hM : Mk g off n k0 0 w w := ⟨Only.refl _ _, hg, fun j hj => ⟨_, hc j _ (List.getElem?_eq_getElem (by omega)), fun h => by omega⟩, fun j hj => hf j (by omega)⟩
    rw [← hn] at hl ⊢
    have HM := Lib.hid hM
    clear hc hf hn hM
    go_enter Tryz.func71, Tryz.ntmps71
    go_wp2_with fail
    go_loopw [1, 5, 6, 7, 8, 9, 10, 11, 12, 13, 14, 15, 16, 17, 18] (fun vk vi _ _ _ _ _ _ _ _ _ _ _ _ _ wr => ∃ k : Nat, k ≤ n ∧ vi = .int .i64 k ∧ vk = .int .i64 (k0 + k : Nat) ∧ Mk g off n k0 k w wr) (fun _ vi _ _ _ _ _ _ _ _ _ _ _ _ _ _ => n - (intOf vi).toNat)
    case atStart => exact ⟨0, Nat.zero_le _, rfl, rfl, HM.out⟩
    case round =>
      obtain ⟨k, hk, rfl, rfl, hm⟩ := hrel
      have HR := Lib.hid hm
      clear hm
      by_cases hlt : k < n
      · have a1 := markText_calls (k0 + k) (by omega) (by omega)
        obtain ⟨T, hT⟩ : ∃ T, T = mkT (k0 + k) := ⟨_, rfl⟩
        rw [← hT] at a1
        have HT := Lib.hid hT
        clear hT
        go_wp2_with fail
        refine (a1 _).mono ?_
        rintro e w1 ⟨rfl, hb⟩
        have HR1 := Lib.hid (HR.out.below hb)
        obtain ⟨l, c1, _⟩ := HR1.out.cell k hlt
        have f1 := HR1.out.free k hlt
        clear hb
        go_wp2_with fail
        go_roundw
        case rel => exact ⟨k + 1, by omega, by go_num, by go_num, by rw [HT.out]; exact HR1.out.put hlt⟩
        case measure => simp [intOf]; omega
      · obtain rfl : k = n := by omega
        go_wp2_with fail
        go_ret
        refine ⟨rfl, .inr ⟨H0.out, Aside.of_only HR.out.only rfl⟩, .inr ⟨g, off, cap, by rw [marks_len], HR.out.lt, fun j l hj => ?_⟩⟩
        have hj' : j < k := by
          rcases Nat.lt_or_ge j k with h | h
          · exact h
          · rw [List.getElem?_eq_none (by rw [marks_len]; exact h)] at hj; cases hj
        rw [marks_at _ _ _ hj'] at hj
        cases hj
        obtain ⟨l, h1, h2⟩ := HR.out.cell j hj'
        rw [h1, h2 hj']

set_option maxHeartbeats 1000000 in
set_option maxRecDepth 100000 in
theorem heldStringS_calls (v : Value) (n : Nat) (w : World) (k0 : Nat) (h : Rds w v (marks k0 n)) (hl : n ≤ 10000000) (hk1 : 1 ≤ k0) (hk2 : k0 ≤ 10000000) :
    Calls Tryz.prog 111 #[v, .int .i64 k0] w fun e w' => e = .returned (.int .i64 (k0 + n : Nat)) ∧ Below w.heap.size w w' := by
  rcases h with ⟨h, ad, cap, rfl⟩ | ⟨g, off, cap, rfl, hg, hc⟩
  · obtain rfl : n = 0 := by have := congrArg List.length h; rw [marks_len] at this; simpa using this
    clear h
    go_enter Tryz.func111, Tryz.ntmps111
    go_wp2_with fail
    refine wp_loop_rounds 1 ?_
    rw [rounds_succ]
    go_wp2_with fail
    go_ret
    exact ⟨rfl, Below.refl _ _⟩
  · rw [marks_len]
    have hcc : ∀ j, j < n → w.cell? ⟨g, off + j, none⟩ = some (str (mkT (k0 + j))) := fun j hj => hc j _ (marks_at k0 n j hj)
    have HC := Lib.hid hcc
    clear hc hcc
    go_enter Tryz.func111, Tryz.ntmps111
    go_wp2_with fail
    go_loopw [1, 5, 6, 7, 8, 9, 10, 11, 12, 13, 14, 15, 16, 17, 18, 19, 20] (fun vk vi _ _ _ _ _ _ _ _ _ _ _ _ _ _ _ wr => ∃ k : Nat, k ≤ n ∧ vi = .int .i64 k ∧ vk = .int .i64 (k0 + k : Nat) ∧ Below w.heap.size w wr) (fun _ vi _ _ _ _ _ _ _ _ _ _ _ _ _ _ _ _ => n - (intOf vi).toNat)
    case atStart => exact ⟨0, Nat.zero_le _, rfl, rfl, Below.refl _ _⟩
    case round =>
      obtain ⟨k, hk, rfl, rfl, hm⟩ := hrel
      have HR := Lib.hid hm
      by_cases hlt : k < n
      · have a1 := markText_calls (k0 + k) (by omega) (by omega)
        have c1 : wr.cell? ⟨g, off + k, none⟩ = some (str (mkT (k0 + k))) := by rw [hm.cell (p := ⟨g, off + k, none⟩) hg]; exact HC.out k hlt
        obtain ⟨T, hT⟩ : ∃ T, T = mkT (k0 + k) := ⟨_, rfl⟩
        rw [← hT] at a1 c1
        have hc2 := fun (d : Nat) (os : Array Obj) => cell_regrown (d := d) (os := os) c1
        clear hm hT
        go_wp2_with fail
        refine wp_region_quiet_below (by kernel_rfl) (by kernel_rfl) ?_
        repeat (quiet_step (exact Calls.regrown_of (a1 _)))
        refine wpQuiet_nil ?_
        rintro w2 ⟨⟨dq, osq⟩, hw2⟩
        have hb2 : Below wr.heap.size wr w2 := by rw [hw2]; exact below_regrown _ _ _
        have HB2 := Lib.hid (HR.out.trans (hb2.mono HR.out.size))
        clear hw2 hb2
        go_wp2_with fail
        go_roundw
        case rel => exact ⟨k + 1, by omega, by go_num, by go_num, HB2.out⟩
        case measure => simp [intOf]; omega
      · obtain rfl : k = n := by omega
        clear hm
        go_wp2_with fail
        go_ret
        exact ⟨rfl, HR.out⟩
end Go.Proofs.YtonjohlecomeoaaGreat.mrs

/- The laws' helpers on letters: markLetter, heldLetter. -/
namespace Go.Proofs.YtonjohlecomeoaaGreat.lto
open Go.RowKit Go.Proofs.YtonjohlecomeoaaGreat.tm Go.Proofs.YtonjohlecomeoaaGreat.lib Go.Proofs.YtonjohlecomeoaaGreat.rdr Go.Proofs.YtonjohlecomeoaaGreat.bld Go.Proofs.YtonjohlecomeoaaGreat.app Go.Proofs.YtonjohlecomeoaaGreat.mrk Go.Proofs.YtonjohlecomeoaaGreat.mrs Go.Proofs.YtonjohlecomeoaaGreat.ltv Go.Proofs.YtonjohlecomeoaaGreat.lth Go.Proofs.YtonjohlecomeoaaGreat.sgv
set_option linter.unusedVariables false

theorem keptM {W W' : World} {b : Nat} {o : Obj} {v : Value} {ls : List Bs} (h : W.heap[b]? = some o) (k : Marked v ls W W') (hne : ls ≠ [] → v.ownBlock ≠ some b) : W'.heap[b]? = some o := by
  rcases k with ⟨_, k⟩ | ⟨e, k⟩
  · exact (k.block b (Array.getElem?_eq_some_iff.1 h).1).trans h
  · exact (k.block b (Array.getElem?_eq_some_iff.1 h).1 (hne e)).trans h

theorem wrs_alloc {w : World} {B : Nat} {v : Value} {ls : List Bs} (h : Wrs w B v ls) (o : Obj) : Wrs (w.alloc o) B v ls := Wrs.below h (new1 w o)

set_option maxHeartbeats 1000000 in
set_option maxRecDepth 100000 in
theorem markL_calls (m : Lt) (v : Value) (B : Nat) (w : World) (h : Wrs w B v m.ps) (hl : m.ps.length ≤ 10000000) :
    Calls Tryz.prog 19 #[.agg (letA m v), .int .i64 1] w fun e w' => e = .returned (.int .i64 (1 + m.ps.length : Nat)) ∧ Marked v m.ps w w' ∧ Rds w' v (marks 1 m.ps.length) := by
  have hc := fun w (h : Wrs w B v m.ps) => markStringS_calls v m.ps B w h hl 1 (by omega) (by omega)
  obtain ⟨ad, cap, rfl⟩ := rds_form h.rds
  have H := Lib.hid h
  have HC := Lib.hid hc
  clear h hc hl
  obtain ⟨k, f, t, c, ps, a, b⟩ := m
  unfold letA
  simp only at H HC ⊢
  obtain ⟨n, hn⟩ : ∃ n, n = ps.length := ⟨_, rfl⟩
  rw [← hn] at H HC ⊢
  clear hn
  go_enter Tryz.func19, Tryz.ntmps19
  go_wp2_with fail
  refine (HC.out _ (wrs_alloc H.out _)).mono ?_
  rintro e w1 ⟨rfl, hb, hr⟩
  have HB := Lib.hid (Marked.after (new1 w (.cells #[.int .i64 k, .int .i64 f, .int .i64 t, .int .i64 c, .slice ad n cap, str a, str b] 24)) hb)
  have HR := Lib.hid hr
  clear hb hr
  go_wp2_with fail
  go_ret
  exact ⟨rfl, HB.out, HR.out⟩

set_option maxHeartbeats 1000000 in
set_option maxRecDepth 100000 in
theorem heldL_calls (m : Lt) (v : Value) (n : Nat) (w : World) (h : Rds w v (marks 1 n)) (hl : n ≤ 10000000) :
    Calls Tryz.prog 62 #[.agg (letA m v), .int .i64 1] w fun e w' => e = .returned (.int .i64 (1 + n : Nat)) ∧ Below w.heap.size w w' := by
  have hc := fun w' (k : Below w.heap.size w w') => heldStringS_calls v n w' 1 (Rds.below h k) hl (by omega) (by omega)
  obtain ⟨ad, cap, hv⟩ := rds_form h
  have HC := Lib.hid hc
  clear h hc hl
  obtain ⟨M, hM⟩ : ∃ M, M = 1 + n := ⟨_, rfl⟩
  rw [← hM] at HC ⊢
  subst hv
  obtain ⟨k, f, t, c, ps, a, b⟩ := m
  unfold letA
  simp only at HC ⊢
  obtain ⟨N, hN⟩ : ∃ N, N = (marks 1 n).length := ⟨_, rfl⟩
  rw [← hN] at HC ⊢
  have d0 : decide ((M : Int) < 0) = false := by simp
  clear hM hN
  go_enter Tryz.func62, Tryz.ntmps62
  go_wp2_with fail
  refine (HC.out _ (new1 _ _)).mono ?_
  rintro e w1 ⟨rfl, hb⟩
  have HB := Lib.hid ((new1 w (.cells #[.int .i64 k, .int .i64 f, .int .i64 t, .int .i64 c, .slice ad N cap, str a, str b] 24)).trans (hb.mono (by simp)))
  clear hb
  go_wp2_with fail
  go_ret
  exact ⟨rfl, HB.out⟩
end Go.Proofs.YtonjohlecomeoaaGreat.lto

/- What is signed has no more parts than what was handed in. -/
namespace Go.Proofs.YtonjohlecomeoaaGreat.ltl
open Go Go.Proofs.YtonjohlecomeoaaGreat.tm Go.Proofs.YtonjohlecomeoaaGreat.ltv Go.Proofs.YtonjohlecomeoaaGreat.ltp
theorem signR_le (m : Lt) (lock : Bs) : (signR m lock).1.ps.length ≤ m.ps.length := by
  unfold signR
  repeat' split
  all_goals simp [none0]
theorem twiceR_le (m : Lt) (lock : Bs) : (twiceR m lock).1.ps.length ≤ m.ps.length := by
  unfold twiceR
  repeat' split
  all_goals simp [none0]
end Go.Proofs.YtonjohlecomeoaaGreat.ltl
