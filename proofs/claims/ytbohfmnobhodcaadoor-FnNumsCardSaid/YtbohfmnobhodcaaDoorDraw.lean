/- Contracts of the drawing functions of the model (spec.l01Src): edge, bytes. -/
import Derived.Test.YtbohfmnobhodcaaDoorDrn
namespace Go.Proofs.YtbohfmnobhodcaaDoor.drw
open Go.RowKit Go.Proofs.YtbohfmnobhodcaaDoor.lib
set_option linter.unusedVariables false

set_option maxRecDepth 100000 in
theorem edge_calls (g : Nat) (a0 : Option Addr) (len cap : Nat) (B : Nat) (w : World) (hB : B ≤ g) (hg : g < w.heap.size) (hs : Src w g a0 len cap) (hr : Rd w B a0 len) :
    Calls Tryd.prog 30 #[.pointer (some ⟨g, 0, none⟩)] w fun e w' => (∃ r : Int, -9223372036854775808 ≤ r ∧ r ≤ 9223372036854775807 ∧ e = .returned (.int .i64 r)) ∧ Src w' g a0 len cap ∧ Below B w w' := by
  go_enter Tryd.func30, Tryd.ntmps30
  go_wp2_with fail
  refine (n_calls g a0 len cap 14 (by omega) (by omega) B _ hB (hs.kept (World.grownBy_alloc w _ none) (by simp)) (hr.below ((Below.refl _ _).alloc (by omega) _))).mono ?_
  rintro e w' ⟨⟨r, r0, r1, rfl⟩, hs', hg'⟩
  have hh := hg'.block w.heap.size (by simp) (by simp; omega)
  rw [heap_alloc_new] at hh
  obtain ⟨n, rfl⟩ := Int.eq_ofNat_of_zero_le r0
  have hc : ∃ v : Int, w'.cell? ⟨w.heap.size, n, none⟩ = some (.int .i64 v) ∧ -9223372036854775808 ≤ v ∧ v ≤ 9223372036854775807 := by
    rw [cell_of_row w' w.heap.size n _ _ (0, 0) hh]
    match n, r1 with
    | 0, _ => exact ⟨_, rfl, by omega, by omega⟩
    | 1, _ => exact ⟨_, rfl, by omega, by omega⟩
    | 2, _ => exact ⟨_, rfl, by omega, by omega⟩
    | 3, _ => exact ⟨_, rfl, by omega, by omega⟩
    | 4, _ => exact ⟨_, rfl, by omega, by omega⟩
    | 5, _ => exact ⟨_, rfl, by omega, by omega⟩
    | 6, _ => exact ⟨_, rfl, by omega, by omega⟩
    | 7, _ => exact ⟨_, rfl, by omega, by omega⟩
    | 8, _ => exact ⟨_, rfl, by omega, by omega⟩
    | 9, _ => exact ⟨_, rfl, by omega, by omega⟩
    | 10, _ => exact ⟨_, rfl, by omega, by omega⟩
    | 11, _ => exact ⟨_, rfl, by omega, by omega⟩
    | 12, _ => exact ⟨_, rfl, by omega, by omega⟩
    | 13, _ => exact ⟨_, rfl, by omega, by omega⟩
    | n + 14, h => omega
  obtain ⟨v, hv, v0, v1⟩ := hc
  clear hh
  go_wp2
  go_ret
  exact ⟨⟨v, v0, v1, rfl⟩, hs', ((Below.refl _ _).alloc (by omega) _).grown hg' (by simp; omega) (fun k hk => by simp at hk; omega)⟩

set_option maxRecDepth 100000 in
theorem bytes_calls (g : Nat) (a0 : Option Addr) (len cap : Nat) (n : Nat) (hn : n ≤ 1000000) (B : Nat) (w : World) (hB : B ≤ g) (hg : g < w.heap.size) (hs : Src w g a0 len cap) (hr : Rd w B a0 len) :
    Calls Tryd.prog 26 #[.pointer (some ⟨g, 0, none⟩), .int .i64 n] w fun e w' => (∃ s : ByteArray, s.size = n ∧ e = .returned (.string s)) ∧ Src w' g a0 len cap ∧ Below B w w' := by
  go_enter Tryd.func26, Tryd.ntmps26
  go_wp2
  go_loopw [5, 6] (fun v i wr => ∃ (k : Nat) (l : List UInt8), i = .int .i64 k ∧ k ≤ n ∧ l.length = k ∧ B8 wr (g + 1) v l ∧ Src wr g a0 len cap ∧ Below B w wr ∧ w.heap.size < wr.heap.size)
    (fun _ i _ => n - (intOf i).toNat)
  case atStart => exact ⟨0, [], rfl, by omega, rfl, B8.empty _ _ (by omega), hs.kept (World.grownBy_alloc w _ none) (by simp), (Below.refl _ _).alloc (by omega) _, by simp⟩
  case round =>
    obtain ⟨k, l, rfl, hk, hl, hown, hsr, hbel, hsz⟩ := hrel
    have HL := Lib.hid hl; clear hl
    by_cases hlt : k < n
    · go_wp2_with fail
      refine (n_calls g a0 len cap 256 (by omega) (by omega) B wr hB hsr (hr.below hbel)).mono ?_
      rintro e w' ⟨⟨r, r0, r1, rfl⟩, hs', hg'⟩
      have hown' := B8_kept hown hg'
      have hz' := hg'.size
      have hb' : Below B w w' := hbel.grown hg' (by omega) (fun k hk => by simp at hk; omega)
      obtain ⟨b, HX⟩ : ∃ b : UInt8, Hid (r = (b.toNat : Int)) := by
        refine ⟨UInt8.ofNat r.toNat, ?_⟩
        unfold Hid
        rw [UInt8.toNat_ofNat']
        omega
      go_wp2_with (at_builtin; refine wp_put1 (.tmp 13) (.tmp 17) _ b (g + 1) _ l rfl rfl rfl hown' rfl HX.out (by rw [HL.out]; omega) (by omega) ?_; intro v' w2 hown2 hbel2)
      go_roundw
      case rel =>
        have hzz := hbel2.size
        exact ⟨k + 1, l ++ [b], by go_num, by omega, by rw [List.length_append, HL.out]; rfl, hown2, hs'.below2 hbel2, hb'.trans (hbel2.mono (by omega)), by omega⟩
      case measure => simp [intOf]; omega
    · go_wp2_with (refine wp_str (.tmp 19) (g + 1) _ l rfl rfl rfl hown ?_)
      go_ret
      exact ⟨⟨_, by simp [ByteArray.size, HL.out]; omega, rfl⟩, hsr, hbel⟩

end Go.Proofs.YtbohfmnobhodcaaDoor.drw
