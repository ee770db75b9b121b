/- Contracts of what FnNums draws: a number, a text. -/
import Derived.Test.YtbohfmnobhodcaaDoorDraw
import Derived.Test.YtbohfmnobhodcaaDoorRow
namespace Go.Proofs.YtbohfmnobhodcaaDoor.ndr
open Go.RowKit Go.Proofs.YtbohfmnobhodcaaDoor.lib Go.Proofs.YtbohfmnobhodcaaDoor.drw Go.Proofs.YtbohfmnobhodcaaDoor.row
set_option linter.unusedVariables false

def SomeNum (e : Ending) : Prop := ∃ r : Int, -9223372036854775808 ≤ r ∧ r ≤ 9223372036854775807 ∧ e = .returned (.int .i64 r)
def SomeStr (n : Nat) (e : Ending) : Prop := ∃ s : ByteArray, s.size ≤ n ∧ e = .returned (.string s)

set_option maxRecDepth 100000 in
theorem any_calls (g : Nat) (a0 : Option Addr) (len cap : Nat) (B : Nat) (w : World) (hB : B ≤ g) (hg : g < w.heap.size) (hs : Src w g a0 len cap) (hr : Rd w B a0 len) :
    Calls Tryd.prog 19 #[.pointer (some ⟨g, 0, none⟩)] w fun e w' => SomeNum e ∧ Below B w w' := by
  go_enter Tryd.func19, Tryd.ntmps19
  go_wp2_with fail
  refine (one_calls g a0 len cap 4 (by omega) (by omega) B w hB hs hr).mono ?_
  rintro e w2 ⟨⟨b, rfl⟩, hs2, hg2⟩
  have hb2 : Below B w w2 := (Below.refl _ _).grown hg2 (by omega) (fun k hk => by simp at hk; omega)
  have hz2 := hg2.size
  cases b
  · go_wp2_with fail
    refine (n_calls g a0 len cap 1099511627776 (by omega) (by omega) B w2 hB hs2 (hr.below hb2)).mono ?_
    rintro e w3 ⟨⟨r, r0, r1, rfl⟩, hs3, hg3⟩
    have hb3 : Below B w w3 := hb2.grown hg3 (by omega) (fun k hk => by simp at hk; omega)
    go_wp2_with fail
    go_ret
    exact ⟨⟨_, by omega, by omega, rfl⟩, hb3⟩
  · go_wp2_with fail
    refine (edge_calls g a0 len cap B w2 hB (by omega) hs2 (hr.below hb2)).mono ?_
    rintro e w3 ⟨⟨r, q0, q1, rfl⟩, hs3, hb3⟩
    go_wp2_with fail
    go_ret
    exact ⟨⟨r, q0, q1, rfl⟩, hb2.trans hb3⟩

set_option maxRecDepth 100000 in
theorem drawPutNum_calls (a0 : Option Addr) (len cap : Nat) (w : World) (hr : Rd w w.heap.size a0 len) :
    Calls Tryd.prog 6 #[.slice a0 len cap] w fun e w' => SomeNum e ∧ Below w.heap.size w w' := by
  go_enter Tryd.func6, Tryd.ntmps6
  go_wp2_with fail
  refine (source_calls a0 len cap w hr).mono ?_
  rintro e w1 ⟨rfl, hs1, hb1, hz1⟩
  go_wp2_with fail
  refine (any_calls _ a0 len cap w.heap.size w1 (Nat.le_refl _) (by omega) hs1 (hr.below hb1)).mono ?_
  rintro e w2 ⟨⟨r, q0, q1, rfl⟩, hb2⟩
  go_wp2_with fail
  go_ret
  exact ⟨⟨r, q0, q1, rfl⟩, hb1.trans hb2⟩

set_option maxRecDepth 100000 in
theorem drawPutText_calls (a0 : Option Addr) (len cap : Nat) (w : World) (hr : Rd w w.heap.size a0 len) :
    Calls Tryd.prog 10 #[.slice a0 len cap] w fun e w' => SomeStr 20002 e ∧ Below w.heap.size w w' := by
  go_enter Tryd.func10, Tryd.ntmps10
  go_wp2_with fail
  refine (source_calls a0 len cap w hr).mono ?_
  rintro e w1 ⟨rfl, hs1, hb1, hz1⟩
  go_wp2_with fail
  refine (one_calls _ a0 len cap 8 (by omega) (by omega) w.heap.size w1 (Nat.le_refl _) hs1 (hr.below hb1)).mono ?_
  rintro e w2 ⟨⟨b, rfl⟩, hs2, hg2⟩
  have hb2 : Below w.heap.size w w2 := hb1.grown hg2 (by omega) (fun k hk => by simp at hk; omega)
  have hz2 := hg2.size
  cases b
  · go_wp2_with fail
    refine (n_calls _ a0 len cap 20 (by omega) (by omega) w.heap.size w2 (Nat.le_refl _) hs2 (hr.below hb2)).mono ?_
    rintro e w3 ⟨⟨r, r0, r1, rfl⟩, hs3, hg3⟩
    have hb3 : Below w.heap.size w w3 := hb2.grown hg3 (by omega) (fun k hk => by simp at hk; omega)
    have hz3 := hg3.size
    obtain ⟨n, rfl⟩ := Int.eq_ofNat_of_zero_le r0
    go_wp2_with fail
    refine (bytes_calls _ a0 len cap n (by omega) w.heap.size w3 (Nat.le_refl _) (by omega) hs3 (hr.below hb3)).mono ?_
    rintro e w4 ⟨⟨s, hs, rfl⟩, hs4, hb4⟩
    have HS := Lib.hid hs; clear hs
    go_wp2_with fail
    go_ret
    exact ⟨⟨s, by rw [HS.out]; omega, rfl⟩, hb3.trans hb4⟩
  · go_wp2_with fail
    refine (n_calls _ a0 len cap 3 (by omega) (by omega) w.heap.size w2 (Nat.le_refl _) hs2 (hr.below hb2)).mono ?_
    rintro e w3 ⟨⟨r, r0, r1, rfl⟩, hs3, hg3⟩
    have hb3 : Below w.heap.size w w3 := hb2.grown hg3 (by omega) (fun k hk => by simp at hk; omega)
    have hz3 := hg3.size
    obtain ⟨n, rfl⟩ := Int.eq_ofNat_of_zero_le r0
    go_wp2_with (first
      | (at_make; refine wp_make (.tmp 10) (.tmp 10) (19999 + n) .i64 .i64 _ _ rfl rfl rfl rfl (by omega) (by omega) (by omega) ?_; intro w4 hr4 hb4 hz4)
      | (refine wp_strRow (.tmp 11) w3.heap.size (19999 + n) _ rfl rfl rfl hr4 (by simp) (by omega) ?_))
    go_ret
    exact ⟨⟨_, by simp [ByteArray.size]; omega, rfl⟩, hb3.trans (hb4.mono (by omega))⟩
end Go.Proofs.YtbohfmnobhodcaaDoor.ndr
