/- Contracts of the drawing functions of the model (spec.l01Src): the source, n, one: what is drawn lies in its bounds; nothing that was there is written but the source itself. -/
import Derived.Test.YtdikjmhnjlalbabGreatQb
import Derived.BigQuiet
import Derived.BigRegion
import Derived.RegionTactic
import Derived.Laws.OwnMore
namespace Go.Proofs.YtdikjmhnjlalbabGreat.drw
open Go.RowKit Go.Proofs.YtdikjmhnjlalbabGreat.lib
set_option linter.unusedVariables false

/-- A source of draws in block g, over the bytes at a0. -/
def Src (w : World) (g : Nat) (a0 : Option Addr) (len cap : Nat) : Prop :=
  ∃ (k : Nat) (mix sz : Int), k ≤ len ∧ w.heap[g]? = some (.cells #[.slice a0 len cap, .int .i64 k, .int .u64 mix, .int .i64 sz] 66 (0, 0))

/-- The bytes that came in can be read, and lie below block B. -/
def Rd (w : World) (B : Nat) (a0 : Option Addr) (len : Nat) : Prop :=
  len ≤ 9223372036854775807 ∧ ∀ i, i < len → ∃ b off, a0 = some ⟨b, off, none⟩ ∧ b < B ∧ ∃ v : Nat, v < 256 ∧ w.cell? ⟨b, off + i, none⟩ = some (.int .u8 v)

theorem Rd.below {w w' : World} {B : Nat} {a0 : Option Addr} {len : Nat} (h : Rd w B a0 len) (hb : Below B w w') : Rd w' B a0 len := by
  refine ⟨h.1, fun i hi => ?_⟩
  obtain ⟨b, off, h1, h2, v, h3, h4⟩ := h.2 i hi
  exact ⟨b, off, h1, h2, v, h3, (hb.cell (p := ⟨b, off + i, none⟩) h2).trans h4⟩

theorem Rd.mono {w : World} {B B' : Nat} {a0 : Option Addr} {len : Nat} (h : Rd w B a0 len) (hB : B ≤ B') : Rd w B' a0 len := by
  refine ⟨h.1, fun i hi => ?_⟩
  obtain ⟨b, off, h1, h2, v, h3, h4⟩ := h.2 i hi
  exact ⟨b, off, h1, by omega, v, h3, h4⟩

theorem four_cells {w : World} {g : Nat} {x y z u : Value} {t : TypeId} (h : w.heap[g]? = some (.cells #[x, y, z, u] t (0, 0))) :
    w.cell? ⟨g, 0, none⟩ = some x ∧ w.cell? ⟨g, 1, none⟩ = some y ∧ w.cell? ⟨g, 2, none⟩ = some z ∧ w.cell? ⟨g, 3, none⟩ = some u ∧
    w.frozen? ⟨g, 0, none⟩ = false ∧ w.frozen? ⟨g, 1, none⟩ = false ∧ w.frozen? ⟨g, 2, none⟩ = false ∧ w.frozen? ⟨g, 3, none⟩ = false :=
  ⟨by rw [cell_of_row w g 0 _ t (0, 0) h]; rfl, by rw [cell_of_row w g 1 _ t (0, 0) h]; rfl, by rw [cell_of_row w g 2 _ t (0, 0) h]; rfl, by rw [cell_of_row w g 3 _ t (0, 0) h]; rfl,
    frozen_of_row w g 0 _ t h, frozen_of_row w g 1 _ t h, frozen_of_row w g 2 _ t h, frozen_of_row w g 3 _ t h⟩

/-- From here on all that is known of the world is F. -/
theorem abs_wp {P : Program} {c : Code} {Q : Exit → Act → World → Prop} {a : Act} {W : World} (F : World → Prop) (hF : F W) (h : ∀ W', F W' → Code.wp P c Q a W') : Code.wp P c Q a W := h W hF

/-- The source's block, with these numbers in it; nothing else of w has turned. -/
def SrcAt (w : World) (g : Nat) (a0 : Option Addr) (len cap k : Nat) (sz : Int) (W : World) : Prop :=
  ∃ mix : Int, W.heap[g]? = some (.cells #[.slice a0 len cap, .int .i64 k, .int .u64 mix, .int .i64 sz] 66 (0, 0)) ∧ w.grownBy W (some g)

theorem grownBy_set (w : World) (b i : Nat) (v : Value) : w.grownBy (w.setCell ⟨b, i, none⟩ v) (some b) :=
  ⟨rfl, rfl, rfl, by simp [World.setCell], fun k _ hk => Below.heap_setCell _ _ _ _ (fun e => hk (by simp [e]))⟩
theorem grownBy_trans {a b c : World} {r : Option Nat} (h : a.grownBy b r) (k : b.grownBy c r) : a.grownBy c r :=
  ⟨k.os.trans h.os, k.tape.trans h.tape, k.output.trans h.output, Nat.le_trans h.size k.size, fun i hi hr => (k.block i (Nat.lt_of_lt_of_le hi h.size) hr).trans (h.block i hi hr)⟩

theorem heap_set {w : World} {g : Nat} {cs : Array Value} {t : TypeId} (h : w.heap[g]? = some (.cells cs t (0, 0))) (i : Nat) (v : Value) :
    (w.setCell ⟨g, i, none⟩ v).heap[g]? = some (.cells (cs.setIfInBounds i v) t (0, 0)) := heap_setCell_same w g i cs t v h

theorem SrcAt.mix {w W : World} {g : Nat} {a0 : Option Addr} {len cap k : Nat} {sz : Int} (h : SrcAt w g a0 len cap k sz W) (m : Int) : SrcAt w g a0 len cap k sz (W.setCell ⟨g, 2, none⟩ (.int .u64 m)) := by
  obtain ⟨mix, h1, h2⟩ := h
  exact ⟨m, heap_set h1 2 _, grownBy_trans h2 (grownBy_set _ _ _ _)⟩
theorem SrcAt.step {w W : World} {g : Nat} {a0 : Option Addr} {len cap k : Nat} {sz : Int} (h : SrcAt w g a0 len cap k sz W) (k' : Nat) (x : Int) (hx : x = (k' : Int)) : SrcAt w g a0 len cap k' sz (W.setCell ⟨g, 1, none⟩ (.int .i64 x)) := by
  obtain ⟨mix, h1, h2⟩ := h
  subst hx
  exact ⟨mix, heap_set h1 1 _, grownBy_trans h2 (grownBy_set _ _ _ _)⟩
theorem SrcAt.drewN {w W : World} {g : Nat} {a0 : Option Addr} {len cap k : Nat} {sz : Int} (h : SrcAt w g a0 len cap k sz W) (n : Nat) : SrcAt w g a0 len cap k sz (W.drewN n) := by
  obtain ⟨mix, h1, h2⟩ := h
  exact ⟨mix, h1, ⟨h2.os, h2.tape, h2.output, h2.size, h2.block⟩⟩
theorem SrcAt.drew {w W : World} {g : Nat} {a0 : Option Addr} {len cap k : Nat} {sz : Int} (h : SrcAt w g a0 len cap k sz W) : SrcAt w g a0 len cap k sz W.drew := by
  obtain ⟨mix, h1, h2⟩ := h
  exact ⟨mix, h1, ⟨h2.os, h2.tape, h2.output, h2.size, h2.block⟩⟩

theorem draw_bounds (X most : Int) (hm : 1 < most) (hM : most ≤ 9223372036854775807) : 0 ≤ wrap64 ((IntKind.u64.wrap X).tmod most) ∧ wrap64 ((IntKind.u64.wrap X).tmod most) < most := by
  have h0 : 0 ≤ IntKind.u64.wrap X := by rw [IntKind.wrap_u64]; omega
  have e : (IntKind.u64.wrap X).tmod most = IntKind.u64.wrap X % most := Int.tmod_eq_emod_of_nonneg h0
  have h1 := Int.emod_nonneg (IntKind.u64.wrap X) (show most ≠ 0 by omega)
  have h2 := Int.emod_lt_of_pos (IntKind.u64.wrap X) (show 0 < most by omega)
  rw [e, IntWalk.wrap64_in _ ⟨by omega, by omega⟩]
  exact ⟨h1, h2⟩

set_option maxRecDepth 100000 in
theorem n_calls (g : Nat) (a0 : Option Addr) (len cap : Nat) (most : Int) (hm : 1 < most) (hM : most ≤ 9223372036854775807) (B : Nat) (w : World) (hB : B ≤ g) (hs : Src w g a0 len cap) (hr : Rd w B a0 len) :
    Calls Tryz.prog 45 #[.pointer (some ⟨g, 0, none⟩), .int .i64 most] w fun e w' => (∃ r : Int, 0 ≤ r ∧ r < most ∧ e = .returned (.int .i64 r)) ∧ Src w' g a0 len cap ∧ w.grownBy w' (some g) := by
  obtain ⟨k, mix, sz, hk, hblk⟩ := hs
  obtain ⟨c0, c1, c2, c3, f0, f1, f2, f3⟩ := four_cells hblk
  have HB : SrcAt w g a0 len cap k sz w := ⟨mix, hblk, World.grownBy.refl _ _⟩
  clear hblk
  obtain ⟨hl, hr⟩ := hr
  have HR := Lib.hid hr; clear hr
  by_cases hlt : k < len
  · obtain ⟨b, off, rfl, hbB, v, hv, hc⟩ := HR.out k hlt
    go_enter Tryz.func45, Tryz.ntmps45
    go_wp2
    go_quiet (fail)
    go_wp2
    go_quiet (fail)
    go_wp2
    refine abs_wp (fun W => SrcAt w g (some ⟨b, off, none⟩) len cap (k + 1) sz W) ((HB.drewN _).step (k + 1) _ (by omega)) ?_
    clear HB c0 c1 c2 c3 f0 f1 f2 f3 hc
    rintro W1 H1
    obtain ⟨m1, hb1, -⟩ := id H1
    obtain ⟨c0, c1, c2, c3, f0, f1, f2, f3⟩ := four_cells hb1
    clear hb1
    go_region
    go_wp2
    refine abs_wp (fun W => SrcAt w g (some ⟨b, off, none⟩) len cap (k + 1) sz W) ((H1.drew).mix _) ?_
    clear H1 c0 c1 c2 c3 f0 f1 f2 f3
    rintro W2 H2
    obtain ⟨m2, hb2, -⟩ := id H2
    obtain ⟨c0, c1, c2, c3, f0, f1, f2, f3⟩ := four_cells hb2
    clear hb2
    go_region
    go_wp2
    refine abs_wp (fun W => SrcAt w g (some ⟨b, off, none⟩) len cap (k + 1) sz W) ((H2.drew).mix _) ?_
    clear H2 c0 c1 c2 c3 f0 f1 f2 f3
    rintro W3 H3
    obtain ⟨m3, hb3, -⟩ := id H3
    obtain ⟨c0, c1, c2, c3, f0, f1, f2, f3⟩ := four_cells hb3
    clear hb3
    go_region
    go_wp2
    go_ret
    obtain ⟨m4, e1, e2⟩ := (H3.mix _).drew
    exact ⟨⟨_, (draw_bounds _ most hm hM).1, (draw_bounds _ most hm hM).2, rfl⟩, ⟨k + 1, m4, sz, by omega, e1⟩, e2⟩
  · go_enter Tryz.func45, Tryz.ntmps45
    go_wp2
    go_quiet (fail)
    go_wp2
    refine abs_wp (fun W => SrcAt w g a0 len cap k sz W) (HB.drewN _) ?_
    clear HB c0 c1 c2 c3 f0 f1 f2 f3 
    rintro W1 H1
    obtain ⟨m1, hb1, -⟩ := id H1
    obtain ⟨c0, c1, c2, c3, f0, f1, f2, f3⟩ := four_cells hb1
    clear hb1
    go_region
    go_wp2
    refine abs_wp (fun W => SrcAt w g a0 len cap k sz W) ((H1.drew).mix _) ?_
    clear H1 c0 c1 c2 c3 f0 f1 f2 f3
    rintro W2 H2
    obtain ⟨m2, hb2, -⟩ := id H2
    obtain ⟨c0, c1, c2, c3, f0, f1, f2, f3⟩ := four_cells hb2
    clear hb2
    go_region
    go_wp2
    refine abs_wp (fun W => SrcAt w g a0 len cap k sz W) ((H2.drew).mix _) ?_
    clear H2 c0 c1 c2 c3 f0 f1 f2 f3
    rintro W3 H3
    obtain ⟨m3, hb3, -⟩ := id H3
    obtain ⟨c0, c1, c2, c3, f0, f1, f2, f3⟩ := four_cells hb3
    clear hb3
    go_region
    go_wp2
    go_ret
    obtain ⟨m4, e1, e2⟩ := (H3.mix _).drew
    exact ⟨⟨_, (draw_bounds _ most hm hM).1, (draw_bounds _ most hm hM).2, rfl⟩, ⟨k, m4, sz, by omega, e1⟩, e2⟩

theorem Src.kept {w w' : World} {g : Nat} {a0 : Option Addr} {len cap : Nat} (h : Src w g a0 len cap) {r : Option Nat} (hg : w.grownBy w' r) (hne : r ≠ some g) : Src w' g a0 len cap := by
  obtain ⟨k, mix, sz, hk, hb⟩ := h
  exact ⟨k, mix, sz, hk, (hg.block g (Array.getElem?_eq_some_iff.1 hb).1 (fun e => hne e.symm)).trans hb⟩

theorem Src.below2 {w w' : World} {g : Nat} {a0 : Option Addr} {len cap : Nat} (h : Src w g a0 len cap) (hb : Below (g + 1) w w') : Src w' g a0 len cap := by
  obtain ⟨k, mix, sz, hk, hh⟩ := h
  exact ⟨k, mix, sz, hk, (hb.block g (by omega)).trans hh⟩

theorem B8_kept {w w' : World} {g : Nat} {v : Value} {l : List UInt8} (h : B8 w (g + 1) v l) (hg : w.grownBy w' (some g)) : B8 w' (g + 1) v l := by
  refine World.ownsRow.kept h hg ?_
  cases hz : v.ownBlock with
  | none => exact .inl rfl
  | some k =>
    refine .inr fun e => ?_
    have := (World.ownsRow.lt h k hz).1
    simp at e
    omega

theorem one_calls (g : Nat) (a0 : Option Addr) (len cap : Nat) (most : Int) (hm : 1 < most) (hM : most ≤ 9223372036854775807) (B : Nat) (w : World) (hB : B ≤ g) (hs : Src w g a0 len cap) (hr : Rd w B a0 len) :
    Calls Tryz.prog 60 #[.pointer (some ⟨g, 0, none⟩), .int .i64 most] w fun e w' => (∃ b : Bool, e = .returned (.bool b)) ∧ Src w' g a0 len cap ∧ w.grownBy w' (some g) := by
  go_enter Tryz.func60, Tryz.ntmps60
  go_wp2_with fail
  refine (n_calls g a0 len cap most hm hM B w hB hs hr).mono ?_
  rintro e w' ⟨⟨r, r0, r1, rfl⟩, hs', hg'⟩
  go_wp2_with fail
  go_ret
  exact ⟨⟨_, rfl⟩, hs', hg'⟩

theorem set3 {w : World} {g : Nat} {a0 : Option Addr} {len cap : Nat} {k mix s : Int} (h : w.heap[g]? = some (.cells #[.slice a0 len cap, .int .i64 k, .int .u64 mix, .int .i64 s] 66 (0, 0))) (x : Int) :
    (w.setCell ⟨g, 3, none⟩ (.int .i64 x)).heap[g]? = some (.cells #[.slice a0 len cap, .int .i64 k, .int .u64 mix, .int .i64 x] 66 (0, 0)) := heap_set h 3 _

theorem fin3 {w wr : World} {a0 : Option Addr} {len cap : Nat} {mix s x : Int} (h : wr.heap[w.heap.size]? = some (.cells #[.slice a0 len cap, .int .i64 0, .int .u64 mix, .int .i64 s] 66 (0, 0))) (hb : Below w.heap.size w wr) (hz : w.heap.size < wr.heap.size) :
    Src (wr.setCell ⟨w.heap.size, 3, none⟩ (.int .i64 x)) w.heap.size a0 len cap ∧ Below w.heap.size w (wr.setCell ⟨w.heap.size, 3, none⟩ (.int .i64 x)) ∧ w.heap.size < (wr.setCell ⟨w.heap.size, 3, none⟩ (.int .i64 x)).heap.size :=
  ⟨⟨0, mix, x, Nat.zero_le _, set3 h x⟩, hb.setCell (Nat.le_refl _) _, by simpa using hz⟩
theorem fin33 {w wr : World} {a0 : Option Addr} {len cap : Nat} {mix s x y : Int} (h : wr.heap[w.heap.size]? = some (.cells #[.slice a0 len cap, .int .i64 0, .int .u64 mix, .int .i64 s] 66 (0, 0))) (hb : Below w.heap.size w wr) (hz : w.heap.size < wr.heap.size) :
    Src ((wr.setCell ⟨w.heap.size, 3, none⟩ (.int .i64 x)).setCell ⟨w.heap.size, 3, none⟩ (.int .i64 y)) w.heap.size a0 len cap ∧ Below w.heap.size w ((wr.setCell ⟨w.heap.size, 3, none⟩ (.int .i64 x)).setCell ⟨w.heap.size, 3, none⟩ (.int .i64 y)) ∧
      w.heap.size < ((wr.setCell ⟨w.heap.size, 3, none⟩ (.int .i64 x)).setCell ⟨w.heap.size, 3, none⟩ (.int .i64 y)).heap.size :=
  fin3 (set3 h x) (hb.setCell (Nat.le_refl _) _) (by simpa using hz)

set_option maxHeartbeats 400000 in
set_option maxRecDepth 100000 in
theorem source_calls (a0 : Option Addr) (len cap : Nat) (w : World) (hr : Rd w w.heap.size a0 len) :
    Calls Tryz.prog 30 #[.slice a0 len cap] w fun e w' => e = .returned (.pointer (some ⟨w.heap.size, 0, none⟩)) ∧ Src w' w.heap.size a0 len cap ∧ Below w.heap.size w w' ∧ w.heap.size < w'.heap.size := by
  have hl := hr.1
  go_enter Tryz.func30, Tryz.ntmps30
  go_wp2
  go_loopw [4] (fun i wr => ∃ (k : Nat) (mix : Int), i = .int .i64 k ∧ k ≤ len ∧ k ≤ 64 ∧ wr.heap[w.heap.size]? = some (.cells #[.slice a0 len cap, .int .i64 0, .int .u64 mix, .int .i64 0] 66 (0, 0)) ∧ Below w.heap.size w wr)
    (fun i _ => 64 - (intOf i).toNat)
  case atStart => exact ⟨0, 88172645463325252, rfl, by omega, by omega, heap_alloc_new w _, (Below.refl _ _).alloc (Nat.le_refl _) _⟩
  case round =>
    obtain ⟨k, mix, rfl, hk, hk6, hblk, hbel⟩ := hrel
    obtain ⟨c0, c1, c2, c3, f0, f1, f2, f3⟩ := four_cells hblk
    have hsz : w.heap.size < wr.heap.size := (Array.getElem?_eq_some_iff.1 hblk).1
    have HB := Lib.hid hblk; clear hblk
    by_cases hlt : k < len ∧ k < 64
    · obtain ⟨h1, h2⟩ := hlt
      obtain ⟨b, off, rfl, hbB, v, hv, hc0⟩ := hr.2 k h1
      have hc : wr.cell? ⟨b, off + k, none⟩ = some (.int .u8 v) := (hbel.cell (p := ⟨b, off + k, none⟩) hbB).trans hc0
      clear hc0
      have d1 : decide ((k : Int) < (len : Int)) = true := by simp; omega
      have d2 : decide ((k : Int) < 64) = true := by simp; omega
      go_wp2
      go_region
      go_wp2
      go_roundw
      case rel => exact ⟨k + 1, _, by go_num, by omega, by omega, heap_set HB.out 2 _, (hbel.drew).setCell (by simp) _⟩
      case measure => simp [intOf]; omega
    · have d : len ≤ k ∨ (k < len ∧ 64 ≤ k) := by omega
      clear hlt
      rcases d with d1 | ⟨d1, d2⟩
      all_goals
        go_wp2
        all_goals go_ret
        all_goals refine ⟨rfl, ?_⟩
        all_goals first
          | (with_reducible exact fin33 HB.out hbel hsz)
          | (with_reducible exact fin3 HB.out hbel hsz)
end Go.Proofs.YtdikjmhnjlalbabGreat.drw
