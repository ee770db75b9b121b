/- Several small texts, one behind the other. -/
import Derived.Test.YtdikjmhnjlalbabGreatQg
import Derived.Test.YtdikjmhnjlalbabGreatQe
import Derived.ProofKit
import Derived.OpenShut
import Derived.ShutString
import Derived.SliceStrings
import Derived.ChangeOld
import Derived.Below
import Derived.Test.YtdikjmhnjlalbabGreatDrnq
import Derived.Test.YtdikjmhnjlalbabGreatQc

/- A slice of texts that came in, read: for the frames of laws. -/
namespace Go.Proofs.YtdikjmhnjlalbabGreat.frm
open Go.ChangeShapes Go.WideShapes Go.ChangeAt Go.RowKit
open Go.ChangeMaps (open_string shut_string)
open Go.Proofs.YtdikjmhnjlalbabGreat.tm Go.Proofs.YtdikjmhnjlalbabGreat.bld Go.Proofs.YtdikjmhnjlalbabGreat.mrk
set_option linter.unusedVariables false

theorem rds_len {w : World} {v : Value} {ls : List Bs} (h : Rds w v ls) : ∃ a c, v = .slice a ls.length c := by
  rcases h with ⟨rfl, a, c, e⟩ | ⟨g, off, cap, e, _⟩
  · exact ⟨a, c, e⟩
  · exact ⟨_, _, e⟩

theorem open_rds {H : Type} {enc : TypeId × Value → H} {W : World} {ad : Option Addr} {len cap : Nat} {d : DataW H} {p : List MemPlace} (h : DataW.Trod enc Tryz.prog W 0 (fun _ => true) true 23 (.slice ad len cap) d p) :
    ∃ ls : List Bs, len = ls.length ∧ Rds W (.slice ad len cap) ls ∧ len ≤ maxLen ∧ ∀ x ∈ ls, x.length ≤ maxLen := by
  obtain ⟨fuel, hf⟩ := h
  rcases open_strings Tryz.underlying23 Tryz.underlying9 cellsS hf with ⟨hcs, hx⟩ | ⟨a, len', cap', ss, hcs, _, hl, hm, hz, hx, hcell, hws⟩
  · simp [Value.cells] at hcs
    obtain ⟨rfl, rfl, rfl⟩ := hcs
    exact ⟨[], rfl, .inl ⟨rfl, _, _, rfl⟩, Nat.zero_le _, by simp⟩
  · simp [Value.cells] at hcs
    obtain ⟨rfl, rfl, rfl⟩ := hcs
    simp only [if_true] at hz
    have hr : Rds W (.slice (some a) len cap) ((ss.take len).map fun s => s.data.toList) := by
      by_cases hl0 : len = 0
      · subst hl0
        exact .inl ⟨by simp, _, _, rfl⟩
      · obtain ⟨b, off, spot⟩ := a
        have hspot : spot = none := by simpa [Addr.add] using World.cell?_spot (hcell 0 (by omega))
        subst hspot
        have c0 := hcell 0 (by omega)
        have hbW : b < W.heap.size := block_lt_of_cell (by simpa [Addr.add] using c0)
        have hlen : ((ss.take len).map fun s => s.data.toList).length = len := by simp; omega
        refine .inr ⟨b, off, cap, by rw [hlen], hbW, fun j l hj => ?_⟩
        have hj' : j < len := by
          rcases Nat.lt_or_ge j len with h | h
          · exact h
          · rw [List.getElem?_eq_none (by rw [hlen]; exact h)] at hj; cases hj
        have c1 := hcell j (by omega)
        rw [add_plain] at c1
        rw [c1]
        rw [List.getElem?_map, List.getElem?_take_of_lt hj'] at hj
        cases hs : ss[j]? with
        | none => rw [hs] at hj; cases hj
        | some s =>
          rw [hs] at hj
          simp only [Option.map_some, Option.some.injEq] at hj
          subst hj
          have : ss.getD j ByteArray.empty = s := by simp [List.getD, hs]
          rw [this]
    refine ⟨_, by simp; omega, hr, by omega, fun x hx => ?_⟩
    obtain ⟨s, hs, rfl⟩ := List.mem_map.1 hx
    exact hws s (List.mem_of_mem_take hs)
end Go.Proofs.YtdikjmhnjlalbabGreat.frm

/- Lists of texts that lie apart: what stays when one of them is written. -/
namespace Go.Proofs.YtdikjmhnjlalbabGreat.mrd
open Go.RowKit Go.Proofs.YtdikjmhnjlalbabGreat.tm Go.Proofs.YtdikjmhnjlalbabGreat.lib Go.Proofs.YtdikjmhnjlalbabGreat.rdr Go.Proofs.YtdikjmhnjlalbabGreat.bld Go.Proofs.YtdikjmhnjlalbabGreat.app Go.Proofs.YtdikjmhnjlalbabGreat.mrk Go.Proofs.YtdikjmhnjlalbabGreat.mrs
set_option linter.unusedVariables false

/-- A list that is read: its block lies between lo and hi. -/
structure Rb (w : World) (lo hi : Nat) (v : Value) (ls : List Bs) : Prop where
  rds : Rds w v ls
  blk : ls ≠ [] → ∀ g, v.ownBlock = some g → lo ≤ g ∧ g < hi

/-- .. and may be written. -/
structure Wb (w : World) (lo hi : Nat) (v : Value) (ls : List Bs) : Prop where
  wrs : Wrs w lo v ls
  blk : ls ≠ [] → ∀ g, v.ownBlock = some g → lo ≤ g ∧ g < hi

theorem Wrs.own {w : World} {B : Nat} {v : Value} {ls : List Bs} (h : Wrs w B v ls) (hne : ls ≠ []) : ∀ g, v.ownBlock = some g → B ≤ g ∧ g < w.heap.size := by
  rcases h with ⟨h, _⟩ | ⟨g, off, cap, e, hB, hg, _⟩
  · exact absurd h hne
  · intro g' hg'
    rw [e] at hg'
    cases hg'
    exact ⟨hB, hg⟩

theorem Wrs.below {w w' : World} {B : Nat} {v : Value} {ls : List Bs} (h : Wrs w B v ls) (k : Below w.heap.size w w') : Wrs w' B v ls := by
  rcases h with h | ⟨g, off, cap, e, hB, hg, hc, hf⟩
  · exact .inl h
  · refine .inr ⟨g, off, cap, e, hB, Nat.lt_of_lt_of_le hg k.size, fun j l hj => ?_, fun j hj => ?_⟩
    · rw [← hc j l hj]; exact k.cell (p := ⟨g, off + j, none⟩) hg
    · rw [← hf j hj]; exact k.frozen (p := ⟨g, off + j, none⟩) hg

theorem Wb.of {w : World} {lo : Nat} {v : Value} {ls : List Bs} (h : Wrs w lo v ls) : Wb w lo w.heap.size v ls := ⟨h, fun hne g hg => Wrs.own h hne g hg⟩
theorem Wb.rb {w : World} {lo hi : Nat} {v : Value} {ls : List Bs} (h : Wb w lo hi v ls) : Rb w lo hi v ls := ⟨h.wrs.rds, h.blk⟩
theorem Rb.of {w : World} {B : Nat} {v : Value} {ls : List Bs} (h : Strs w B v ls) : Rb w B w.heap.size v ls := (Wb.of (Strs.wrs h)).rb

theorem Rb.below {w w' : World} {lo hi : Nat} {v : Value} {ls : List Bs} (h : Rb w lo hi v ls) (k : Below w.heap.size w w') : Rb w' lo hi v ls := ⟨Rds.below h.rds k, h.blk⟩
theorem Wb.below {w w' : World} {lo hi : Nat} {v : Value} {ls : List Bs} (h : Wb w lo hi v ls) (k : Below w.heap.size w w') : Wb w' lo hi v ls := ⟨Wrs.below h.wrs k, h.blk⟩

/-- Another list is written: this one, apart from it, is left as it was. -/
theorem Rb.apart {w w' : World} {lo hi lo' hi' : Nat} {v u : Value} {ls ms : List Bs} (h : Rb w lo hi v ls) (k : Marked u ms w w') (hu : ms ≠ [] → ∀ g, u.ownBlock = some g → lo' ≤ g ∧ g < hi') (ha : hi ≤ lo' ∨ hi' ≤ lo) : Rb w' lo hi v ls := by
  rcases k with ⟨_, k⟩ | ⟨e, k⟩
  · exact h.below k
  · refine ⟨?_, h.blk⟩
    rcases h.rds with ⟨h1, h2⟩ | ⟨g, off, cap, e2, hg, hc⟩
    · exact .inl ⟨h1, h2⟩
    · refine .inr ⟨g, off, cap, e2, Nat.lt_of_lt_of_le hg k.size, fun j l hj => ?_⟩
      have h3 := h.blk (fun e3 => by rw [e3] at hj; simp at hj) g (by rw [e2]; rfl)
      rw [← hc j l hj]
      exact World.cell?_of_block (w := w) (k.block g hg fun e' => by have := hu e g e'; omega)

theorem Wb.apart {w w' : World} {lo hi lo' hi' : Nat} {v u : Value} {ls ms : List Bs} (h : Wb w lo hi v ls) (k : Marked u ms w w') (hu : ms ≠ [] → ∀ g, u.ownBlock = some g → lo' ≤ g ∧ g < hi') (ha : hi ≤ lo' ∨ hi' ≤ lo) : Wb w' lo hi v ls := by
  rcases k with ⟨_, k⟩ | ⟨e, k⟩
  · exact h.below k
  · refine ⟨?_, h.blk⟩
    rcases h.wrs with ⟨h1, h2⟩ | ⟨g, off, cap, e2, hB, hg, hc, hf⟩
    · exact .inl ⟨h1, h2⟩
    · have hne : 0 < ls.length → ls ≠ [] := fun h3 e3 => by rw [e3] at h3; simp at h3
      have hb : 0 < ls.length → w'.heap[g]? = w.heap[g]? := fun h3 => k.block g hg fun e' => by
        have h4 := h.blk (hne h3) g (by rw [e2]; rfl)
        have := hu e g e'
        omega
      refine .inr ⟨g, off, cap, e2, hB, Nat.lt_of_lt_of_le hg k.size, fun j l hj => ?_, fun j hj => ?_⟩
      · rw [← hc j l hj]
        exact World.cell?_of_block (w := w) (hb (by have := (List.getElem?_eq_some_iff.1 hj).1; omega))
      · rw [← hf j hj]
        exact World.frozen?_of_block (w := w) (hb (by omega))

theorem Marked.low {w W W' : World} {v : Value} {ls : List Bs} {B lo hi : Nat} (h : Below B w W) (k : Marked v ls W W') (hB : B ≤ W.heap.size) (hv : ls ≠ [] → ∀ g, v.ownBlock = some g → lo ≤ g ∧ g < hi) (hl : B ≤ lo) : Below B w W' := by
  rcases k with ⟨_, k⟩ | ⟨e, k⟩
  · exact h.trans (k.mono hB)
  · exact h.trans (k.below hB fun g hg => Nat.le_trans hl (hv e g hg).1)
end Go.Proofs.YtdikjmhnjlalbabGreat.mrd

/- Contracts of the model's drawing functions that tell texts: pick, l02Atom. Of the text only a bound of its length is told; of what was there only the source turns. -/
namespace Go.Proofs.YtdikjmhnjlalbabGreat.drp
open Go.RowKit Go.Proofs.YtdikjmhnjlalbabGreat.tm Go.Proofs.YtdikjmhnjlalbabGreat.lib Go.Proofs.YtdikjmhnjlalbabGreat.rdr Go.Proofs.YtdikjmhnjlalbabGreat.drw
set_option linter.unusedVariables false

theorem Only.of_grown {w w' : World} {g : Nat} (h : w.grownBy w' (some g)) : Only g w w' :=
  ⟨h.os, h.tape, h.output, h.size, fun k hk hne => h.block k hk (by simpa using hne)⟩
theorem Only.alloc' (w : World) (o : Obj) (g : Nat) : Only g w (w.alloc o) :=
  ⟨rfl, rfl, rfl, by simp, fun k hk _ => Below.heap_alloc _ _ k hk⟩

/-- What stands while it is drawn. -/
structure Sd (w : World) (g : Nat) (a0 : Option Addr) (len cap B : Nat) : Prop where
  src : Src w g a0 len cap
  rd : Rd w B a0 len
  le : B ≤ g
  lt : g < w.heap.size

theorem Sd.only {w w' : World} {g : Nat} {a0 : Option Addr} {len cap B : Nat} (h : Sd w g a0 len cap B) (k : Only g w w') (s : Src w' g a0 len cap) : Sd w' g a0 len cap B := by
  refine ⟨s, ?_, h.le, Nat.lt_of_lt_of_le h.lt k.size⟩
  refine h.rd.below ⟨k.os, k.tape, k.output, k.size, fun i hi => ?_⟩
  by_cases hs : i < w.heap.size
  · exact k.block i hs (by have := h.le; omega)
  · have := h.le; have := h.lt; omega
theorem Sd.alloc {w : World} {g : Nat} {a0 : Option Addr} {len cap B : Nat} (h : Sd w g a0 len cap B) (o : Obj) : Sd (w.alloc o) g a0 len cap B :=
  h.only (Only.alloc' w o g) (h.src.kept (World.grownBy_alloc w o none) (by simp))

/-- A text of at most n bytes has been drawn. -/
def Tld (n g : Nat) (a0 : Option Addr) (len cap : Nat) (w : World) (e : Ending) (w' : World) : Prop :=
  ∃ s : Bs, s.length ≤ n ∧ e = .returned (.string ⟨s.toArray⟩) ∧ Src w' g a0 len cap ∧ Only g w w'

set_option maxRecDepth 100000 in
/-- Below a bound of one there is 0 alone: nothing is drawn. -/
theorem n_small (g : Nat) (most : Int) (hm : most ≤ 1) (w : World) :
    Calls Tryz.prog 45 #[.pointer (some ⟨g, 0, none⟩), .int .i64 most] w fun e w' => e = .returned (.int .i64 0) ∧ w = w' := by
  have d1 : decide (most ≤ 1) = true := by simpa using hm
  go_enter Tryz.func45, Tryz.ntmps45
  go_wp2_with fail
  go_ret
  exact ⟨rfl, rfl⟩

set_option maxRecDepth 100000 in
theorem pick_calls (g : Nat) (a0 : Option Addr) (len cap B : Nat) (b m c : Nat) (hm : 1 < m) (hm2 : m ≤ 1000) (n : Nat) (w : World) (h : Sd w g a0 len cap B) (hb : b < w.heap.size) (hbg : b ≠ g)
    (hc : ∀ j, j < m → ∃ s : Bs, s.length ≤ n ∧ w.cell? ⟨b, j, none⟩ = some (.string ⟨s.toArray⟩)) :
    Calls Tryz.prog 67 #[.pointer (some ⟨g, 0, none⟩), .slice (some ⟨b, 0, none⟩) m c] w (Tld n g a0 len cap w) := by
  have H := Lib.hid h
  have HC := Lib.hid hc
  clear h hc
  go_enter Tryz.func67, Tryz.ntmps67
  go_wp2_with fail
  refine (n_calls g a0 len cap m (by omega) (by omega) B w H.out.le H.out.src H.out.rd).mono ?_
  rintro e w1 ⟨⟨r, r0, r1, rfl⟩, hs1, hg1⟩
  obtain ⟨j, rfl⟩ := Int.eq_ofNat_of_zero_le r0
  obtain ⟨s, hsn, hcell⟩ := HC.out j (by omega)
  have c1 : w1.cell? ⟨b, j, none⟩ = some (.string ⟨s.toArray⟩) := by
    rw [← hcell]
    exact World.cell?_of_block (hg1.block b hb (by simpa using hbg))
  have HS := Lib.hid hs1
  have HG := Lib.hid hg1
  clear hs1 hg1 hcell
  go_wp2_with fail
  go_ret
  exact ⟨s, hsn, rfl, HS.out, Only.of_grown HG.out⟩

set_option maxRecDepth 100000 in
theorem atom_calls (g : Nat) (a0 : Option Addr) (len cap B : Nat) (w : World) (h : Sd w g a0 len cap B) :
    Calls Tryz.prog 77 #[.pointer (some ⟨g, 0, none⟩)] w (Tld 8 g a0 len cap w) := by
  have H := Lib.hid h
  have hne := h.lt
  clear h
  go_enter Tryz.func77, Tryz.ntmps77
  go_wp2_with fail
  refine (pick_calls g a0 len cap B w.heap.size 6 6 (by omega) (by omega) 8 _ (H.out.alloc _) (by simp) (by omega) ?_).mono ?_
  · intro j hj
    match j, hj with
    | 0, _ => exact ⟨[97], by decide, by simp [go_sem]⟩
    | 1, _ => exact ⟨[98], by decide, by simp [go_sem]⟩
    | 2, _ => exact ⟨[99], by decide, by simp [go_sem]⟩
    | 3, _ => exact ⟨[120, 49], by decide, by simp [go_sem]⟩
    | 4, _ => exact ⟨[107, 101, 121], by decide, by simp [go_sem]⟩
    | 5, _ => exact ⟨[109], by decide, by simp [go_sem]⟩
    | j + 6, h => omega
  · rintro e w1 ⟨s, hs, rfl, h1, h2⟩
    have H1 := Lib.hid h1
    have H2 := Lib.hid h2
    clear h1 h2
    go_wp2_with fail
    go_ret
    exact ⟨s, hs, rfl, H1.out, (Only.alloc' w _ g).trans H2.out⟩
end Go.Proofs.YtdikjmhnjlalbabGreat.drp
