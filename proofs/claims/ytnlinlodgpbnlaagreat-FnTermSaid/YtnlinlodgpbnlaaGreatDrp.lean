/- Contracts of the model's drawing functions that tell texts: pick, l02Atom. Of the text only a bound of its length is told; of what was there only the source turns. -/
import Derived.Test.YtnlinlodgpbnlaaGreatDrn
import Derived.Test.YtnlinlodgpbnlaaGreatRdr
namespace Go.Proofs.YtnlinlodgpbnlaaGreat.drp
open Go.RowKit Go.Proofs.YtnlinlodgpbnlaaGreat.tm Go.Proofs.YtnlinlodgpbnlaaGreat.lib Go.Proofs.YtnlinlodgpbnlaaGreat.rdr Go.Proofs.YtnlinlodgpbnlaaGreat.drw
set_option linter.unusedVariables false

theorem Only.of_grown {w w' : World} {g : Nat} (h : w.grownBy w' (some g)) : Only g w w' :=
  ⟨h.os, h.tape, h.output, h.size, fun k hk hne => h.block k hk (by simpa using hne)⟩
theorem Only.alloc' (w : World) (o : Obj) (g : Nat) : Only g w (w.alloc o) :=
  ⟨rfl, rfl, rfl, by simp, fun k hk _ => Below.heap_alloc _ _ k hk⟩

/-- What stands while it is drawn. -/
structure Sd (w : World) (g : Nat) (a0 : Option Addr) (len cap B : Nat) : Prop where
  src : Src w g a0 len cap
  rd : Rd w B a0 len
  le : B ≤ g
  lt : g < w.heap.size

theorem Sd.only {w w' : World} {g : Nat} {a0 : Option Addr} {len cap B : Nat} (h : Sd w g a0 len cap B) (k : Only g w w') (s : Src w' g a0 len cap) : Sd w' g a0 len cap B := by
  refine ⟨s, ?_, h.le, Nat.lt_of_lt_of_le h.lt k.size⟩
  refine h.rd.below ⟨k.os, k.tape, k.output, k.size, fun i hi => ?_⟩
  by_cases hs : i < w.heap.size
  · exact k.block i hs (by have := h.le; omega)
  · have := h.le; have := h.lt; omega
theorem Sd.alloc {w : World} {g : Nat} {a0 : Option Addr} {len cap B : Nat} (h : Sd w g a0 len cap B) (o : Obj) : Sd (w.alloc o) g a0 len cap B :=
  h.only (Only.alloc' w o g) (h.src.kept (World.grownBy_alloc w o none) (by simp))

/-- A text of at most n bytes has been drawn. -/
def Tld (n g : Nat) (a0 : Option Addr) (len cap : Nat) (w : World) (e : Ending) (w' : World) : Prop :=
  ∃ s : Bs, s.length ≤ n ∧ e = .returned (.string ⟨s.toArray⟩) ∧ Src w' g a0 len cap ∧ Only g w w'

set_option maxRecDepth 100000 in
/-- Below a bound of one there is 0 alone: nothing is drawn. -/
theorem n_small (g : Nat) (most : Int) (hm : most ≤ 1) (w : World) :
    Calls Tryz.prog 63 #[.pointer (some ⟨g, 0, none⟩), .int .i64 most] w fun e w' => e = .returned (.int .i64 0) ∧ w = w' := by
  have d1 : decide (most ≤ 1) = true := by simpa using hm
  go_enter Tryz.func63, Tryz.ntmps63
  go_wp2_with fail
  go_ret
  exact ⟨rfl, rfl⟩

set_option maxRecDepth 100000 in
theorem pick_calls (g : Nat) (a0 : Option Addr) (len cap B : Nat) (b m c : Nat) (hm : 1 < m) (hm2 : m ≤ 1000) (n : Nat) (w : World) (h : Sd w g a0 len cap B) (hb : b < w.heap.size) (hbg : b ≠ g)
    (hc : ∀ j, j < m → ∃ s : Bs, s.length ≤ n ∧ w.cell? ⟨b, j, none⟩ = some (.string ⟨s.toArray⟩)) :
    Calls Tryz.prog 60 #[.pointer (some ⟨g, 0, none⟩), .slice (some ⟨b, 0, none⟩) m c] w (Tld n g a0 len cap w) := by
  have H := Lib.hid h
  have HC := Lib.hid hc
  clear h hc
  go_enter Tryz.func60, Tryz.ntmps60
  go_wp2_with fail
  refine (n_calls g a0 len cap m (by omega) (by omega) B w H.out.le H.out.src H.out.rd).mono ?_
  rintro e w1 ⟨⟨r, r0, r1, rfl⟩, hs1, hg1⟩
  obtain ⟨j, rfl⟩ := Int.eq_ofNat_of_zero_le r0
  obtain ⟨s, hsn, hcell⟩ := HC.out j (by omega)
  have c1 : w1.cell? ⟨b, j, none⟩ = some (.string ⟨s.toArray⟩) := by
    rw [← hcell]
    exact World.cell?_of_block (hg1.block b hb (by simpa using hbg))
  have HS := Lib.hid hs1
  have HG := Lib.hid hg1
  clear hs1 hg1 hcell
  go_wp2_with fail
  go_ret
  exact ⟨s, hsn, rfl, HS.out, Only.of_grown HG.out⟩

set_option maxRecDepth 100000 in
theorem atom_calls (g : Nat) (a0 : Option Addr) (len cap B : Nat) (w : World) (h : Sd w g a0 len cap B) :
    Calls Tryz.prog 66 #[.pointer (some ⟨g, 0, none⟩)] w (Tld 8 g a0 len cap w) := by
  have H := Lib.hid h
  have hne := h.lt
  clear h
  go_enter Tryz.func66, Tryz.ntmps66
  go_wp2_with fail
  refine (pick_calls g a0 len cap B w.heap.size 6 6 (by omega) (by omega) 8 _ (H.out.alloc _) (by simp) (by omega) ?_).mono ?_
  · intro j hj
    match j, hj with
    | 0, _ => exact ⟨[97], by decide, by simp [go_sem]⟩
    | 1, _ => exact ⟨[98], by decide, by simp [go_sem]⟩
    | 2, _ => exact ⟨[99], by decide, by simp [go_sem]⟩
    | 3, _ => exact ⟨[120, 49], by decide, by simp [go_sem]⟩
    | 4, _ => exact ⟨[107, 101, 121], by decide, by simp [go_sem]⟩
    | 5, _ => exact ⟨[109], by decide, by simp [go_sem]⟩
    | j + 6, h => omega
  · rintro e w1 ⟨s, hs, rfl, h1, h2⟩
    have H1 := Lib.hid h1
    have H2 := Lib.hid h2
    clear h1 h2
    go_wp2_with fail
    go_ret
    exact ⟨s, hs, rfl, H1.out, (Only.alloc' w _ g).trans H2.out⟩
end Go.Proofs.YtnlinlodgpbnlaaGreat.drp
