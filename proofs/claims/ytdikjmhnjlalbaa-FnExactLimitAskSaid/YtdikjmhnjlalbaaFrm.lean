/- A slice of texts that came in, read: for the frames of laws. -/
import Derived.Test.YtdikjmhnjlalbaaRds
import Derived.Test.YtdikjmhnjlalbaaFr0
import Derived.ProofKit
import Derived.OpenShut
import Derived.ShutString
import Derived.SliceStrings
import Derived.ChangeOld
import Derived.Below
namespace Go.Proofs.Ytdikjmhnjlalbaa.frm
open Go.ChangeShapes Go.WideShapes Go.ChangeAt Go.RowKit
open Go.ChangeMaps (open_string shut_string)
open Go.Proofs.Ytdikjmhnjlalbaa.tm Go.Proofs.Ytdikjmhnjlalbaa.bld Go.Proofs.Ytdikjmhnjlalbaa.mrk
set_option linter.unusedVariables false

theorem rds_len {w : World} {v : Value} {ls : List Bs} (h : Rds w v ls) : ∃ a c, v = .slice a ls.length c := by
  rcases h with ⟨rfl, a, c, e⟩ | ⟨g, off, cap, e, _⟩
  · exact ⟨a, c, e⟩
  · exact ⟨_, _, e⟩

theorem open_rds {H : Type} {enc : TypeId × Value → H} {W : World} {ad : Option Addr} {len cap : Nat} {d : DataW H} {p : List MemPlace} (h : DataW.Trod enc Try.prog W 0 (fun _ => true) true 63 (.slice ad len cap) d p) :
    ∃ ls : List Bs, len = ls.length ∧ Rds W (.slice ad len cap) ls ∧ len ≤ maxLen ∧ ∀ x ∈ ls, x.length ≤ maxLen := by
  obtain ⟨fuel, hf⟩ := h
  rcases open_strings Try.underlying63 Try.underlying9 cellsS hf with ⟨hcs, hx⟩ | ⟨a, len', cap', ss, hcs, _, hl, hm, hz, hx, hcell, hws⟩
  · simp [Value.cells] at hcs
    obtain ⟨rfl, rfl, rfl⟩ := hcs
    exact ⟨[], rfl, .inl ⟨rfl, _, _, rfl⟩, Nat.zero_le _, by simp⟩
  · simp [Value.cells] at hcs
    obtain ⟨rfl, rfl, rfl⟩ := hcs
    simp only [if_true] at hz
    have hr : Rds W (.slice (some a) len cap) ((ss.take len).map fun s => s.data.toList) := by
      by_cases hl0 : len = 0
      · subst hl0
        exact .inl ⟨by simp, _, _, rfl⟩
      · obtain ⟨b, off, spot⟩ := a
        have hspot : spot = none := by simpa [Addr.add] using World.cell?_spot (hcell 0 (by omega))
        subst hspot
        have c0 := hcell 0 (by omega)
        have hbW : b < W.heap.size := block_lt_of_cell (by simpa [Addr.add] using c0)
        have hlen : ((ss.take len).map fun s => s.data.toList).length = len := by simp; omega
        refine .inr ⟨b, off, cap, by rw [hlen], hbW, fun j l hj => ?_⟩
        have hj' : j < len := by
          rcases Nat.lt_or_ge j len with h | h
          · exact h
          · rw [List.getElem?_eq_none (by rw [hlen]; exact h)] at hj; cases hj
        have c1 := hcell j (by omega)
        rw [add_plain] at c1
        rw [c1]
        rw [List.getElem?_map, List.getElem?_take_of_lt hj'] at hj
        cases hs : ss[j]? with
        | none => rw [hs] at hj; cases hj
        | some s =>
          rw [hs] at hj
          simp only [Option.map_some, Option.some.injEq] at hj
          subst hj
          have : ss.getD j ByteArray.empty = s := by simp [List.getD, hs]
          rw [this]
    refine ⟨_, by simp; omega, hr, by omega, fun x hx => ?_⟩
    obtain ⟨s, hs, rfl⟩ := List.mem_map.1 hx
    exact hws s (List.mem_of_mem_take hs)
end Go.Proofs.Ytdikjmhnjlalbaa.frm
