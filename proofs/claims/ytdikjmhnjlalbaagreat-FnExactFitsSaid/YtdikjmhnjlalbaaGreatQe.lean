/- Several small texts, one behind the other. -/
import Derived.Shelf.Strings.OnBuilder
import Derived.Test.YtdikjmhnjlalbaaGreatProg
import Derived.Test.YtdikjmhnjlalbaaGreatQa
import Derived.Laws.Concat
import Derived.IntWalk
import Derived.StillTailTactics
import Derived.Lib.QuietBelow
import Derived.Test.YtdikjmhnjlalbaaGreatQb
import Derived.Test.YtdikjmhnjlalbaaGreatQc

/- The library's contract of strings.Join, laid at this program. -/
namespace Go.Proofs.YtdikjmhnjlalbaaGreat.shj
open Go.Shelf
def ren156 : Go.Shelf.Ren := ⟨fun | 156 => 84 | 165 => 97 | 166 => 98 | 169 => 99 | 240 => 107 | 241 => 108 | 276 => 122 | 277 => 123 | n => n, fun | 31 => 24 | 9 => 9 | 3 => 3 | 4 => 4 | 0 => 0 | 20 => 20 | 72 => 132 | 76 => 136 | 70 => 130 | 37 => 101 | 75 => 135 | 127 => 102 | 164 => 161 | 5 => 5 | 80 => 95 | n => n, fun | n => n⟩
theorem lays156 : Go.Proofs.Lays.n156 Tryz.prog ren156 := {
  mixed := by kernel_rfl
  f156 := Tryz.func84.trans (congrArg some (by kernel_rfl))
  f165 := Tryz.func97.trans (congrArg some (by kernel_rfl))
  f166 := Tryz.func98.trans (congrArg some (by kernel_rfl))
  f169 := Tryz.func99.trans (congrArg some (by kernel_rfl))
  f240 := Tryz.func107.trans (congrArg some (by kernel_rfl))
  f241 := Tryz.func108.trans (congrArg some (by kernel_rfl))
  f276 := Tryz.func122.trans (congrArg some (by kernel_rfl))
  f277 := Tryz.func123.trans (congrArg some (by kernel_rfl))
  t0 := Tryz.underlying0
  a0 := Tryz.isAgg0
  z0 := Tryz.sizeOf0
  v0 := Tryz.zeroValue0
  t3 := Tryz.underlying3
  a3 := Tryz.isAgg3
  z3 := Tryz.sizeOf3
  v3 := Tryz.zeroValue3
  t4 := Tryz.underlying4
  a4 := Tryz.isAgg4
  z4 := Tryz.sizeOf4
  v4 := Tryz.zeroValue4
  t9 := Tryz.underlying9
  a9 := Tryz.isAgg9
  z9 := Tryz.sizeOf9
  v9 := Tryz.zeroValue9
  t20 := Tryz.underlying20
  a20 := Tryz.isAgg20
  z20 := Tryz.sizeOf20
  v20 := Tryz.zeroValue20
  t31 := Tryz.underlying24
  a31 := Tryz.isAgg24
  z31 := Tryz.sizeOf24
  v31 := Tryz.zeroValue24
  t37 := Tryz.underlying101
  a37 := Tryz.isAgg101
  z37 := Tryz.sizeOf101
  v37 := Tryz.zeroValue101
  t70 := Tryz.underlying130
  a70 := Tryz.isAgg130
  z70 := Tryz.sizeOf130
  v70 := Tryz.zeroValue130
  t72 := Tryz.underlying132
  a72 := Tryz.isAgg132
  z72 := Tryz.sizeOf132
  v72 := Tryz.zeroValue132
  t75 := Tryz.underlying135
  a75 := Tryz.isAgg135
  z75 := Tryz.sizeOf135
  v75 := Tryz.zeroValue135
  t76 := Tryz.underlying136
  a76 := Tryz.isAgg136
  z76 := Tryz.sizeOf136
  v76 := Tryz.zeroValue136
  t127 := Tryz.underlying102
  a127 := Tryz.isAgg102
  z127 := Tryz.sizeOf102
  v127 := Tryz.zeroValue102
  t164 := Tryz.underlying161
  a164 := Tryz.isAgg161
  z164 := Tryz.sizeOf161
  v164 := Tryz.zeroValue161 }
theorem extra156 : Builder.Extra Tryz.prog ren156 := {
  sizeBuilder := by kernel_rfl
  liesBuilder := by kernel_rfl
  t5 := Tryz.underlying5
  a5 := Tryz.isAgg5
  z5 := Tryz.sizeOf5
  v5 := Tryz.zeroValue5
  infoByte := by kernel_rfl
  cellsByte := by kernel_rfl
  sizeByte := by kernel_rfl
  neB5 := by decide }

theorem join_none (a : Option Addr) (c : Nat) (sep : ByteArray) (w : World) :
    Calls Tryz.prog 84 #[.slice a 0 c, .string sep] w fun e w' => e = .returned (.string ⟨#[]⟩) ∧ w' = w := Any.strings_Join_none lays156 extra156 a c sep w
open Go.RowKit in
theorem join_some (bk o c : Nat) (xs : List ByteArray) (sep : ByteArray) (w : World) (hcells : ∀ (j : Nat) x, xs[j]? = some x → w.cell? ⟨bk, o + j, none⟩ = some (.string x)) (hbk : bk < w.heap.size) (hN : xs.length ≤ 140737488355328) (hcap : xs.length ≤ c) (hlen : (Lib.join (xs.map (·.data.toList)) sep.data.toList).length ≤ 140737488355328) :
    Calls Tryz.prog 84 #[.slice (some ⟨bk, o, none⟩) xs.length c, .string sep] w fun e w' => e = .returned (.string ⟨(Lib.join (xs.map (·.data.toList)) sep.data.toList).toArray⟩) ∧ Below w.heap.size w w' := Any.strings_Join lays156 extra156 bk o c xs sep w hcells hbk hN hcap hlen
end Go.Proofs.YtdikjmhnjlalbaaGreat.shj

/- Contract of l02Is of the model; a text that is empty, or is not. -/
namespace Go.Proofs.YtdikjmhnjlalbaaGreat.lsm
open Go.RowKit Go.Sort Go.Proofs.YtdikjmhnjlalbaaGreat.tm Go.Proofs.YtdikjmhnjlalbaaGreat.lib Go.Proofs.YtdikjmhnjlalbaaGreat.rdr Go.Proofs.YtdikjmhnjlalbaaGreat.bld
set_option linter.unusedVariables false

theorem l02Is_calls (n lo hi : Int) (w : World) : Calls Tryz.prog 31 #[.int .i64 n, .int .i64 lo, .int .i64 hi] w fun e w' => e = .returned (.bool (decide (lo ≤ n) && decide (n ≤ hi))) ∧ w = w' := by
  go_enter Tryz.func31, Tryz.ntmps31
  go_wp2
  all_goals go_ret
  all_goals exact ⟨by congr 2; simp [*] <;> omega, rfl⟩

theorem e_yes {a : Bs} (h : a = []) : (a == []) = true ∧ a.isEmpty = true ∧ (a != []) = false := by subst h; exact ⟨rfl, rfl, rfl⟩
theorem e_no {a : Bs} (h : a ≠ []) : (a == []) = false ∧ a.isEmpty = false ∧ (a != []) = true := by cases a with | nil => exact absurd rfl h | cons x l => exact ⟨rfl, rfl, rfl⟩
end Go.Proofs.YtdikjmhnjlalbaaGreat.lsm

/- Small laws on blocks. -/
namespace Go.Proofs.YtdikjmhnjlalbaaGreat.glh
open Go.RowKit Go.Proofs.YtdikjmhnjlalbaaGreat.tm Go.Proofs.YtdikjmhnjlalbaaGreat.lib Go.Proofs.YtdikjmhnjlalbaaGreat.rdr Go.Proofs.YtdikjmhnjlalbaaGreat.bld Go.Proofs.YtdikjmhnjlalbaaGreat.gdp Go.Proofs.YtdikjmhnjlalbaaGreat.rbk
set_option linter.unusedVariables false
theorem two {w : World} {b : Nat} {v0 v1 : Value} {t : TypeId} (h : w.heap[b]? = some (.cells #[v0, v1] t (0, 0))) : w.cell? ⟨b, 0, none⟩ = some v0 ∧ w.cell? ⟨b, 1, none⟩ = some v1 ∧ b < w.heap.size := by
  refine ⟨?_, ?_, (Array.getElem?_eq_some_iff.1 h).1⟩ <;> (rw [cell_of_row w b _ _ t (0, 0) h]; rfl)
theorem three {w : World} {b : Nat} {v0 v1 v2 : Value} {t : TypeId} (h : w.heap[b]? = some (.cells #[v0, v1, v2] t (0, 0))) : w.cell? ⟨b, 0, none⟩ = some v0 ∧ w.cell? ⟨b, 1, none⟩ = some v1 ∧ w.cell? ⟨b, 2, none⟩ = some v2 ∧ b < w.heap.size := by
  refine ⟨?_, ?_, ?_, (Array.getElem?_eq_some_iff.1 h).1⟩ <;> (rw [cell_of_row w b _ _ t (0, 0) h]; rfl)
theorem four {w : World} {b : Nat} {v0 v1 v2 v3 : Value} {t : TypeId} (h : w.heap[b]? = some (.cells #[v0, v1, v2, v3] t (0, 0))) : w.cell? ⟨b, 0, none⟩ = some v0 ∧ w.cell? ⟨b, 1, none⟩ = some v1 ∧ w.cell? ⟨b, 2, none⟩ = some v2 ∧ w.cell? ⟨b, 3, none⟩ = some v3 ∧ b < w.heap.size := by
  refine ⟨?_, ?_, ?_, ?_, (Array.getElem?_eq_some_iff.1 h).1⟩ <;> (rw [cell_of_row w b _ _ t (0, 0) h]; rfl)
theorem keptB {W W' : World} {b : Nat} {o : Obj} (h : W.heap[b]? = some o) (k : Below W.heap.size W W') : W'.heap[b]? = some o :=
  (k.block b (Array.getElem?_eq_some_iff.1 h).1).trans h
theorem new1 (w : World) (o : Obj) : Below w.heap.size w (w.alloc o) := (Below.refl _ _).alloc (Nat.le_refl _) _
theorem new3 (w : World) (a b c : Obj) : Below w.heap.size w (((w.alloc a).alloc b).alloc c) := ((new1 _ _).alloc (by simp) _).alloc (by simp; omega) _
end Go.Proofs.YtdikjmhnjlalbaaGreat.glh

/- AtomRight at texts. -/
namespace Go.Proofs.YtdikjmhnjlalbaaGreat.gri
open Go.RowKit Go.Sort Go.Proofs.YtdikjmhnjlalbaaGreat.tm Go.Proofs.YtdikjmhnjlalbaaGreat.lib Go.Proofs.YtdikjmhnjlalbaaGreat.rdr Go.Proofs.YtdikjmhnjlalbaaGreat.bld Go.Proofs.YtdikjmhnjlalbaaGreat.ltp Go.Proofs.YtdikjmhnjlalbaaGreat.gdp Go.Proofs.YtdikjmhnjlalbaaGreat.rbk
set_option linter.unusedVariables false

theorem new1 (w : World) (o : Obj) : Below w.heap.size w (w.alloc o) := (Below.refl _ _).alloc (Nat.le_refl _) _

theorem iatom (x : Bs) (hx : x.length ≤ 4000000) (b : Bool) (hb : atomR x = b) (w : World) : Calls Tryz.prog 35 #[str x] w fun e w' => e = .returned (.bool b) ∧ w = w' := by
  have := atm.implAtom_calls ⟨x.toArray⟩ (by unfold maxLen; show x.toArray.size ≤ _; simp; omega) w
  subst hb
  exact this
theorem satom (x : Bs) (hx : x.length ≤ 4000000) (b : Bool) (hb : atomR x = b) (w : World) : Calls Tryz.prog 26 #[str x] w fun e w' => e = .returned (.bool b) ∧ w = w' := by
  have := atm.specAtom_calls ⟨x.toArray⟩ (by unfold maxLen; show x.toArray.size ≤ _; simp; omega) w
  subst hb
  exact this
end Go.Proofs.YtdikjmhnjlalbaaGreat.gri

/- Contracts of AddrRight, of the program and of the model. -/
namespace Go.Proofs.YtdikjmhnjlalbaaGreat.gri
open Go.RowKit Go.Sort Go.Proofs.YtdikjmhnjlalbaaGreat.tm Go.Proofs.YtdikjmhnjlalbaaGreat.lib Go.Proofs.YtdikjmhnjlalbaaGreat.rdr Go.Proofs.YtdikjmhnjlalbaaGreat.bld Go.Proofs.YtdikjmhnjlalbaaGreat.ltp Go.Proofs.YtdikjmhnjlalbaaGreat.gdp Go.Proofs.YtdikjmhnjlalbaaGreat.rbk
set_option linter.unusedVariables false

set_option maxHeartbeats 1000000 in
set_option maxRecDepth 100000 in
theorem implAddr_calls (a : Ad) (h1 : a.st.length ≤ 4000000) (h2 : a.hs.length ≤ 4000000) (w : World) :
    Calls Tryz.prog 22 #[.agg (adA a)] w fun e w' => e = .returned (.bool (adR a)) ∧ Below w.heap.size w w' := by
  obtain ⟨s, t⟩ := a
  unfold adA adR
  simp only at h1 h2 ⊢
  obtain ⟨b1, hb1⟩ : ∃ b, b = atomR s := ⟨_, rfl⟩
  obtain ⟨b2, hb2⟩ : ∃ b, b = atomR t := ⟨_, rfl⟩
  rw [← hb1, ← hb2]
  have I1 := Lib.hid (iatom s h1 b1 hb1.symm)
  have I2 := Lib.hid (iatom t h2 b2 hb2.symm)
  clear hb1 hb2 h1 h2
  cases b1
  · go_enter Tryz.func22, Tryz.ntmps22
    go_wp2_with fail
    refine (I1.out _).mono ?_
    rintro e w1 ⟨rfl, rfl⟩
    go_wp2_with fail
    go_ret
    exact ⟨rfl, new1 _ _⟩
  · go_enter Tryz.func22, Tryz.ntmps22
    go_wp2_with fail
    refine (I1.out _).mono ?_
    rintro e w1 ⟨rfl, rfl⟩
    go_wp2_with fail
    refine (I2.out _).mono ?_
    rintro e w1 ⟨rfl, rfl⟩
    go_wp2_with fail
    go_ret
    exact ⟨rfl, new1 _ _⟩

set_option maxHeartbeats 1000000 in
set_option maxRecDepth 100000 in
theorem specAddr_calls (a : Ad) (h1 : a.st.length ≤ 4000000) (h2 : a.hs.length ≤ 4000000) (w : World) :
    Calls Tryz.prog 16 #[.agg (adA a)] w fun e w' => e = .returned (.bool (adR a)) ∧ Below w.heap.size w w' := by
  obtain ⟨s, t⟩ := a
  unfold adA adR
  simp only at h1 h2 ⊢
  obtain ⟨b1, hb1⟩ : ∃ b, b = atomR s := ⟨_, rfl⟩
  obtain ⟨b2, hb2⟩ : ∃ b, b = atomR t := ⟨_, rfl⟩
  rw [← hb1, ← hb2]
  have I1 := Lib.hid (satom s h1 b1 hb1.symm)
  have I2 := Lib.hid (satom t h2 b2 hb2.symm)
  clear hb1 hb2 h1 h2
  cases b1
  · go_enter Tryz.func16, Tryz.ntmps16
    go_wp2_with fail
    refine (I1.out _).mono ?_
    rintro e w1 ⟨rfl, rfl⟩
    go_wp2_with fail
    go_ret
    exact ⟨rfl, new1 _ _⟩
  · go_enter Tryz.func16, Tryz.ntmps16
    go_wp2_with fail
    refine (I1.out _).mono ?_
    rintro e w1 ⟨rfl, rfl⟩
    go_wp2_with fail
    refine (I2.out _).mono ?_
    rintro e w1 ⟨rfl, rfl⟩
    go_wp2_with fail
    go_ret
    exact ⟨rfl, new1 _ _⟩
end Go.Proofs.YtdikjmhnjlalbaaGreat.gri
