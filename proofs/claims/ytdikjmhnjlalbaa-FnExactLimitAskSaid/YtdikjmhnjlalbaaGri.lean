/- Contracts of AddrRight, of the program and of the model. -/
import Derived.Test.YtdikjmhnjlalbaaGat
import Derived.StillTailTactics
import Derived.Lib.QuietBelow
namespace Go.Proofs.Ytdikjmhnjlalbaa.gri
open Go.RowKit Go.Sort Go.Proofs.Ytdikjmhnjlalbaa.tm Go.Proofs.Ytdikjmhnjlalbaa.lib Go.Proofs.Ytdikjmhnjlalbaa.rdr Go.Proofs.Ytdikjmhnjlalbaa.bld Go.Proofs.Ytdikjmhnjlalbaa.ltp Go.Proofs.Ytdikjmhnjlalbaa.gdp Go.Proofs.Ytdikjmhnjlalbaa.rbk
set_option linter.unusedVariables false

set_option maxHeartbeats 1000000 in
set_option maxRecDepth 100000 in
theorem implAddr_calls (a : Ad) (h1 : a.st.length ≤ 4000000) (h2 : a.hs.length ≤ 4000000) (w : World) :
    Calls Try.prog 13 #[.agg (adA a)] w fun e w' => e = .returned (.bool (adR a)) ∧ Below w.heap.size w w' := by
  obtain ⟨s, t⟩ := a
  unfold adA adR
  simp only at h1 h2 ⊢
  obtain ⟨b1, hb1⟩ : ∃ b, b = atomR s := ⟨_, rfl⟩
  obtain ⟨b2, hb2⟩ : ∃ b, b = atomR t := ⟨_, rfl⟩
  rw [← hb1, ← hb2]
  have I1 := Lib.hid (iatom s h1 b1 hb1.symm)
  have I2 := Lib.hid (iatom t h2 b2 hb2.symm)
  clear hb1 hb2 h1 h2
  cases b1
  · go_enter Try.func13, Try.ntmps13
    go_wp2_with fail
    refine (I1.out _).mono ?_
    rintro e w1 ⟨rfl, rfl⟩
    go_wp2_with fail
    go_ret
    exact ⟨rfl, new1 _ _⟩
  · go_enter Try.func13, Try.ntmps13
    go_wp2_with fail
    refine (I1.out _).mono ?_
    rintro e w1 ⟨rfl, rfl⟩
    go_wp2_with fail
    refine (I2.out _).mono ?_
    rintro e w1 ⟨rfl, rfl⟩
    go_wp2_with fail
    go_ret
    exact ⟨rfl, new1 _ _⟩

set_option maxHeartbeats 1000000 in
set_option maxRecDepth 100000 in
theorem specAddr_calls (a : Ad) (h1 : a.st.length ≤ 4000000) (h2 : a.hs.length ≤ 4000000) (w : World) :
    Calls Try.prog 11 #[.agg (adA a)] w fun e w' => e = .returned (.bool (adR a)) ∧ Below w.heap.size w w' := by
  obtain ⟨s, t⟩ := a
  unfold adA adR
  simp only at h1 h2 ⊢
  obtain ⟨b1, hb1⟩ : ∃ b, b = atomR s := ⟨_, rfl⟩
  obtain ⟨b2, hb2⟩ : ∃ b, b = atomR t := ⟨_, rfl⟩
  rw [← hb1, ← hb2]
  have I1 := Lib.hid (satom s h1 b1 hb1.symm)
  have I2 := Lib.hid (satom t h2 b2 hb2.symm)
  clear hb1 hb2 h1 h2
  cases b1
  · go_enter Try.func11, Try.ntmps11
    go_wp2_with fail
    refine (I1.out _).mono ?_
    rintro e w1 ⟨rfl, rfl⟩
    go_wp2_with fail
    go_ret
    exact ⟨rfl, new1 _ _⟩
  · go_enter Try.func11, Try.ntmps11
    go_wp2_with fail
    refine (I1.out _).mono ?_
    rintro e w1 ⟨rfl, rfl⟩
    go_wp2_with fail
    refine (I2.out _).mono ?_
    rintro e w1 ⟨rfl, rfl⟩
    go_wp2_with fail
    go_ret
    exact ⟨rfl, new1 _ _⟩
end Go.Proofs.Ytdikjmhnjlalbaa.gri
