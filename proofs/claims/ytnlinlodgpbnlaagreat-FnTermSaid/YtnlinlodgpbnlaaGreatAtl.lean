/- Contract of the model's AtomsOf; what stands while the law of AtomsOf goes on. -/
import Derived.Test.YtnlinlodgpbnlaaGreatSpt
import Derived.Test.YtnlinlodgpbnlaaGreatAdd
import Derived.Test.YtnlinlodgpbnlaaGreatNdo
namespace Go.Proofs.YtnlinlodgpbnlaaGreat.atl
open Go.RowKit Go.Proofs.YtnlinlodgpbnlaaGreat.tm Go.Proofs.YtnlinlodgpbnlaaGreat.lib Go.Proofs.YtnlinlodgpbnlaaGreat.rdr Go.Proofs.YtnlinlodgpbnlaaGreat.bld Go.Proofs.YtnlinlodgpbnlaaGreat.app Go.Proofs.YtnlinlodgpbnlaaGreat.snd Go.Proofs.YtnlinlodgpbnlaaGreat.sop Go.Proofs.YtnlinlodgpbnlaaGreat.ato Go.Proofs.YtnlinlodgpbnlaaGreat.spt Go.Proofs.YtnlinlodgpbnlaaGreat.addt Go.Proofs.YtnlinlodgpbnlaaGreat.mrk Go.Proofs.YtnlinlodgpbnlaaGreat.mrs
set_option linter.unusedVariables false

set_option maxHeartbeats 1000000 in
set_option maxRecDepth 100000 in
theorem specAtomsOf_calls (s : ByteArray) (hs : s.size ≤ maxLen) (w : World) :
    Calls Tryz.prog 30 #[.string s] w fun e w' => ∃ v, e = .returned v ∧ Below w.heap.size w w' ∧ Rds w' v (atomsR s.data.toList) := by
  have a1 := srt.specTermRight_calls s hs
  rcases h : term s.data.toList with _ | T
  · rw [atomsR_none h]
    rw [h] at a1
    simp only [Option.isSome] at a1
    clear h
    go_enter Tryz.func30, Tryz.ntmps30
    go_wp2_with fail
    refine (a1 _).mono ?_
    rintro e w1 ⟨rfl, hb⟩
    go_wp2_with fail
    go_ret
    exact ⟨_, rfl, hb.alloc hb.size _, .inl ⟨rfl, _, _, rfl⟩⟩
  · rw [atomsR_some h]
    rw [h] at a1
    simp only [Option.isSome] at a1
    obtain ⟨h1, hT, _, htx⟩ := term_some.1 h
    have hl : (aL T).length ≤ 3000 := by have := aL_len T hT; rw [htx] at this; omega
    have a2 := sa_all T.deep T (Nat.le_refl _) hT (by rw [htx]; exact h1)
    unfold SA at a2
    rw [htx] at a2
    have A2 := Lib.hid a2
    clear h h1 hT htx a2
    go_enter Tryz.func30, Tryz.ntmps30
    go_wp2_with fail
    refine (a1 _).mono ?_
    rintro e w1 ⟨rfl, hb⟩
    have HB := Lib.hid hb
    clear hb
    go_wp2_with fail
    have hx : Txs (w1.alloc (.cells #[] 9)) w1.heap.size (.slice (some ⟨w1.heap.size, 0, none⟩) 0 0) [] := ⟨_, _, _, rfl, Nat.le_refl _, by simp, Nat.le_refl _, fun j l hj => by simp at hj⟩
    refine (A2.out _ _ _ [] hx (by simp) (by simp; omega)).mono ?_
    rintro e w2 ⟨v2, rfl, hx2, hb2⟩
    have HX2 := Lib.hid hx2
    have HB2 := Lib.hid ((HB.out.alloc HB.out.size _).trans (hb2.mono (by have := HB.out.size; simp; omega)))
    clear hx2 hb2 hx
    go_wp2_with fail
    go_ret
    exact ⟨_, rfl, HB2.out, ndo.Txs.rds HX2.out⟩

theorem atomsR_len (l : Bs) : (atomsR l).length ≤ 3000 := by
  cases h : term l with
  | none => rw [atomsR_none h]; simp
  | some T =>
    rw [atomsR_some h]
    have h1 := puts_len (aL T) []
    obtain ⟨h2, hT, _, htx⟩ := term_some.1 h
    have := aL_len T hT
    rw [htx] at this
    simp at h1
    omega

/-- Behind the marking of one's own list the other one stands. -/
theorem Rds.marked {W W' : World} {vs vi : Value} {ls : List Bs} {B : Nat} (h : Rds W vs ls) (k : Marked vi ls W W') (hs : ls ≠ [] → ∀ g, vs.ownBlock = some g → g < B) (hv : ls ≠ [] → ∀ g, vi.ownBlock = some g → B ≤ g) : Rds W' vs ls := by
  rcases k with ⟨_, k⟩ | ⟨e, k⟩
  · exact Rds.below h k
  · rcases h with ⟨h1, h2⟩ | ⟨g, off, cap, e2, hg, hc⟩
    · exact .inl ⟨h1, h2⟩
    · refine .inr ⟨g, off, cap, e2, Nat.lt_of_lt_of_le hg k.size, fun j l hj => ?_⟩
      have h3 := hs e g (by rw [e2]; rfl)
      rw [← hc j l hj]
      exact World.cell?_of_block (w := W) (k.block g hg (fun e' => by have := hv e g e'; omega))

theorem Marked.below {w W W' : World} {v : Value} {ls : List Bs} {B : Nat} (h : Below w.heap.size w W) (k : Marked v ls W W') (hw : w.heap.size ≤ B) (hv : ls ≠ [] → ∀ g, v.ownBlock = some g → B ≤ g) : Below w.heap.size w W' := by
  rcases k with ⟨_, k⟩ | ⟨e, k⟩
  · exact h.trans (k.mono h.size)
  · exact h.trans (k.below h.size fun g hg => Nat.le_trans hw (hv e g hg))
end Go.Proofs.YtnlinlodgpbnlaaGreat.atl
