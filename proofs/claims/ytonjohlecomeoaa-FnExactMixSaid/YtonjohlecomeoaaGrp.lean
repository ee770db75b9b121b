/- Contracts of readTerm and codeOf. -/
import Derived.Test.YtonjohlecomeoaaPrs
import Derived.Defers
import Derived.Recover
namespace Go.Proofs.Ytonjohlecomeoaa.grd
open Go.RowKit Go.Proofs.Ytonjohlecomeoaa.tm Go.Proofs.Ytonjohlecomeoaa.lib Go.Proofs.Ytonjohlecomeoaa.rdr Go.Proofs.Ytonjohlecomeoaa.bld Go.Proofs.Ytonjohlecomeoaa.app Go.Proofs.Ytonjohlecomeoaa.prs
set_option linter.unusedVariables false

/-- What becomes of a reading: the term, or the fault. -/
def TEnd (R : Option Tm) (w : World) (e : Ending) (w' : World) : Prop :=
  ((∃ T, R = some T ∧ e = .returned (val T)) ∨ (R = none ∧ e = fault 1)) ∧ Below w.heap.size w w'

theorem only_new {w w' : World} {o : Obj} (h : Only w.heap.size (w.alloc o) w') : Below w.heap.size w w' :=
  ⟨h.os, h.tape, h.output, by have := h.size; simp at this; omega, fun k hk => by rw [h.block k (by simp; omega) (by omega)]; exact Below.heap_alloc _ _ _ hk⟩

set_option maxRecDepth 100000 in
theorem readTerm_calls (s : ByteArray) (hs : s.size ≤ maxLen) (w : World) :
    Calls Try.prog 77 #[.string s] w (TEnd (term s.data.toList) w) := by
  unfold maxLen at hs
  by_cases hbig : 3000 < s.size
  · have d0 : decide (3000 < (s.size : Int)) = true := by simp; omega
    have e0 : term s.data.toList = none := by
      unfold term
      rw [if_neg (by show ¬ s.size ≤ 3000; omega)]
    have E0 := Lib.hid e0
    clear e0
    go_enter Try.func77, Try.ntmps77
    go_wp2_with (go_at_call 74; refine (refuse_calls _ _).mono ?_; rintro e w' ⟨rfl, rfl⟩)
    exact ⟨rfl, .inr ⟨E0.out, rfl⟩, Below.refl _ _⟩
  · have d0 : decide (3000 < (s.size : Int)) = false := by simp; omega
    have hr : Rdr (w.alloc (.cells #[.string s, .int .i64 0] 129)) w.heap.size s 0 := by
      unfold Rdr
      rw [heap_alloc_new]
      rfl
    have hro := ro_all 24 (Nat.le_refl _) _ w.heap.size s 0 1 hr (by omega) (by omega) rfl
    have ht : term s.data.toList = pz 24 s.data.toList := by
      unfold term
      rw [if_pos (by show s.size ≤ 3000; omega)]
    rw [List.drop_zero] at hro
    obtain ⟨Z, hZ⟩ : ∃ Z, Z = rd 24 s.data.toList := ⟨_, rfl⟩
    rw [← hZ] at hro
    unfold pz at ht
    rw [← hZ] at ht
    have hsound := fun T r => rd_sound 24 s.data.toList T r
    rw [← hZ] at hsound
    have HS := Lib.hid hsound
    clear hZ hr hsound
    have HRO := Lib.hid hro
    have HT := Lib.hid ht
    clear hro ht
    go_enter Try.func77, Try.ntmps77
    go_wp2_with fail
    rcases Z with _ | ⟨T, r⟩
    · refine (HRO.out.2 rfl).mono ?_
      rintro e w1 ⟨rfl, ho⟩
      exact ⟨rfl, .inr ⟨HT.out, rfl⟩, only_new ho⟩
    · refine (HRO.out.1 T r rfl).mono ?_
      rintro e w1 ⟨rfl, ho, hr⟩
      obtain ⟨c0, c1, f0, f1, hb1⟩ := two hr
      rw [Nat.zero_add] at c1
      have e1 : T.tx.length + r.length = s.size := by
        have := congrArg List.length (HS.out T r rfl).1
        rw [List.length_append] at this
        exact this.symm
      have HB := Lib.hid (only_new ho)
      have HE := Lib.hid e1
      have hle : T.tx.length ≤ s.size := by omega
      clear ho hr e1
      by_cases hl : T.tx.length < s.size
      · have en : term s.data.toList = none := by
          rw [HT.out]
          cases r with
          | nil => have := HE.out; simp at this; omega
          | cons c r => rfl
        have EN := Lib.hid en
        clear en
        go_wp2_with (go_at_call 74; refine (refuse_calls _ _).mono ?_; rintro e w' ⟨rfl, rfl⟩)
        exact ⟨rfl, .inr ⟨EN.out, rfl⟩, HB.out⟩
      · have es : term s.data.toList = some T := by
          rw [HT.out]
          cases r with
          | nil => rfl
          | cons c r => have := HE.out; simp at this; omega
        have ES := Lib.hid es
        clear es
        go_wp2_with fail
        go_ret
        exact ⟨.inl ⟨T, ES.out, rfl⟩, HB.out⟩

theorem one {w : World} {b : Nat} {v : Value} {t : TypeId} (h : w.heap[b]? = some (.cells #[v] t (0, 0))) :
    w.cell? ⟨b, 0, none⟩ = some v ∧ w.frozen? ⟨b, 0, none⟩ = false ∧ b < w.heap.size := by
  have hb : b < w.heap.size := by
    rcases Nat.lt_or_ge b w.heap.size with h' | h'
    · exact h'
    · rw [Array.getElem?_eq_none h'] at h; cases h
  exact ⟨by rw [cell_of_row w b 0 _ t (0, 0) h]; rfl, by simp [World.frozen?, h], hb⟩

theorem as_fault (v : Value) (w : World) : (Instr.typeAssert (.iface 117 v) 20 117 true).run Try.prog w = .ok (.tuple #[v, .bool true]) w := by kernel_rfl

set_option maxRecDepth 100000 in
theorem codeOf_calls (c : Int) (w : World) : Calls Try.prog 82 #[.iface 117 (.agg #[.int .i64 c])] w fun e w' => e = .returned (.int .i64 c) ∧ Below w.heap.size w w' := by
  have h1 := as_fault (.agg #[.int .i64 c])
  go_enter Try.func82, Try.ntmps82
  go_wp2
  go_ret
  exact ⟨rfl, (Below.refl _ _).alloc (Nat.le_refl _) _⟩

end Go.Proofs.Ytonjohlecomeoaa.grd
