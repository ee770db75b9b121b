/- The laws' helpers on letters: szLetter, toLetter, eqLetter. -/
import Derived.Test.YtnlinlodgpbnlaaFml
import Derived.Test.YtnlinlodgpbnlaaEqs
namespace Go.Proofs.Ytnlinlodgpbnlaa.lth
open Go.RowKit Go.Proofs.Ytnlinlodgpbnlaa.tm Go.Proofs.Ytnlinlodgpbnlaa.lib Go.Proofs.Ytnlinlodgpbnlaa.rdr Go.Proofs.Ytnlinlodgpbnlaa.bld Go.Proofs.Ytnlinlodgpbnlaa.app Go.Proofs.Ytnlinlodgpbnlaa.mrk Go.Proofs.Ytnlinlodgpbnlaa.mrs Go.Proofs.Ytnlinlodgpbnlaa.ltv Go.Proofs.Ytnlinlodgpbnlaa.fml Go.Proofs.Ytnlinlodgpbnlaa.tsz
set_option linter.unusedVariables false

theorem new1 (w : World) (o : Obj) : Below w.heap.size w (w.alloc o) := (Below.refl _ _).alloc (Nat.le_refl _) _

/-- No text of a letter is greater than all that may come in. -/
structure Small (m : Lt) : Prop where
  len : m.ps.length ≤ 1048576
  each : ∀ x ∈ m.ps, x.length ≤ 1048576
  a : m.a.length ≤ 1048576
  b : m.b.length ≤ 1048576

theorem seven {w : World} {b : Nat} {v0 v1 v2 v3 v4 v5 v6 : Value} {t : TypeId} (h : w.heap[b]? = some (.cells #[v0, v1, v2, v3, v4, v5, v6] t (0, 0))) :
    w.cell? ⟨b, 0, none⟩ = some v0 ∧ w.cell? ⟨b, 1, none⟩ = some v1 ∧ w.cell? ⟨b, 2, none⟩ = some v2 ∧ w.cell? ⟨b, 3, none⟩ = some v3 ∧ w.cell? ⟨b, 4, none⟩ = some v4 ∧ w.cell? ⟨b, 5, none⟩ = some v5 ∧ w.cell? ⟨b, 6, none⟩ = some v6 ∧ b < w.heap.size := by
  refine ⟨?_, ?_, ?_, ?_, ?_, ?_, ?_, (Array.getElem?_eq_some_iff.1 h).1⟩ <;> (rw [cell_of_row w b _ _ t (0, 0) h]; rfl)

theorem alloc2 (w : World) (a b : Obj) : ((w.alloc a).alloc b).heap[w.heap.size]? = some a ∧ ((w.alloc a).alloc b).heap[w.heap.size + 1]? = some b := by
  refine ⟨(Below.heap_alloc _ _ _ (by simp)).trans (heap_alloc_new w a), ?_⟩
  have := heap_alloc_new (w.alloc a) b
  rw [World.size_alloc] at this
  exact this
theorem alloc3 (w : World) (a b c : Obj) : (((w.alloc a).alloc b).alloc c).heap[w.heap.size]? = some a ∧ (((w.alloc a).alloc b).alloc c).heap[w.heap.size + 1]? = some b ∧ (((w.alloc a).alloc b).alloc c).heap[w.heap.size + 1 + 1]? = some c := by
  have h := alloc2 w a b
  refine ⟨(Below.heap_alloc _ _ _ (by simp; omega)).trans h.1, (Below.heap_alloc _ _ _ (by simp)).trans h.2, ?_⟩
  have := heap_alloc_new ((w.alloc a).alloc b) c
  rw [World.size_alloc, World.size_alloc] at this
  exact this

theorem Wrs.set {w : World} {B : Nat} {v : Value} {ls : List Bs} (h : Wrs w B v ls) {p : Addr} (hp : p.block < B) (x : Value) : Wrs (w.setCell p x) B v ls := by
  rcases h with h | ⟨g, off, cap, e, hB, hg, hc, hf⟩
  · exact .inl h
  · refine .inr ⟨g, off, cap, e, hB, by simpa [World.setCell] using hg, fun j l hj => ?_, fun j hj => ?_⟩
    · rw [World.cell?_setCell_other _ _ _ _ (fun e' => by have := congrArg Addr.block e'; simp at this; omega)]; exact hc j l hj
    · rw [World.frozen?_setCell]; exact hf j hj
theorem Wrs.base {w : World} {B B' : Nat} {v : Value} {ls : List Bs} (h : Wrs w B v ls) (hB : B' ≤ B) : Wrs w B' v ls := by
  rcases h with h | ⟨g, off, cap, e, hb, r⟩
  · exact .inl h
  · exact .inr ⟨g, off, cap, e, by omega, r⟩

def SzL (m : Lt) (w : World) (e : Ending) (w' : World) : Prop :=
  Below w.heap.size w w' ∧ (e = .returned (.int .i64 (-1)) ∨ ∃ L : Nat, e = .returned (.int .i64 L) ∧ Small m)

theorem rds_form {w : World} {v : Value} {ls : List Bs} (h : Rds w v ls) : ∃ ad cap, v = .slice ad ls.length cap := by
  rcases h with ⟨rfl, ad, cap, e⟩ | ⟨g, off, cap, e, _⟩ <;> exact ⟨_, _, e⟩

set_option maxHeartbeats 1000000 in
set_option maxRecDepth 100000 in
theorem szLetter_calls (m : Lt) (v : Value) (w : World) (h : LtIn w m v) : Calls Try.prog 6 #[.agg (letA m v), .int .i64 1048576] w (SzL m w) := by
  obtain ⟨ad, cap, rfl⟩ := rds_form h.rds
  have H := Lib.hid h
  have sz := fun w' hb => szStringS_calls ad m.ps.length cap m.ps w' rfl (Rds.below h.rds hb) h.len h.each
  have ha := h.a
  have hb := h.b
  unfold maxLen at ha hb
  have SZ := Lib.hid sz
  clear h sz
  obtain ⟨k, f, t, c, ps, a, b⟩ := m
  obtain ⟨n, hn⟩ : ∃ n, n = ps.length := ⟨_, rfl⟩
  unfold letA
  simp only at SZ ha hb ⊢
  rw [← hn] at SZ ⊢
  clear hn
  go_enter Try.func6, Try.ntmps6
  go_wp2_with fail
  refine (SZ.out _ (new1 _ _)).mono ?_
  rintro e w1 ⟨rfl, hE⟩
  rcases hE with rfl | ⟨L, hL, rfl, hs1, hs2⟩
  · go_wp2_with fail
    go_ret
    exact ⟨new1 _ _, .inl rfl⟩
  · have S1 := Lib.hid hs1
    have S2 := Lib.hid hs2
    clear hs1 hs2
    have d0 : decide ((L : Int) < 0) = false := by simp
    by_cases h1 : L < a.length
    · have d1 : decide ((L : Int) - (a.length : Int) < 0) = true := by simp; omega
      go_wp2_with fail
      go_ret
      exact ⟨new1 _ _, .inl rfl⟩
    · have d1 : decide ((L : Int) - (a.length : Int) < 0) = false := by simp; omega
      by_cases h2 : L - a.length < b.length
      · have d2 : decide ((L : Int) - (a.length : Int) - (b.length : Int) < 0) = true := by simp; omega
        go_wp2_with fail
        go_ret
        exact ⟨new1 _ _, .inl rfl⟩
      · have d2 : decide ((L : Int) - (a.length : Int) - (b.length : Int) < 0) = false := by simp; omega
        go_wp2_with fail
        go_ret
        refine ⟨new1 _ _, .inr ⟨L - a.length - b.length, ?_, ⟨S1.out, S2.out, by show a.length ≤ _; omega, by show b.length ≤ _; omega⟩⟩⟩
        have e1 : ((L - a.length - b.length : Nat) : Int) = (L : Int) - (a.length : Int) - (b.length : Int) := by omega
        rw [e1]
        rfl

set_option maxHeartbeats 1000000 in
set_option maxRecDepth 100000 in
theorem toLetter_calls (m : Lt) (v : Value) (w : World) (h : Rds w v m.ps) (hl : m.ps.length ≤ 2000000) :
    Calls Try.prog 8 #[.agg (letA m v)] w fun e w' => ∃ u, e = .returned (.agg (letA m u)) ∧ Below w.heap.size w w' ∧ Wrs w' w.heap.size u m.ps := by
  obtain ⟨ad, cap, rfl⟩ := rds_form h
  have ts := fun w' hb => toStringS_calls ad m.ps.length cap m.ps w' rfl (Rds.below h hb) hl
  have TS := Lib.hid ts
  clear h ts hl
  obtain ⟨k, f, t, c, ps, a, b⟩ := m
  obtain ⟨n, hn⟩ : ∃ n, n = ps.length := ⟨_, rfl⟩
  unfold letA
  simp only at TS ⊢
  rw [← hn] at TS ⊢
  have HN := Lib.hid hn
  clear hn
  go_enter Try.func8, Try.ntmps8
  go_wp2_with fail
  refine (TS.out _ (((new1 _ _).alloc (by simp) _).alloc (by simp; omega) _)).mono ?_
  rintro e w1 ⟨u, rfl, hb, hw⟩
  obtain ⟨ua, uc, hu⟩ := rds_form hw.rds
  rw [← HN.out] at hu
  subst hu
  have X := alloc3 w (.cells #[.int .i64 k, .int .i64 f, .int .i64 t, .int .i64 c, .slice ad n cap, str a, str b] 24) (.cells #[.int .i64 0, .int .i64 0, .int .i64 0, .int .i64 0, .slice none 0 0, .string ⟨#[]⟩, .string ⟨#[]⟩] 27) (.cells #[.int .i64 k, .int .i64 f, .int .i64 t, .int .i64 c, .slice none 0 0, .string ⟨#[]⟩, .string ⟨#[]⟩] 27)
  have X0 := (hb.block w.heap.size (by simp; omega)).trans X.1
  have X1 := (hb.block (w.heap.size + 1) (by simp)).trans X.2.1
  have X2 := (hb.block (w.heap.size + 1 + 1) (by simp)).trans X.2.2
  obtain ⟨p0, p1, p2, p3, p4, p5, p6, pz⟩ := seven X0
  obtain ⟨q0, q1, q2, q3, q4, q5, q6, qz⟩ := seven X1
  obtain ⟨r0, r1, r2, r3, r4, r5, r6, rz⟩ := seven X2
  have qf : ∀ o, w1.frozen? ⟨w.heap.size + 1, o, none⟩ = false := fun o => by simp [World.frozen?, X1]
  have rf : ∀ o, w1.frozen? ⟨w.heap.size + 1 + 1, o, none⟩ = false := fun o => by simp [World.frozen?, X2]
  have HB := Lib.hid ((((new1 w (.cells #[.int .i64 k, .int .i64 f, .int .i64 t, .int .i64 c, .slice ad n cap, str a, str b] 24)).alloc (by simp) (.cells #[.int .i64 0, .int .i64 0, .int .i64 0, .int .i64 0, .slice none 0 0, .string ⟨#[]⟩, .string ⟨#[]⟩] 27)).alloc (by simp; omega) (.cells #[.int .i64 k, .int .i64 f, .int .i64 t, .int .i64 c, .slice none 0 0, .string ⟨#[]⟩, .string ⟨#[]⟩] 27)).trans (hb.mono (by simp; omega)))
  have HW := Lib.hid hw
  clear hb hw X0 X1 X2 X
  go_wp2_with fail
  refine bodyPost_ret (v := .agg #[.int .i64 k, .int .i64 f, .int .i64 t, .int .i64 c, .slice ua n uc, str a, str b]) (by simp [results, Try.results8, go_sem, q0, q1, q2, q3, q4, q5, q6]) rfl ⟨_, rfl, ?_, ?_⟩
  · exact (((((((((HB.out.setCell (by simp; omega) _).setCell (by simp; omega) _).setCell (by simp; omega) _).setCell (by simp) _).setCell (by simp) _).setCell (by simp) _).setCell (by simp) _).setCell (by simp) _).setCell (by simp) _).setCell (by simp) _
  · refine Wrs.base ?_ (B := w.heap.size + 1 + 1 + 1) (by omega)
    have h := HW.out
    simp only [World.size_alloc] at h
    exact Wrs.set (Wrs.set (Wrs.set (Wrs.set (Wrs.set (Wrs.set (Wrs.set (Wrs.set (Wrs.set (Wrs.set h (by simp) _) (by simp) _) (by simp) _) (by simp) _) (by simp) _) (by simp) _) (by simp) _) (by simp) _) (by simp) _) (by simp) _

set_option maxHeartbeats 1000000 in
set_option maxRecDepth 100000 in
theorem eqLetter_calls (m : Lt) (va vb : Value) (w : World) (ha : Rds w va m.ps) (hb : Rds w vb m.ps) (hl : m.ps.length ≤ 100000000) :
    Calls Try.prog 10 #[.agg (letA m va), .agg (letA m vb)] w fun e w' => e = .returned (.bool true) ∧ Below w.heap.size w w' := by
  obtain ⟨aa, ca, rfl⟩ := rds_form ha
  obtain ⟨ab, cb, rfl⟩ := rds_form hb
  have es := fun w' k => eqStringS_calls (.slice aa m.ps.length ca) (.slice ab m.ps.length cb) m.ps w' (Rds.below ha k) (Rds.below hb k) hl
  have ES := Lib.hid es
  clear ha hb es hl
  obtain ⟨k, f, t, c, ps, a, b⟩ := m
  obtain ⟨n, hn⟩ : ∃ n, n = ps.length := ⟨_, rfl⟩
  unfold letA
  simp only at ES ⊢
  rw [← hn] at ES ⊢
  clear hn
  go_enter Try.func10, Try.ntmps10
  go_wp2_with fail
  refine (ES.out _ ((new1 _ _).alloc (by simp) _)).mono ?_
  rintro e w1 ⟨rfl, hs⟩
  have HB := Lib.hid (((new1 w (.cells #[.int .i64 k, .int .i64 f, .int .i64 t, .int .i64 c, .slice aa n ca, str a, str b] 27)).alloc (by simp) (.cells #[.int .i64 k, .int .i64 f, .int .i64 t, .int .i64 c, .slice ab n cb, str a, str b] 27)).trans (hs.below _))
  have X := alloc2 w (.cells #[.int .i64 k, .int .i64 f, .int .i64 t, .int .i64 c, .slice aa n ca, str a, str b] 27) (.cells #[.int .i64 k, .int .i64 f, .int .i64 t, .int .i64 c, .slice ab n cb, str a, str b] 27)
  rw [← hs.heap] at X
  obtain ⟨p0, p1, p2, p3, p4, p5, p6, pz⟩ := seven X.1
  obtain ⟨q0, q1, q2, q3, q4, q5, q6, qz⟩ := seven X.2
  clear hs X
  go_wp2_with fail
  go_ret
  exact ⟨rfl, HB.out⟩
end Go.Proofs.Ytnlinlodgpbnlaa.lth
