/- Several small texts, one behind the other. -/
import Derived.Test.YtnlinlodgpbnlaaGreatQd
import Derived.Test.YtnlinlodgpbnlaaGreatQf
import Derived.Test.YtnlinlodgpbnlaaGreatQc
import Derived.Lib.QuietBelow
import Derived.Laws.Concat
import Derived.IntWalk

/- The laws' helpers on letters: szLetter, toLetter, eqLetter. -/
namespace Go.Proofs.YtnlinlodgpbnlaaGreat.lth
open Go.RowKit Go.Proofs.YtnlinlodgpbnlaaGreat.tm Go.Proofs.YtnlinlodgpbnlaaGreat.lib Go.Proofs.YtnlinlodgpbnlaaGreat.rdr Go.Proofs.YtnlinlodgpbnlaaGreat.bld Go.Proofs.YtnlinlodgpbnlaaGreat.app Go.Proofs.YtnlinlodgpbnlaaGreat.mrk Go.Proofs.YtnlinlodgpbnlaaGreat.mrs Go.Proofs.YtnlinlodgpbnlaaGreat.ltv Go.Proofs.YtnlinlodgpbnlaaGreat.fml Go.Proofs.YtnlinlodgpbnlaaGreat.tsz
set_option linter.unusedVariables false

theorem new1 (w : World) (o : Obj) : Below w.heap.size w (w.alloc o) := (Below.refl _ _).alloc (Nat.le_refl _) _

/-- No text of a letter is greater than all that may come in. -/
structure Small (m : Lt) : Prop where
  len : m.ps.length ≤ 1048576
  each : ∀ x ∈ m.ps, x.length ≤ 1048576
  a : m.a.length ≤ 1048576
  b : m.b.length ≤ 1048576

theorem seven {w : World} {b : Nat} {v0 v1 v2 v3 v4 v5 v6 : Value} {t : TypeId} (h : w.heap[b]? = some (.cells #[v0, v1, v2, v3, v4, v5, v6] t (0, 0))) :
    w.cell? ⟨b, 0, none⟩ = some v0 ∧ w.cell? ⟨b, 1, none⟩ = some v1 ∧ w.cell? ⟨b, 2, none⟩ = some v2 ∧ w.cell? ⟨b, 3, none⟩ = some v3 ∧ w.cell? ⟨b, 4, none⟩ = some v4 ∧ w.cell? ⟨b, 5, none⟩ = some v5 ∧ w.cell? ⟨b, 6, none⟩ = some v6 ∧ b < w.heap.size := by
  refine ⟨?_, ?_, ?_, ?_, ?_, ?_, ?_, (Array.getElem?_eq_some_iff.1 h).1⟩ <;> (rw [cell_of_row w b _ _ t (0, 0) h]; rfl)

theorem alloc2 (w : World) (a b : Obj) : ((w.alloc a).alloc b).heap[w.heap.size]? = some a ∧ ((w.alloc a).alloc b).heap[w.heap.size + 1]? = some b := by
  refine ⟨(Below.heap_alloc _ _ _ (by simp)).trans (heap_alloc_new w a), ?_⟩
  have := heap_alloc_new (w.alloc a) b
  rw [World.size_alloc] at this
  exact this
theorem alloc3 (w : World) (a b c : Obj) : (((w.alloc a).alloc b).alloc c).heap[w.heap.size]? = some a ∧ (((w.alloc a).alloc b).alloc c).heap[w.heap.size + 1]? = some b ∧ (((w.alloc a).alloc b).alloc c).heap[w.heap.size + 1 + 1]? = some c := by
  have h := alloc2 w a b
  refine ⟨(Below.heap_alloc _ _ _ (by simp; omega)).trans h.1, (Below.heap_alloc _ _ _ (by simp)).trans h.2, ?_⟩
  have := heap_alloc_new ((w.alloc a).alloc b) c
  rw [World.size_alloc, World.size_alloc] at this
  exact this

theorem Wrs.set {w : World} {B : Nat} {v : Value} {ls : List Bs} (h : Wrs w B v ls) {p : Addr} (hp : p.block < B) (x : Value) : Wrs (w.setCell p x) B v ls := by
  rcases h with h | ⟨g, off, cap, e, hB, hg, hc, hf⟩
  · exact .inl h
  · refine .inr ⟨g, off, cap, e, hB, by simpa [World.setCell] using hg, fun j l hj => ?_, fun j hj => ?_⟩
    · rw [World.cell?_setCell_other _ _ _ _ (fun e' => by have := congrArg Addr.block e'; simp at this; omega)]; exact hc j l hj
    · rw [World.frozen?_setCell]; exact hf j hj
theorem Wrs.base {w : World} {B B' : Nat} {v : Value} {ls : List Bs} (h : Wrs w B v ls) (hB : B' ≤ B) : Wrs w B' v ls := by
  rcases h with h | ⟨g, off, cap, e, hb, r⟩
  · exact .inl h
  · exact .inr ⟨g, off, cap, e, by omega, r⟩

def SzL (m : Lt) (w : World) (e : Ending) (w' : World) : Prop :=
  Below w.heap.size w w' ∧ (e = .returned (.int .i64 (-1)) ∨ ∃ L : Nat, e = .returned (.int .i64 L) ∧ Small m)

theorem rds_form {w : World} {v : Value} {ls : List Bs} (h : Rds w v ls) : ∃ ad cap, v = .slice ad ls.length cap := by
  rcases h with ⟨rfl, ad, cap, e⟩ | ⟨g, off, cap, e, _⟩ <;> exact ⟨_, _, e⟩

set_option maxHeartbeats 1000000 in
set_option maxRecDepth 100000 in
theorem szLetter_calls (m : Lt) (v : Value) (w : World) (h : LtIn w m v) : Calls Tryz.prog 44 #[.agg (letA m v), .int .i64 1048576] w (SzL m w) := by
  obtain ⟨ad, cap, rfl⟩ := rds_form h.rds
  have H := Lib.hid h
  have sz := fun w' hb => szStringS_calls ad m.ps.length cap m.ps w' rfl (Rds.below h.rds hb) h.len h.each
  have ha := h.a
  have hb := h.b
  unfold maxLen at ha hb
  have SZ := Lib.hid sz
  clear h sz
  obtain ⟨k, f, t, c, ps, a, b⟩ := m
  obtain ⟨n, hn⟩ : ∃ n, n = ps.length := ⟨_, rfl⟩
  unfold letA
  simp only at SZ ha hb ⊢
  rw [← hn] at SZ ⊢
  clear hn
  go_enter Tryz.func44, Tryz.ntmps44
  go_wp2_with fail
  refine (SZ.out _ (new1 _ _)).mono ?_
  rintro e w1 ⟨rfl, hE⟩
  rcases hE with rfl | ⟨L, hL, rfl, hs1, hs2⟩
  · go_wp2_with fail
    go_ret
    exact ⟨new1 _ _, .inl rfl⟩
  · have S1 := Lib.hid hs1
    have S2 := Lib.hid hs2
    clear hs1 hs2
    have d0 : decide ((L : Int) < 0) = false := by simp
    by_cases h1 : L < a.length
    · have d1 : decide ((L : Int) - (a.length : Int) < 0) = true := by simp; omega
      go_wp2_with fail
      go_ret
      exact ⟨new1 _ _, .inl rfl⟩
    · have d1 : decide ((L : Int) - (a.length : Int) < 0) = false := by simp; omega
      by_cases h2 : L - a.length < b.length
      · have d2 : decide ((L : Int) - (a.length : Int) - (b.length : Int) < 0) = true := by simp; omega
        go_wp2_with fail
        go_ret
        exact ⟨new1 _ _, .inl rfl⟩
      · have d2 : decide ((L : Int) - (a.length : Int) - (b.length : Int) < 0) = false := by simp; omega
        go_wp2_with fail
        go_ret
        refine ⟨new1 _ _, .inr ⟨L - a.length - b.length, ?_, ⟨S1.out, S2.out, by show a.length ≤ _; omega, by show b.length ≤ _; omega⟩⟩⟩
        have e1 : ((L - a.length - b.length : Nat) : Int) = (L : Int) - (a.length : Int) - (b.length : Int) := by omega
        rw [e1]
        rfl

set_option maxHeartbeats 1000000 in
set_option maxRecDepth 100000 in
theorem toLetter_calls (m : Lt) (v : Value) (w : World) (h : Rds w v m.ps) (hl : m.ps.length ≤ 2000000) :
    Calls Tryz.prog 46 #[.agg (letA m v)] w fun e w' => ∃ u, e = .returned (.agg (letA m u)) ∧ Below w.heap.size w w' ∧ Wrs w' w.heap.size u m.ps := by
  obtain ⟨ad, cap, rfl⟩ := rds_form h
  have ts := fun w' hb => toStringS_calls ad m.ps.length cap m.ps w' rfl (Rds.below h hb) hl
  have TS := Lib.hid ts
  clear h ts hl
  obtain ⟨k, f, t, c, ps, a, b⟩ := m
  obtain ⟨n, hn⟩ : ∃ n, n = ps.length := ⟨_, rfl⟩
  unfold letA
  simp only at TS ⊢
  rw [← hn] at TS ⊢
  have HN := Lib.hid hn
  clear hn
  go_enter Tryz.func46, Tryz.ntmps46
  go_wp2_with fail
  refine (TS.out _ (((new1 _ _).alloc (by simp) _).alloc (by simp; omega) _)).mono ?_
  rintro e w1 ⟨u, rfl, hb, hw⟩
  obtain ⟨ua, uc, hu⟩ := rds_form hw.rds
  rw [← HN.out] at hu
  subst hu
  have X := alloc3 w (.cells #[.int .i64 k, .int .i64 f, .int .i64 t, .int .i64 c, .slice ad n cap, str a, str b] 51) (.cells #[.int .i64 0, .int .i64 0, .int .i64 0, .int .i64 0, .slice none 0 0, .string ⟨#[]⟩, .string ⟨#[]⟩] 53) (.cells #[.int .i64 k, .int .i64 f, .int .i64 t, .int .i64 c, .slice none 0 0, .string ⟨#[]⟩, .string ⟨#[]⟩] 53)
  have X0 := (hb.block w.heap.size (by simp; omega)).trans X.1
  have X1 := (hb.block (w.heap.size + 1) (by simp)).trans X.2.1
  have X2 := (hb.block (w.heap.size + 1 + 1) (by simp)).trans X.2.2
  obtain ⟨p0, p1, p2, p3, p4, p5, p6, pz⟩ := seven X0
  obtain ⟨q0, q1, q2, q3, q4, q5, q6, qz⟩ := seven X1
  obtain ⟨r0, r1, r2, r3, r4, r5, r6, rz⟩ := seven X2
  have qf : ∀ o, w1.frozen? ⟨w.heap.size + 1, o, none⟩ = false := fun o => by simp [World.frozen?, X1]
  have rf : ∀ o, w1.frozen? ⟨w.heap.size + 1 + 1, o, none⟩ = false := fun o => by simp [World.frozen?, X2]
  have HB := Lib.hid ((((new1 w (.cells #[.int .i64 k, .int .i64 f, .int .i64 t, .int .i64 c, .slice ad n cap, str a, str b] 51)).alloc (by simp) (.cells #[.int .i64 0, .int .i64 0, .int .i64 0, .int .i64 0, .slice none 0 0, .string ⟨#[]⟩, .string ⟨#[]⟩] 53)).alloc (by simp; omega) (.cells #[.int .i64 k, .int .i64 f, .int .i64 t, .int .i64 c, .slice none 0 0, .string ⟨#[]⟩, .string ⟨#[]⟩] 53)).trans (hb.mono (by simp; omega)))
  have HW := Lib.hid hw
  clear hb hw X0 X1 X2 X
  go_wp2_with fail
  refine bodyPost_ret (v := .agg #[.int .i64 k, .int .i64 f, .int .i64 t, .int .i64 c, .slice ua n uc, str a, str b]) (by simp [results, Tryz.results46, go_sem, q0, q1, q2, q3, q4, q5, q6]) rfl ⟨_, rfl, ?_, ?_⟩
  · exact (((((((((HB.out.setCell (by simp; omega) _).setCell (by simp; omega) _).setCell (by simp; omega) _).setCell (by simp) _).setCell (by simp) _).setCell (by simp) _).setCell (by simp) _).setCell (by simp) _).setCell (by simp) _).setCell (by simp) _
  · refine Wrs.base ?_ (B := w.heap.size + 1 + 1 + 1) (by omega)
    have h := HW.out
    simp only [World.size_alloc] at h
    exact Wrs.set (Wrs.set (Wrs.set (Wrs.set (Wrs.set (Wrs.set (Wrs.set (Wrs.set (Wrs.set (Wrs.set h (by simp) _) (by simp) _) (by simp) _) (by simp) _) (by simp) _) (by simp) _) (by simp) _) (by simp) _) (by simp) _) (by simp) _

set_option maxHeartbeats 1000000 in
set_option maxRecDepth 100000 in
theorem eqLetter_calls (m : Lt) (va vb : Value) (w : World) (ha : Rds w va m.ps) (hb : Rds w vb m.ps) (hl : m.ps.length ≤ 100000000) :
    Calls Tryz.prog 49 #[.agg (letA m va), .agg (letA m vb)] w fun e w' => e = .returned (.bool true) ∧ Below w.heap.size w w' := by
  obtain ⟨aa, ca, rfl⟩ := rds_form ha
  obtain ⟨ab, cb, rfl⟩ := rds_form hb
  have es := fun w' k => eqStringS_calls (.slice aa m.ps.length ca) (.slice ab m.ps.length cb) m.ps w' (Rds.below ha k) (Rds.below hb k) hl
  have ES := Lib.hid es
  clear ha hb es hl
  obtain ⟨k, f, t, c, ps, a, b⟩ := m
  obtain ⟨n, hn⟩ : ∃ n, n = ps.length := ⟨_, rfl⟩
  unfold letA
  simp only at ES ⊢
  rw [← hn] at ES ⊢
  clear hn
  go_enter Tryz.func49, Tryz.ntmps49
  go_wp2_with fail
  refine (ES.out _ ((new1 _ _).alloc (by simp) _)).mono ?_
  rintro e w1 ⟨rfl, hs⟩
  have HB := Lib.hid (((new1 w (.cells #[.int .i64 k, .int .i64 f, .int .i64 t, .int .i64 c, .slice aa n ca, str a, str b] 53)).alloc (by simp) (.cells #[.int .i64 k, .int .i64 f, .int .i64 t, .int .i64 c, .slice ab n cb, str a, str b] 53)).trans (hs.below _))
  have X := alloc2 w (.cells #[.int .i64 k, .int .i64 f, .int .i64 t, .int .i64 c, .slice aa n ca, str a, str b] 53) (.cells #[.int .i64 k, .int .i64 f, .int .i64 t, .int .i64 c, .slice ab n cb, str a, str b] 53)
  rw [← hs.heap] at X
  obtain ⟨p0, p1, p2, p3, p4, p5, p6, pz⟩ := seven X.1
  obtain ⟨q0, q1, q2, q3, q4, q5, q6, qz⟩ := seven X.2
  clear hs X
  go_wp2_with fail
  go_ret
  exact ⟨rfl, HB.out⟩
end Go.Proofs.YtnlinlodgpbnlaaGreat.lth

/- Lists of texts that lie apart: what stays when one of them is written. -/
namespace Go.Proofs.YtnlinlodgpbnlaaGreat.mrd
open Go.RowKit Go.Proofs.YtnlinlodgpbnlaaGreat.tm Go.Proofs.YtnlinlodgpbnlaaGreat.lib Go.Proofs.YtnlinlodgpbnlaaGreat.rdr Go.Proofs.YtnlinlodgpbnlaaGreat.bld Go.Proofs.YtnlinlodgpbnlaaGreat.app Go.Proofs.YtnlinlodgpbnlaaGreat.mrk Go.Proofs.YtnlinlodgpbnlaaGreat.mrs
set_option linter.unusedVariables false

/-- A list that is read: its block lies between lo and hi. -/
structure Rb (w : World) (lo hi : Nat) (v : Value) (ls : List Bs) : Prop where
  rds : Rds w v ls
  blk : ls ≠ [] → ∀ g, v.ownBlock = some g → lo ≤ g ∧ g < hi

/-- .. and may be written. -/
structure Wb (w : World) (lo hi : Nat) (v : Value) (ls : List Bs) : Prop where
  wrs : Wrs w lo v ls
  blk : ls ≠ [] → ∀ g, v.ownBlock = some g → lo ≤ g ∧ g < hi

theorem Wrs.own {w : World} {B : Nat} {v : Value} {ls : List Bs} (h : Wrs w B v ls) (hne : ls ≠ []) : ∀ g, v.ownBlock = some g → B ≤ g ∧ g < w.heap.size := by
  rcases h with ⟨h, _⟩ | ⟨g, off, cap, e, hB, hg, _⟩
  · exact absurd h hne
  · intro g' hg'
    rw [e] at hg'
    cases hg'
    exact ⟨hB, hg⟩

theorem Wrs.below {w w' : World} {B : Nat} {v : Value} {ls : List Bs} (h : Wrs w B v ls) (k : Below w.heap.size w w') : Wrs w' B v ls := by
  rcases h with h | ⟨g, off, cap, e, hB, hg, hc, hf⟩
  · exact .inl h
  · refine .inr ⟨g, off, cap, e, hB, Nat.lt_of_lt_of_le hg k.size, fun j l hj => ?_, fun j hj => ?_⟩
    · rw [← hc j l hj]; exact k.cell (p := ⟨g, off + j, none⟩) hg
    · rw [← hf j hj]; exact k.frozen (p := ⟨g, off + j, none⟩) hg

theorem Wb.of {w : World} {lo : Nat} {v : Value} {ls : List Bs} (h : Wrs w lo v ls) : Wb w lo w.heap.size v ls := ⟨h, fun hne g hg => Wrs.own h hne g hg⟩
theorem Wb.rb {w : World} {lo hi : Nat} {v : Value} {ls : List Bs} (h : Wb w lo hi v ls) : Rb w lo hi v ls := ⟨h.wrs.rds, h.blk⟩
theorem Rb.of {w : World} {B : Nat} {v : Value} {ls : List Bs} (h : Strs w B v ls) : Rb w B w.heap.size v ls := (Wb.of (Strs.wrs h)).rb

theorem Rb.below {w w' : World} {lo hi : Nat} {v : Value} {ls : List Bs} (h : Rb w lo hi v ls) (k : Below w.heap.size w w') : Rb w' lo hi v ls := ⟨Rds.below h.rds k, h.blk⟩
theorem Wb.below {w w' : World} {lo hi : Nat} {v : Value} {ls : List Bs} (h : Wb w lo hi v ls) (k : Below w.heap.size w w') : Wb w' lo hi v ls := ⟨Wrs.below h.wrs k, h.blk⟩

/-- Another list is written: this one, apart from it, is left as it was. -/
theorem Rb.apart {w w' : World} {lo hi lo' hi' : Nat} {v u : Value} {ls ms : List Bs} (h : Rb w lo hi v ls) (k : Marked u ms w w') (hu : ms ≠ [] → ∀ g, u.ownBlock = some g → lo' ≤ g ∧ g < hi') (ha : hi ≤ lo' ∨ hi' ≤ lo) : Rb w' lo hi v ls := by
  rcases k with ⟨_, k⟩ | ⟨e, k⟩
  · exact h.below k
  · refine ⟨?_, h.blk⟩
    rcases h.rds with ⟨h1, h2⟩ | ⟨g, off, cap, e2, hg, hc⟩
    · exact .inl ⟨h1, h2⟩
    · refine .inr ⟨g, off, cap, e2, Nat.lt_of_lt_of_le hg k.size, fun j l hj => ?_⟩
      have h3 := h.blk (fun e3 => by rw [e3] at hj; simp at hj) g (by rw [e2]; rfl)
      rw [← hc j l hj]
      exact World.cell?_of_block (w := w) (k.block g hg fun e' => by have := hu e g e'; omega)

theorem Wb.apart {w w' : World} {lo hi lo' hi' : Nat} {v u : Value} {ls ms : List Bs} (h : Wb w lo hi v ls) (k : Marked u ms w w') (hu : ms ≠ [] → ∀ g, u.ownBlock = some g → lo' ≤ g ∧ g < hi') (ha : hi ≤ lo' ∨ hi' ≤ lo) : Wb w' lo hi v ls := by
  rcases k with ⟨_, k⟩ | ⟨e, k⟩
  · exact h.below k
  · refine ⟨?_, h.blk⟩
    rcases h.wrs with ⟨h1, h2⟩ | ⟨g, off, cap, e2, hB, hg, hc, hf⟩
    · exact .inl ⟨h1, h2⟩
    · have hne : 0 < ls.length → ls ≠ [] := fun h3 e3 => by rw [e3] at h3; simp at h3
      have hb : 0 < ls.length → w'.heap[g]? = w.heap[g]? := fun h3 => k.block g hg fun e' => by
        have h4 := h.blk (hne h3) g (by rw [e2]; rfl)
        have := hu e g e'
        omega
      refine .inr ⟨g, off, cap, e2, hB, Nat.lt_of_lt_of_le hg k.size, fun j l hj => ?_, fun j hj => ?_⟩
      · rw [← hc j l hj]
        exact World.cell?_of_block (w := w) (hb (by have := (List.getElem?_eq_some_iff.1 hj).1; omega))
      · rw [← hf j hj]
        exact World.frozen?_of_block (w := w) (hb (by omega))

theorem Marked.low {w W W' : World} {v : Value} {ls : List Bs} {B lo hi : Nat} (h : Below B w W) (k : Marked v ls W W') (hB : B ≤ W.heap.size) (hv : ls ≠ [] → ∀ g, v.ownBlock = some g → lo ≤ g ∧ g < hi) (hl : B ≤ lo) : Below B w W' := by
  rcases k with ⟨_, k⟩ | ⟨e, k⟩
  · exact h.trans (k.mono hB)
  · exact h.trans (k.below hB fun g hg => Nat.le_trans hl (hv e g hg).1)
end Go.Proofs.YtnlinlodgpbnlaaGreat.mrd

/- Contracts of the laws' helpers on []string: markText, eqStringS, markStringS, heldStringS. -/
namespace Go.Proofs.YtnlinlodgpbnlaaGreat.mrk
open Go.RowKit Go.Sort Go.Proofs.YtnlinlodgpbnlaaGreat.tm Go.Proofs.YtnlinlodgpbnlaaGreat.lib Go.Proofs.YtnlinlodgpbnlaaGreat.rdr Go.Proofs.YtnlinlodgpbnlaaGreat.bld Go.Proofs.YtnlinlodgpbnlaaGreat.app
set_option linter.unusedVariables false

def dig : Nat → Nat → Bs → Bs
  | 0, _, acc => acc
  | f + 1, k, acc => if k = 0 then acc else dig f (k / 10) (UInt8.ofNat (48 + k % 10) :: acc)
def mkT (k : Nat) : Bs := 109 :: dig 20 k []

theorem dig_len : ∀ f k acc, (dig f k acc).length ≤ acc.length + f
  | 0, k, acc => by simp [dig]
  | f + 1, k, acc => by
    rw [dig]
    split
    · omega
    · have := dig_len f (k / 10) (UInt8.ofNat (48 + k % 10) :: acc)
      rw [List.length_cons] at this
      omega

theorem add_at (a b c : Bs) (h : a ++ b = c) (hl : c.length ≤ 100000000) (w : World) : (Op.stringOp .add ⟨a.toArray⟩ ⟨b.toArray⟩).run Tryz.prog w = .ok (.string ⟨c.toArray⟩) w := by
  have hc := congrArg List.length h
  rw [List.length_append] at hc
  rw [run_string_add_sum w _ _ (by show a.toArray.size + b.toArray.size ≤ _; simp; omega), ← h, ByteArray.mk_append_mk]

set_option maxHeartbeats 1000000 in
set_option maxRecDepth 100000 in
theorem markText_calls (k : Nat) (h1 : 1 ≤ k) (h2 : k ≤ 100000000) (w : World) :
    Calls Tryz.prog 152 #[.int .i64 k] w fun e w' => e = .returned (str (mkT k)) ∧ Below w.heap.size w w' := by
  have d0 : decide (k = 0) = false := by simp; omega
  go_enter Tryz.func152, Tryz.ntmps152
  go_wp2
  go_loopw [0, 3, 6, 7, 8, 9, 10, 11, 12, 13, 14, 15, 16, 17] (fun vk vo _ _ _ _ _ _ _ _ _ _ _ _ wr => ∃ (q : Nat) (acc : Bs) (f : Nat), vk = .int .i64 q ∧ vo = str acc ∧ dig f q acc = dig 20 k [] ∧ q ≤ 100000000 ∧ acc.length + f ≤ 20 ∧ q < 10 ^ f ∧ Below w.heap.size w wr) (fun vk _ _ _ _ _ _ _ _ _ _ _ _ _ _ => (intOf vk).toNat)
  case atStart => exact ⟨k, [], 20, rfl, rfl, rfl, h2, by simp, by omega, Below.refl _ _⟩
  case round =>
    obtain ⟨q, acc, f, rfl, rfl, hd, hq, hl, hf, hb⟩ := hrel
    have HB := Lib.hid hb
    have HD := Lib.hid hd
    have HF := Lib.hid hf
    clear hb hd hf
    by_cases h0 : q = 0
    · subst h0
      have hacc : acc = dig 20 k [] := by
        rw [← HD.out]
        cases f <;> simp [dig]
      have f1 := add_at [109] acc (mkT k) (by rw [hacc]; rfl) (by have := dig_len 20 k []; unfold mkT; simp at this ⊢; omega)
      clear hacc
      go_wp2_with fail
      go_ret
      exact ⟨rfl, HB.out⟩
    · have dq : decide (0 < (q : Int)) = true := by simp; omega
      obtain ⟨f, rfl⟩ : ∃ g, f = g + 1 := by
        cases f with
        | zero => have := HF.out; simp at this; omega
        | succ g => exact ⟨g, rfl⟩
      have e0 : dig (f + 1) q acc = dig f (q / 10) (UInt8.ofNat (48 + q % 10) :: acc) := by rw [dig, if_neg h0]
      have hc : ((UInt8.ofNat (48 + q % 10)).toNat : Int) = 48 + ((q % 10 : Nat) : Int) := by
        rw [UInt8.toNat_ofNat']; omega
      obtain ⟨C, hC⟩ : ∃ C : UInt8, C = UInt8.ofNat (48 + q % 10) := ⟨_, rfl⟩
      rw [← hC] at hc e0
      have f1 := add_at [C] acc (C :: acc) rfl (by simp; omega)
      have E0 := Lib.hid e0
      have HC := Lib.hid hc
      clear e0 hc hC
      have hcell : ∀ i (h : i < [C].length), (wr.alloc (.cells #[.int .u8 (48 + (q : Int) % 10)] 5)).cell? ⟨wr.heap.size, 0 + i, none⟩ = some (.int .u8 ([C][i].toNat)) := by
        intro i hi
        simp at hi
        subst hi
        have := HC.out
        simp [go_sem]
        omega
      have HH := Lib.hid hcell
      clear hcell
      go_wp2_with (refine wp_strAt (.tmp 12) wr.heap.size 0 1 1 [C] rfl rfl rfl rfl HH.out ?_)
      go_roundw
      case rel =>
        refine ⟨q / 10, C :: acc, f, ?_, rfl, ?_, by omega, by simp; omega, ?_, ?_⟩
        · simp
        · rw [← HD.out, E0.out]
        · have := HF.out
          rw [Nat.pow_succ] at this
          omega
        · exact HB.out.alloc HB.out.size _
      case measure =>
        simp [intOf]
        omega

end Go.Proofs.YtnlinlodgpbnlaaGreat.mrk

/- Contracts of the laws' helpers on []string: markStringS, heldStringS. -/
namespace Go.Proofs.YtnlinlodgpbnlaaGreat.mrs
open Go.RowKit Go.Sort Go.Proofs.YtnlinlodgpbnlaaGreat.tm Go.Proofs.YtnlinlodgpbnlaaGreat.lib Go.Proofs.YtnlinlodgpbnlaaGreat.rdr Go.Proofs.YtnlinlodgpbnlaaGreat.bld Go.Proofs.YtnlinlodgpbnlaaGreat.app Go.Proofs.YtnlinlodgpbnlaaGreat.mrk
set_option linter.unusedVariables false

/-- The marks from k on. -/
def marks (k n : Nat) : List Bs := (List.range n).map fun i => mkT (k + i)
theorem marks_len (k n : Nat) : (marks k n).length = n := by simp [marks]
theorem marks_at (k n j : Nat) (h : j < n) : (marks k n)[j]? = some (mkT (k + j)) := by simp [marks, h]

structure Mk (g off n k0 k : Nat) (w wr : World) : Prop where
  only : Only g w wr
  lt : g < wr.heap.size
  cell : ∀ j, j < n → ∃ l, wr.cell? ⟨g, off + j, none⟩ = some (str l) ∧ (j < k → l = mkT (k0 + j))
  free : ∀ j, j < n → wr.frozen? ⟨g, off + j, none⟩ = false

theorem Mk.below {g off n k0 k : Nat} {w wr w1 : World} (h : Mk g off n k0 k w wr) (hb : Below wr.heap.size wr w1) : Mk g off n k0 k w w1 := by
  refine ⟨h.only.trans (Only.of_below hb), Nat.lt_of_lt_of_le h.lt hb.size, fun j hj => ?_, fun j hj => ?_⟩
  · obtain ⟨l, h1, h2⟩ := h.cell j hj
    exact ⟨l, by rw [hb.cell (p := ⟨g, off + j, none⟩) h.lt]; exact h1, h2⟩
  · rw [hb.frozen (p := ⟨g, off + j, none⟩) h.lt]; exact h.free j hj

theorem Mk.put {g off n k0 k : Nat} {w w1 : World} (h : Mk g off n k0 k w w1) (hk : k < n) : Mk g off n k0 (k + 1) w (w1.setCell ⟨g, off + k, none⟩ (str (mkT (k0 + k)))) := by
  obtain ⟨lk, ck, _⟩ := h.cell k hk
  refine ⟨h.only.trans (Only.setCell _ _), by simpa [World.setCell] using h.lt, fun j hj => ?_, fun j hj => ?_⟩
  · by_cases e : j = k
    · subst e
      exact ⟨mkT (k0 + j), World.cell?_setCell_same w1 _ _ (by rw [ck]), fun _ => rfl⟩
    · obtain ⟨l, h1, h2⟩ := h.cell j hj
      refine ⟨l, ?_, fun hlt => h2 (by omega)⟩
      rw [World.cell?_setCell_other _ _ _ _ (by intro e'; first | (simp at e'; done) | (simp at e'; omega))]
      exact h1
  · rw [World.frozen?_setCell]
    exact h.free j hj

set_option maxHeartbeats 1000000 in
set_option maxRecDepth 100000 in
theorem markStringS_calls (v : Value) (ls : List Bs) (B : Nat) (w : World) (h : Wrs w B v ls) (hl : ls.length ≤ 10000000) (k0 : Nat) (hk1 : 1 ≤ k0) (hk2 : k0 ≤ 10000000) :
    Calls Tryz.prog 114 #[v, .int .i64 k0] w fun e w' => e = .returned (.int .i64 (k0 + ls.length : Nat)) ∧ Marked v ls w w' ∧ Rds w' v (marks k0 ls.length) := by
  rcases h with ⟨rfl, ad, cap, rfl⟩ | ⟨g, off, cap, rfl, hBg, hg, hc, hf⟩
  · go_enter Tryz.func114, Tryz.ntmps114
    go_wp2_with fail
    refine wp_loop_rounds 1 ?_
    rw [rounds_succ]
    go_wp2_with fail
    go_ret
    exact ⟨rfl, .inl ⟨rfl, Below.refl _ _⟩, .inl ⟨rfl, _, _, rfl⟩⟩
  · by_cases h0 : ls = []
    · subst h0
      clear hc hf
      go_enter Tryz.func114, Tryz.ntmps114
      go_wp2_with fail
      refine wp_loop_rounds 1 ?_
      rw [rounds_succ]
      go_wp2_with fail
      go_ret
      exact ⟨rfl, .inl ⟨rfl, Below.refl _ _⟩, .inl ⟨rfl, _, _, rfl⟩⟩
    have H0 := Lib.hid h0
    clear h0
    obtain ⟨n, hn⟩ : ∃ n, n = ls.length := ⟨_, rfl⟩
    have hM : Mk g off n k0 0 w w := ⟨Only.refl _ _, hg, fun j hj => ⟨_, hc j _ (List.getElem?_eq_getElem (by omega)), fun h => by omega⟩, fun j hj => hf j (by omega)⟩
    rw [← hn] at hl ⊢
    have HM := Lib.hid hM
    clear hc hf hn hM
    go_enter Tryz.func114, Tryz.ntmps114
    go_wp2_with fail
    go_loopw [1, 5, 6, 7, 8, 9, 10, 11, 12, 13, 14, 15, 16, 17, 18] (fun vk vi _ _ _ _ _ _ _ _ _ _ _ _ _ wr => ∃ k : Nat, k ≤ n ∧ vi = .int .i64 k ∧ vk = .int .i64 (k0 + k : Nat) ∧ Mk g off n k0 k w wr) (fun _ vi _ _ _ _ _ _ _ _ _ _ _ _ _ _ => n - (intOf vi).toNat)
    case atStart => exact ⟨0, Nat.zero_le _, rfl, rfl, HM.out⟩
    case round =>
      obtain ⟨k, hk, rfl, rfl, hm⟩ := hrel
      have HR := Lib.hid hm
      clear hm
      by_cases hlt : k < n
      · have a1 := markText_calls (k0 + k) (by omega) (by omega)
        obtain ⟨T, hT⟩ : ∃ T, T = mkT (k0 + k) := ⟨_, rfl⟩
        rw [← hT] at a1
        have HT := Lib.hid hT
        clear hT
        go_wp2_with fail
        refine (a1 _).mono ?_
        rintro e w1 ⟨rfl, hb⟩
        have HR1 := Lib.hid (HR.out.below hb)
        obtain ⟨l, c1, _⟩ := HR1.out.cell k hlt
        have f1 := HR1.out.free k hlt
        clear hb
        go_wp2_with fail
        go_roundw
        case rel => exact ⟨k + 1, by omega, by go_num, by go_num, by rw [HT.out]; exact HR1.out.put hlt⟩
        case measure => simp [intOf]; omega
      · obtain rfl : k = n := by omega
        go_wp2_with fail
        go_ret
        refine ⟨rfl, .inr ⟨H0.out, Aside.of_only HR.out.only rfl⟩, .inr ⟨g, off, cap, by rw [marks_len], HR.out.lt, fun j l hj => ?_⟩⟩
        have hj' : j < k := by
          rcases Nat.lt_or_ge j k with h | h
          · exact h
          · rw [List.getElem?_eq_none (by rw [marks_len]; exact h)] at hj; cases hj
        rw [marks_at _ _ _ hj'] at hj
        cases hj
        obtain ⟨l, h1, h2⟩ := HR.out.cell j hj'
        rw [h1, h2 hj']

set_option maxHeartbeats 1000000 in
set_option maxRecDepth 100000 in
theorem heldStringS_calls (v : Value) (n : Nat) (w : World) (k0 : Nat) (h : Rds w v (marks k0 n)) (hl : n ≤ 10000000) (hk1 : 1 ≤ k0) (hk2 : k0 ≤ 10000000) :
    Calls Tryz.prog 153 #[v, .int .i64 k0] w fun e w' => e = .returned (.int .i64 (k0 + n : Nat)) ∧ Below w.heap.size w w' := by
  rcases h with ⟨h, ad, cap, rfl⟩ | ⟨g, off, cap, rfl, hg, hc⟩
  · obtain rfl : n = 0 := by have := congrArg List.length h; rw [marks_len] at this; simpa using this
    clear h
    go_enter Tryz.func153, Tryz.ntmps153
    go_wp2_with fail
    refine wp_loop_rounds 1 ?_
    rw [rounds_succ]
    go_wp2_with fail
    go_ret
    exact ⟨rfl, Below.refl _ _⟩
  · rw [marks_len]
    have hcc : ∀ j, j < n → w.cell? ⟨g, off + j, none⟩ = some (str (mkT (k0 + j))) := fun j hj => hc j _ (marks_at k0 n j hj)
    have HC := Lib.hid hcc
    clear hc hcc
    go_enter Tryz.func153, Tryz.ntmps153
    go_wp2_with fail
    go_loopw [1, 5, 6, 7, 8, 9, 10, 11, 12, 13, 14, 15, 16, 17, 18, 19, 20] (fun vk vi _ _ _ _ _ _ _ _ _ _ _ _ _ _ _ wr => ∃ k : Nat, k ≤ n ∧ vi = .int .i64 k ∧ vk = .int .i64 (k0 + k : Nat) ∧ Below w.heap.size w wr) (fun _ vi _ _ _ _ _ _ _ _ _ _ _ _ _ _ _ _ => n - (intOf vi).toNat)
    case atStart => exact ⟨0, Nat.zero_le _, rfl, rfl, Below.refl _ _⟩
    case round =>
      obtain ⟨k, hk, rfl, rfl, hm⟩ := hrel
      have HR := Lib.hid hm
      by_cases hlt : k < n
      · have a1 := markText_calls (k0 + k) (by omega) (by omega)
        have c1 : wr.cell? ⟨g, off + k, none⟩ = some (str (mkT (k0 + k))) := by rw [hm.cell (p := ⟨g, off + k, none⟩) hg]; exact HC.out k hlt
        obtain ⟨T, hT⟩ : ∃ T, T = mkT (k0 + k) := ⟨_, rfl⟩
        rw [← hT] at a1 c1
        have hc2 := fun (d : Nat) (os : Array Obj) => cell_regrown (d := d) (os := os) c1
        clear hm hT
        go_wp2_with fail
        refine wp_region_quiet_below (by kernel_rfl) (by kernel_rfl) ?_
        repeat (quiet_step (exact Calls.regrown_of (a1 _)))
        refine wpQuiet_nil ?_
        rintro w2 ⟨⟨dq, osq⟩, hw2⟩
        have hb2 : Below wr.heap.size wr w2 := by rw [hw2]; exact below_regrown _ _ _
        have HB2 := Lib.hid (HR.out.trans (hb2.mono HR.out.size))
        clear hw2 hb2
        go_wp2_with fail
        go_roundw
        case rel => exact ⟨k + 1, by omega, by go_num, by go_num, HB2.out⟩
        case measure => simp [intOf]; omega
      · obtain rfl : k = n := by omega
        clear hm
        go_wp2_with fail
        go_ret
        exact ⟨rfl, HR.out⟩
end Go.Proofs.YtnlinlodgpbnlaaGreat.mrs

/- The laws' helpers on letters that are handed back: eqLetterOut, markLetter, heldLetter, markLetterOut, heldLetterOut. -/
namespace Go.Proofs.YtnlinlodgpbnlaaGreat.lto
open Go.RowKit Go.Proofs.YtnlinlodgpbnlaaGreat.tm Go.Proofs.YtnlinlodgpbnlaaGreat.lib Go.Proofs.YtnlinlodgpbnlaaGreat.rdr Go.Proofs.YtnlinlodgpbnlaaGreat.bld Go.Proofs.YtnlinlodgpbnlaaGreat.app Go.Proofs.YtnlinlodgpbnlaaGreat.mrk Go.Proofs.YtnlinlodgpbnlaaGreat.mrs Go.Proofs.YtnlinlodgpbnlaaGreat.ltv Go.Proofs.YtnlinlodgpbnlaaGreat.lth Go.Proofs.YtnlinlodgpbnlaaGreat.sgv
set_option linter.unusedVariables false

theorem keptM {W W' : World} {b : Nat} {o : Obj} {v : Value} {ls : List Bs} (h : W.heap[b]? = some o) (k : Marked v ls W W') (hne : ls ≠ [] → v.ownBlock ≠ some b) : W'.heap[b]? = some o := by
  rcases k with ⟨_, k⟩ | ⟨e, k⟩
  · exact (k.block b (Array.getElem?_eq_some_iff.1 h).1).trans h
  · exact (k.block b (Array.getElem?_eq_some_iff.1 h).1 (hne e)).trans h

theorem wrs_alloc {w : World} {B : Nat} {v : Value} {ls : List Bs} (h : Wrs w B v ls) (o : Obj) : Wrs (w.alloc o) B v ls := Wrs.below h (new1 w o)

set_option maxHeartbeats 1000000 in
set_option maxRecDepth 100000 in
theorem eqOut_calls (m : Lt) (c0 : Int) (va vb : Value) (w : World) (ha : Rds w va m.ps) (hb : Rds w vb m.ps) (hl : m.ps.length ≤ 100000000) :
    Calls Tryz.prog 48 #[.agg (outA m va c0), .agg (outA m vb c0)] w fun e w' => e = .returned (.bool true) ∧ Below w.heap.size w w' := by
  have es := fun w' k => eqLetter_calls m va vb w' (Rds.below ha k) (Rds.below hb k) hl
  obtain ⟨aa, ca, rfl⟩ := rds_form ha
  obtain ⟨ab, cb, rfl⟩ := rds_form hb
  have ES := Lib.hid es
  clear ha hb es hl
  obtain ⟨k, f, t, c, ps, a, b⟩ := m
  unfold outA
  unfold letA at ES
  simp only at ES ⊢
  obtain ⟨n, hn⟩ : ∃ n, n = ps.length := ⟨_, rfl⟩
  rw [← hn] at ES ⊢
  clear hn
  go_enter Tryz.func48, Tryz.ntmps48
  go_wp2_with fail
  refine (ES.out _ ((new1 _ _).alloc (by simp) _)).mono ?_
  rintro e w1 ⟨rfl, hs⟩
  have X := sgv.alloc2 w (.cells #[.int .i64 k, .int .i64 f, .int .i64 t, .int .i64 c, .slice aa n ca, str a, str b, .int .i64 c0] 55) (.cells #[.int .i64 k, .int .i64 f, .int .i64 t, .int .i64 c, .slice ab n cb, str a, str b, .int .i64 c0] 55)
  have HB := Lib.hid (((new1 w (.cells #[.int .i64 k, .int .i64 f, .int .i64 t, .int .i64 c, .slice aa n ca, str a, str b, .int .i64 c0] 55)).alloc (by simp) (.cells #[.int .i64 k, .int .i64 f, .int .i64 t, .int .i64 c, .slice ab n cb, str a, str b, .int .i64 c0] 55)).trans (hs.mono (by simp; omega)))
  have X1 := (hs.block w.heap.size (by simp; omega)).trans X.1
  have X2 := (hs.block (w.heap.size + 1) (by simp)).trans X.2
  obtain ⟨p0, p1, p2, p3, p4, p5, p6, p7, pz, pf⟩ := eight X1
  obtain ⟨q0, q1, q2, q3, q4, q5, q6, q7, qz, qf⟩ := eight X2
  clear hs X X1 X2
  go_wp2_with fail
  go_ret
  exact ⟨rfl, HB.out⟩

set_option maxHeartbeats 1000000 in
set_option maxRecDepth 100000 in
theorem markL_calls (m : Lt) (v : Value) (B : Nat) (w : World) (h : Wrs w B v m.ps) (hl : m.ps.length ≤ 10000000) :
    Calls Tryz.prog 50 #[.agg (letA m v), .int .i64 1] w fun e w' => e = .returned (.int .i64 (1 + m.ps.length : Nat)) ∧ Marked v m.ps w w' ∧ Rds w' v (marks 1 m.ps.length) := by
  have hc := fun w (h : Wrs w B v m.ps) => markStringS_calls v m.ps B w h hl 1 (by omega) (by omega)
  obtain ⟨ad, cap, rfl⟩ := rds_form h.rds
  have H := Lib.hid h
  have HC := Lib.hid hc
  clear h hc hl
  obtain ⟨k, f, t, c, ps, a, b⟩ := m
  unfold letA
  simp only at H HC ⊢
  obtain ⟨n, hn⟩ : ∃ n, n = ps.length := ⟨_, rfl⟩
  rw [← hn] at H HC ⊢
  clear hn
  go_enter Tryz.func50, Tryz.ntmps50
  go_wp2_with fail
  refine (HC.out _ (wrs_alloc H.out _)).mono ?_
  rintro e w1 ⟨rfl, hb, hr⟩
  have HB := Lib.hid (Marked.after (new1 w (.cells #[.int .i64 k, .int .i64 f, .int .i64 t, .int .i64 c, .slice ad n cap, str a, str b] 53)) hb)
  have HR := Lib.hid hr
  clear hb hr
  go_wp2_with fail
  go_ret
  exact ⟨rfl, HB.out, HR.out⟩

set_option maxHeartbeats 1000000 in
set_option maxRecDepth 100000 in
theorem heldL_calls (m : Lt) (v : Value) (n : Nat) (w : World) (h : Rds w v (marks 1 n)) (hl : n ≤ 10000000) :
    Calls Tryz.prog 115 #[.agg (letA m v), .int .i64 1] w fun e w' => e = .returned (.int .i64 (1 + n : Nat)) ∧ Below w.heap.size w w' := by
  have hc := fun w' (k : Below w.heap.size w w') => heldStringS_calls v n w' 1 (Rds.below h k) hl (by omega) (by omega)
  obtain ⟨ad, cap, hv⟩ := rds_form h
  have HC := Lib.hid hc
  clear h hc hl
  obtain ⟨M, hM⟩ : ∃ M, M = 1 + n := ⟨_, rfl⟩
  rw [← hM] at HC ⊢
  subst hv
  obtain ⟨k, f, t, c, ps, a, b⟩ := m
  unfold letA
  simp only at HC ⊢
  obtain ⟨N, hN⟩ : ∃ N, N = (marks 1 n).length := ⟨_, rfl⟩
  rw [← hN] at HC ⊢
  have d0 : decide ((M : Int) < 0) = false := by simp
  clear hM hN
  go_enter Tryz.func115, Tryz.ntmps115
  go_wp2_with fail
  refine (HC.out _ (new1 _ _)).mono ?_
  rintro e w1 ⟨rfl, hb⟩
  have HB := Lib.hid ((new1 w (.cells #[.int .i64 k, .int .i64 f, .int .i64 t, .int .i64 c, .slice ad N cap, str a, str b] 53)).trans (hb.mono (by simp)))
  clear hb
  go_wp2_with fail
  go_ret
  exact ⟨rfl, HB.out⟩

set_option maxHeartbeats 1000000 in
set_option maxRecDepth 100000 in
theorem markO_calls (m : Lt) (v : Value) (c0 : Int) (B : Nat) (w : World) (h : Wrs w B v m.ps) (hl : m.ps.length ≤ 10000000) :
    Calls Tryz.prog 51 #[.agg (outA m v c0), .int .i64 1] w fun e w' => e = .returned (.int .i64 (1 + m.ps.length : Nat)) ∧ Marked v m.ps w w' ∧ Rds w' v (marks 1 m.ps.length) := by
  have hc := fun w (h : Wrs w B v m.ps) => markL_calls m v B w h hl
  obtain ⟨ad, cap, rfl⟩ := rds_form h.rds
  have H := Lib.hid h
  have HC := Lib.hid hc
  clear h hc hl
  obtain ⟨k, f, t, c, ps, a, b⟩ := m
  unfold letA at HC
  unfold outA
  simp only at H HC ⊢
  obtain ⟨n, hn⟩ : ∃ n, n = ps.length := ⟨_, rfl⟩
  rw [← hn] at H HC ⊢
  clear hn
  go_enter Tryz.func51, Tryz.ntmps51
  go_wp2_with fail
  refine (HC.out _ (wrs_alloc H.out _)).mono ?_
  rintro e w1 ⟨rfl, hb, hr⟩
  have HB := Lib.hid (Marked.after (new1 w (.cells #[.int .i64 k, .int .i64 f, .int .i64 t, .int .i64 c, .slice ad n cap, str a, str b, .int .i64 c0] 55)) hb)
  have HR := Lib.hid hr
  clear hb hr
  go_wp2_with fail
  go_ret
  exact ⟨rfl, HB.out, HR.out⟩

set_option maxHeartbeats 1000000 in
set_option maxRecDepth 100000 in
theorem heldO_calls (m : Lt) (v : Value) (c0 : Int) (n : Nat) (w : World) (h : Rds w v (marks 1 n)) (hl : n ≤ 10000000) :
    Calls Tryz.prog 52 #[.agg (outA m v c0), .int .i64 1] w fun e w' => e = .returned (.int .i64 (1 + n : Nat)) ∧ Below w.heap.size w w' := by
  have hc := fun w' (k : Below w.heap.size w w') => heldL_calls m v n w' (Rds.below h k) hl
  obtain ⟨ad, cap, hv⟩ := rds_form h
  have HC := Lib.hid hc
  clear h hc hl
  obtain ⟨M, hM⟩ : ∃ M, M = 1 + n := ⟨_, rfl⟩
  rw [← hM] at HC ⊢
  subst hv
  obtain ⟨k, f, t, c, ps, a, b⟩ := m
  unfold letA at HC
  unfold outA
  simp only at HC ⊢
  obtain ⟨N, hN⟩ : ∃ N, N = (marks 1 n).length := ⟨_, rfl⟩
  rw [← hN] at HC ⊢
  have d0 : decide ((M : Int) < 0) = false := by simp
  clear hM hN
  go_enter Tryz.func52, Tryz.ntmps52
  go_wp2_with fail
  refine (HC.out _ (new1 _ _)).mono ?_
  rintro e w1 ⟨rfl, hb⟩
  have HB := Lib.hid ((new1 w (.cells #[.int .i64 k, .int .i64 f, .int .i64 t, .int .i64 c, .slice ad N cap, str a, str b, .int .i64 c0] 55)).trans (hb.mono (by simp)))
  clear hb
  go_wp2_with fail
  go_ret
  exact ⟨rfl, HB.out⟩
end Go.Proofs.YtnlinlodgpbnlaaGreat.lto
