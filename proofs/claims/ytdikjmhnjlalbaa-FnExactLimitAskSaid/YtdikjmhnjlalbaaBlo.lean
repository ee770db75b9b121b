/- The laws' helpers on buckets and limits: alike, marked, held. -/
import Derived.Test.YtdikjmhnjlalbaaBlh
import Derived.Test.YtdikjmhnjlalbaaMrd
import Derived.Test.YtdikjmhnjlalbaaMrk
import Derived.Test.YtdikjmhnjlalbaaGdm
import Derived.RegionTactic
import Derived.BigRegion
import Derived.Deep.RegionWith
namespace Go.Proofs.Ytdikjmhnjlalbaa.blo
open Go.RowKit Go.Sort Go.Proofs.Ytdikjmhnjlalbaa.tm Go.Proofs.Ytdikjmhnjlalbaa.lib Go.Proofs.Ytdikjmhnjlalbaa.rdr Go.Proofs.Ytdikjmhnjlalbaa.bld Go.Proofs.Ytdikjmhnjlalbaa.app Go.Proofs.Ytdikjmhnjlalbaa.mrk Go.Proofs.Ytdikjmhnjlalbaa.mrs Go.Proofs.Ytdikjmhnjlalbaa.gdp Go.Proofs.Ytdikjmhnjlalbaa.gdm Go.Proofs.Ytdikjmhnjlalbaa.rbk Go.Proofs.Ytdikjmhnjlalbaa.bkr Go.Proofs.Ytdikjmhnjlalbaa.fmg Go.Proofs.Ytdikjmhnjlalbaa.glh Go.Proofs.Ytdikjmhnjlalbaa.blh
set_option linter.unusedVariables false

/-! ### rows of buckets that lie apart -/
structure Qb (w : World) (lo hi : Nat) (v : Value) (l : List Bk) : Prop where
  rbk : Rbk w v l
  blk : l ≠ [] → ∀ g, v.ownBlock = some g → lo ≤ g ∧ g < hi
structure Qw (w : World) (lo hi : Nat) (v : Value) (l : List Bk) : Prop where
  wbk : Wbk w lo v l
  blk : l ≠ [] → ∀ g, v.ownBlock = some g → lo ≤ g ∧ g < hi
theorem Wbk.own {w : World} {B : Nat} {v : Value} {l : List Bk} (h : Wbk w B v l) (hne : l ≠ []) : ∀ g, v.ownBlock = some g → B ≤ g ∧ g < w.heap.size := by
  rcases h with ⟨h, _⟩ | ⟨g, off, cap, e, hB, hg, _⟩
  · exact absurd h hne
  · intro g' hg'
    rw [e] at hg'
    cases hg'
    exact ⟨hB, hg⟩
theorem Wbk.below {w w' : World} {B : Nat} {v : Value} {l : List Bk} (h : Wbk w B v l) (k : Below w.heap.size w w') : Wbk w' B v l := by
  rcases h with h | ⟨g, off, cap, e, hB, hg, hc, hf⟩
  · exact .inl h
  · refine .inr ⟨g, off, cap, e, hB, Nat.lt_of_lt_of_le hg k.size, fun j b hj => (hc j b hj).same (k.block g hg), fun j hj => ?_⟩
    rw [← hf j hj]; exact k.frozen (p := ⟨g, off + j, none⟩) hg
theorem Wbk.base {w : World} {B B' : Nat} {v : Value} {l : List Bk} (h : Wbk w B v l) (hB : B' ≤ B) : Wbk w B' v l := by
  rcases h with h | ⟨g, off, cap, e, hb, r⟩
  · exact .inl h
  · exact .inr ⟨g, off, cap, e, by omega, r⟩
theorem Wbk.set {w : World} {B : Nat} {v : Value} {l : List Bk} (h : Wbk w B v l) {p : Addr} (hp : p.block < B) (x : Value) : Wbk (w.setCell p x) B v l := by
  rcases h with h | ⟨g, off, cap, e, hB, hg, hc, hf⟩
  · exact .inl h
  · have hk : ∀ o, (w.setCell p x).cell? ⟨g, o, none⟩ = w.cell? ⟨g, o, none⟩ := fun o => World.cell?_setCell_other _ _ _ _ (fun e' => by have := congrArg Addr.block e'; simp at this; omega)
    refine .inr ⟨g, off, cap, e, hB, by simpa [World.setCell] using hg, fun j b hj => ?_, fun j hj => ?_⟩
    · obtain ⟨h0, h1, h2⟩ := hc j b hj
      exact ⟨by rw [hk]; exact h0, by rw [hk]; exact h1, by rw [hk]; exact h2⟩
    · rw [World.frozen?_setCell]; exact hf j hj
theorem Qw.of {w : World} {lo : Nat} {v : Value} {l : List Bk} (h : Wbk w lo v l) : Qw w lo w.heap.size v l := ⟨h, fun hne g hg => Wbk.own h hne g hg⟩
theorem Qw.rb {w : World} {lo hi : Nat} {v : Value} {l : List Bk} (h : Qw w lo hi v l) : Qb w lo hi v l := ⟨h.wbk.rbk, h.blk⟩
theorem Qb.below {w w' : World} {lo hi : Nat} {v : Value} {l : List Bk} (h : Qb w lo hi v l) (k : Below w.heap.size w w') : Qb w' lo hi v l := ⟨h.rbk.below k, h.blk⟩
theorem Qw.below {w w' : World} {lo hi : Nat} {v : Value} {l : List Bk} (h : Qw w lo hi v l) (k : Below w.heap.size w w') : Qw w' lo hi v l := ⟨Wbk.below h.wbk k, h.blk⟩

/-- What the marking leaves: of no buckets nothing turned. -/
def MarkedB (v : Value) (l : List Bk) (w w' : World) : Prop := (l = [] ∧ Below w.heap.size w w') ∨ (l ≠ [] ∧ Aside v w w')
theorem MarkedB.after {v : Value} {l : List Bk} {w w1 w2 : World} (h : Below w.heap.size w w1) (k : MarkedB v l w1 w2) : MarkedB v l w w2 := by
  rcases k with ⟨e, k⟩ | ⟨e, k⟩
  · exact .inl ⟨e, h.trans (k.mono h.size)⟩
  · exact .inr ⟨e, Aside.after h k⟩
theorem Qb.apart {w w' : World} {lo hi lo' hi' : Nat} {v u : Value} {l m : List Bk} (h : Qb w lo hi v l) (k : MarkedB u m w w') (hu : m ≠ [] → ∀ g, u.ownBlock = some g → lo' ≤ g ∧ g < hi') (ha : hi ≤ lo' ∨ hi' ≤ lo) : Qb w' lo hi v l := by
  rcases k with ⟨_, k⟩ | ⟨e, k⟩
  · exact h.below k
  · refine ⟨?_, h.blk⟩
    rcases h.rbk with ⟨h1, h2⟩ | ⟨g, off, cap, e2, hg, hc⟩
    · exact .inl ⟨h1, h2⟩
    · refine .inr ⟨g, off, cap, e2, Nat.lt_of_lt_of_le hg k.size, fun j b hj => ?_⟩
      have h3 := h.blk (fun e3 => by rw [e3] at hj; simp at hj) g (by rw [e2]; rfl)
      exact (hc j b hj).same (k.block g hg fun e' => by have := hu e g e'; omega)
theorem Qw.apart {w w' : World} {lo hi lo' hi' : Nat} {v u : Value} {l m : List Bk} (h : Qw w lo hi v l) (k : MarkedB u m w w') (hu : m ≠ [] → ∀ g, u.ownBlock = some g → lo' ≤ g ∧ g < hi') (ha : hi ≤ lo' ∨ hi' ≤ lo) : Qw w' lo hi v l := by
  rcases k with ⟨_, k⟩ | ⟨e, k⟩
  · exact h.below k
  · refine ⟨?_, h.blk⟩
    rcases h.wbk with ⟨h1, h2⟩ | ⟨g, off, cap, e2, hB, hg, hc, hf⟩
    · exact .inl ⟨h1, h2⟩
    · have hne : 0 < l.length → l ≠ [] := fun h3 e3 => by rw [e3] at h3; simp at h3
      have hb : 0 < l.length → w'.heap[g]? = w.heap[g]? := fun h3 => k.block g hg fun e' => by
        have h4 := h.blk (hne h3) g (by rw [e2]; rfl)
        have := hu e g e'
        omega
      refine .inr ⟨g, off, cap, e2, hB, Nat.lt_of_lt_of_le hg k.size, fun j b hj => (hc j b hj).same (hb (by have := (List.getElem?_eq_some_iff.1 hj).1; omega)), fun j hj => ?_⟩
      rw [← hf j hj]
      exact World.frozen?_of_block (w := w) (hb (by omega))
theorem MarkedB.low {w W W' : World} {v : Value} {l : List Bk} {B lo hi : Nat} (h : Below B w W) (k : MarkedB v l W W') (hB : B ≤ W.heap.size) (hv : l ≠ [] → ∀ g, v.ownBlock = some g → lo ≤ g ∧ g < hi) (hl : B ≤ lo) : Below B w W' := by
  rcases k with ⟨_, k⟩ | ⟨e, k⟩
  · exact h.trans (k.mono hB)
  · exact h.trans (k.below hB fun g hg => Nat.le_trans hl (hv e g hg).1)
theorem keptMB {W W' : World} {b : Nat} {o : Obj} {v : Value} {l : List Bk} (h : W.heap[b]? = some o) (k : MarkedB v l W W') (hne : l ≠ [] → v.ownBlock ≠ some b) : W'.heap[b]? = some o := by
  rcases k with ⟨_, k⟩ | ⟨e, k⟩
  · exact (k.block b (Array.getElem?_eq_some_iff.1 h).1).trans h
  · exact (k.block b (Array.getElem?_eq_some_iff.1 h).1 (hne e)).trans h

theorem alloc2 (w : World) (a b : Obj) : ((w.alloc a).alloc b).heap[w.heap.size]? = some a ∧ ((w.alloc a).alloc b).heap[w.heap.size + 1]? = some b := by
  refine ⟨(Below.heap_alloc _ _ _ (by simp)).trans (heap_alloc_new w a), ?_⟩
  have := heap_alloc_new (w.alloc a) b
  rw [World.size_alloc] at this
  exact this

theorem alloc3 (w : World) (a b c : Obj) : (((w.alloc a).alloc b).alloc c).heap[w.heap.size]? = some a ∧ (((w.alloc a).alloc b).alloc c).heap[w.heap.size + 1]? = some b ∧ (((w.alloc a).alloc b).alloc c).heap[w.heap.size + 1 + 1]? = some c := by
  have h := alloc2 w a b
  refine ⟨(Below.heap_alloc _ _ _ (by simp; omega)).trans h.1, (Below.heap_alloc _ _ _ (by simp)).trans h.2, ?_⟩
  have := heap_alloc_new ((w.alloc a).alloc b) c
  rw [World.size_alloc, World.size_alloc] at this
  exact this

set_option maxHeartbeats 1000000 in
set_option maxRecDepth 100000 in
theorem toLimit_fit (rate burst : Int) (v : Value) (l : List Bk) (w : World) (h : Rbk w v l) (hl : l.length ≤ 2000000) :
    Calls Try.prog 16 #[.agg (lmA rate burst v)] w fun e w' => ∃ g u, u = .slice (some ⟨g, 0, none⟩) l.length l.length ∧ g < w'.heap.size ∧ e = .returned (.agg (lmA rate burst u)) ∧ Below w.heap.size w w' ∧ Wbk w' w.heap.size u l := by
  obtain ⟨ad, cap, rfl⟩ := h.form
  have ts := fun w' hb => toBucketS_fit ad l.length cap l w' rfl (h.below hb) hl
  have TS := Lib.hid ts
  clear h ts hl
  obtain ⟨n, hn⟩ : ∃ n, n = l.length := ⟨_, rfl⟩
  unfold lmA
  rw [← hn] at TS ⊢
  have HN := Lib.hid hn
  clear hn
  go_enter Try.func16, Try.ntmps16
  go_wp2_with fail
  refine (TS.out _ (((new1 _ _).alloc (by simp) _).alloc (by simp; omega) _)).mono ?_
  rintro e w1 ⟨gu, u, hu, hgu, rfl, hb, hw⟩
  subst hu
  have X := alloc3 w (.cells #[.int .i64 rate, .int .i64 burst, .slice ad n cap] 31) (.cells #[.int .i64 0, .int .i64 0, .slice none 0 0] 36) (.cells #[.int .i64 rate, .int .i64 burst, .slice none 0 0] 36)
  have X1 := (hb.block (w.heap.size + 1) (by simp)).trans X.2.1
  have X2 := (hb.block (w.heap.size + 1 + 1) (by simp)).trans X.2.2
  obtain ⟨q0, q1, q2, qz⟩ := three X1
  obtain ⟨r0, r1, r2, rz⟩ := three X2
  have qf : ∀ o, w1.frozen? ⟨w.heap.size + 1, o, none⟩ = false := fun o => by simp [World.frozen?, X1]
  have rf : ∀ o, w1.frozen? ⟨w.heap.size + 1 + 1, o, none⟩ = false := fun o => by simp [World.frozen?, X2]
  have HB := Lib.hid ((new3 w (.cells #[.int .i64 rate, .int .i64 burst, .slice ad n cap] 31) (.cells #[.int .i64 0, .int .i64 0, .slice none 0 0] 36) (.cells #[.int .i64 rate, .int .i64 burst, .slice none 0 0] 36)).trans (hb.mono (by simp; omega)))
  have HW := Lib.hid hw
  clear hb hw X1 X2 X
  go_wp2_with fail
  refine bodyPost_ret (v := .agg #[.int .i64 rate, .int .i64 burst, .slice (some ⟨gu, 0, none⟩) n n]) (by simp [results, Try.results16, go_sem, q0, q1, q2]) rfl ⟨gu, _, rfl, by simpa using hgu, rfl, ?_, ?_⟩
  · exact (((HB.out.setCell (by simp; omega) _).setCell (by simp) _).setCell (by simp) _).setCell (by simp) _
  · refine Wbk.base ?_ (B := w.heap.size + 1 + 1 + 1) (by omega)
    have h := HW.out
    simp only [World.size_alloc] at h
    exact Wbk.set (Wbk.set (Wbk.set (Wbk.set h (by simp) _) (by simp) _) (by simp) _) (by simp) _

theorem toLimit_calls (rate burst : Int) (v : Value) (l : List Bk) (w : World) (h : Rbk w v l) (hl : l.length ≤ 2000000) :
    Calls Try.prog 16 #[.agg (lmA rate burst v)] w fun e w' => ∃ u, e = .returned (.agg (lmA rate burst u)) ∧ Below w.heap.size w w' ∧ Wbk w' w.heap.size u l :=
  (toLimit_fit rate burst v l w h hl).mono fun e w' ⟨_, u, _, _, h1, h2⟩ => ⟨u, h1, h2⟩

set_option maxHeartbeats 1000000 in
set_option maxRecDepth 100000 in
theorem eqBucket_calls (b : Bk) (w : World) : Calls Try.prog 70 #[.agg (bkA b), .agg (bkA b)] w fun e w' => e = .returned (.bool true) ∧ Below w.heap.size w w' := by
  obtain ⟨s, x, y⟩ := b
  unfold bkA
  have e1 : (s != s) = false := by simp
  go_enter Try.func70, Try.ntmps70
  go_wp2_with fail
  go_ret
  exact ⟨rfl, (new1 _ _).alloc (by simp) _⟩

set_option maxHeartbeats 1000000 in
set_option maxRecDepth 100000 in
theorem eqBucketS_calls (va vb : Value) (l : List Bk) (w : World) (ha : Rbk w va l) (hb : Rbk w vb l) (hl : l.length ≤ 100000000) :
    Calls Try.prog 44 #[va, vb] w fun e w' => e = .returned (.bool true) ∧ Below w.heap.size w w' := by
  by_cases h0 : l = []
  · subst h0
    obtain ⟨aa, ca, rfl⟩ := ha.form
    obtain ⟨ab, cb, rfl⟩ := hb.form
    clear ha hb
    simp only [List.length_nil]
    go_enter Try.func44, Try.ntmps44
    go_wp2_with fail
    refine wp_loop_rounds 1 ?_
    rw [rounds_succ]
    go_wp2_with fail
    go_ret
    exact ⟨rfl, Below.refl _ _⟩
  · rcases ha with ⟨h, _⟩ | ⟨ga, oa, ca, rfl, hga, hca⟩
    · exact absurd h h0
    rcases hb with ⟨h, _⟩ | ⟨gb, ob, cb, rfl, hgb, hcb⟩
    · exact absurd h h0
    obtain ⟨n, hn⟩ : ∃ n, n = l.length := ⟨_, rfl⟩
    rw [← hn] at hl ⊢
    have HA := Lib.hid hca
    have HB := Lib.hid hcb
    have HN := Lib.hid hn
    clear hca hcb hn h0
    go_enter Try.func44, Try.ntmps44
    go_wp2_with fail
    go_loopw [5, 11, 12, 13, 14, 15, 16, 17, 18, 19, 20, 21, 22, 23, 24, 25, 26] (fun vk _ _ _ _ _ _ _ _ _ _ _ _ _ _ _ _ wr => ∃ k : Nat, k ≤ n ∧ vk = .int .i64 k ∧ Below w.heap.size w wr) (fun vk _ _ _ _ _ _ _ _ _ _ _ _ _ _ _ _ _ => n - (intOf vk).toNat)
    case atStart => exact ⟨0, Nat.zero_le _, rfl, Below.refl _ _⟩
    case round =>
      obtain ⟨k, hk, rfl, hst⟩ := hrel
      have HS := Lib.hid hst
      by_cases hlt : k < n
      · have hk' : k < l.length := by have := HN.out; omega
        obtain ⟨x, hx⟩ : ∃ x, l[k]? = some x := ⟨_, List.getElem?_eq_getElem hk'⟩
        obtain ⟨c1, c2, c3⟩ := (HA.out k x hx).same (hst.block ga hga)
        obtain ⟨c4, c5, c6⟩ := (HB.out k x hx).same (hst.block gb hgb)
        have EB := Lib.hid (fun w' => eqBucket_calls x w')
        unfold bkA at EB
        clear hst hx
        have q1 := fun (d : Nat) (os : Array Obj) => cell_regrown (d := d) (os := os) c1
        have q2 := fun (d : Nat) (os : Array Obj) => cell_regrown (d := d) (os := os) c2
        have q3 := fun (d : Nat) (os : Array Obj) => cell_regrown (d := d) (os := os) c3
        have q4 := fun (d : Nat) (os : Array Obj) => cell_regrown (d := d) (os := os) c4
        have q5 := fun (d : Nat) (os : Array Obj) => cell_regrown (d := d) (os := os) c5
        have q6 := fun (d : Nat) (os : Array Obj) => cell_regrown (d := d) (os := os) c6
        go_wp2_with fail
        refine wp_region_quiet_below (by kernel_rfl) (by kernel_rfl) ?_
        repeat (quiet_step (exact Calls.regrown_of (EB.out _)))
        refine wpQuiet_nil ?_
        rintro w2 ⟨⟨dq, osq⟩, hw2⟩
        have hb2 : Below wr.heap.size wr w2 := by rw [hw2]; exact below_regrown _ _ _
        have HB2 := Lib.hid (HS.out.trans (hb2.mono HS.out.size))
        clear hw2 hb2
        go_wp2_with fail
        go_roundw
        case rel => exact ⟨k + 1, by omega, by go_num, HB2.out⟩
        case measure => simp [intOf]; omega
      · clear hst
        go_wp2_with fail
        go_ret
        exact ⟨rfl, HS.out⟩

set_option maxHeartbeats 1000000 in
set_option maxRecDepth 100000 in
theorem eqLimit_calls (rate burst : Int) (va vb : Value) (l : List Bk) (w : World) (ha : Rbk w va l) (hb : Rbk w vb l) (hl : l.length ≤ 100000000) :
    Calls Try.prog 18 #[.agg (lmA rate burst va), .agg (lmA rate burst vb)] w fun e w' => e = .returned (.bool true) ∧ Below w.heap.size w w' := by
  obtain ⟨aa, ca, rfl⟩ := ha.form
  obtain ⟨ab, cb, rfl⟩ := hb.form
  have es := fun w' k => eqBucketS_calls (.slice aa l.length ca) (.slice ab l.length cb) l w' (ha.below k) (hb.below k) hl
  have ES := Lib.hid es
  clear ha hb es hl
  unfold lmA
  obtain ⟨n, hn⟩ : ∃ n, n = l.length := ⟨_, rfl⟩
  rw [← hn] at ES ⊢
  clear hn
  go_enter Try.func18, Try.ntmps18
  go_wp2_with fail
  refine (ES.out _ ((new1 _ _).alloc (by simp) _)).mono ?_
  rintro e w1 ⟨rfl, hs⟩
  have HB := Lib.hid (((new1 w (.cells #[.int .i64 rate, .int .i64 burst, .slice aa n ca] 36)).alloc (by simp) (.cells #[.int .i64 rate, .int .i64 burst, .slice ab n cb] 36)).trans (hs.mono (by simp; omega)))
  clear hs
  go_wp2_with fail
  go_ret
  exact ⟨rfl, HB.out⟩

/-- A limit that is handed back. -/
def loA (rate burst : Int) (v : Value) (y : Bool) (c : Int) : Array Value := #[.int .i64 rate, .int .i64 burst, v, .bool y, .int .i64 c]
theorem five {w : World} {b : Nat} {v0 v1 v2 v3 v4 : Value} {t : TypeId} (h : w.heap[b]? = some (.cells #[v0, v1, v2, v3, v4] t (0, 0))) :
    w.cell? ⟨b, 0, none⟩ = some v0 ∧ w.cell? ⟨b, 1, none⟩ = some v1 ∧ w.cell? ⟨b, 2, none⟩ = some v2 ∧ w.cell? ⟨b, 3, none⟩ = some v3 ∧ w.cell? ⟨b, 4, none⟩ = some v4 ∧ b < w.heap.size ∧ ∀ o, w.frozen? ⟨b, o, none⟩ = false := by
  refine ⟨?_, ?_, ?_, ?_, ?_, (Array.getElem?_eq_some_iff.1 h).1, fun o => by simp [World.frozen?, h]⟩ <;> (rw [cell_of_row w b _ _ t (0, 0) h]; rfl)
set_option maxHeartbeats 1000000 in
set_option maxRecDepth 100000 in
theorem eqLo_calls (rate burst : Int) (y : Bool) (c0 : Int) (va vb : Value) (l : List Bk) (w : World) (ha : Rbk w va l) (hb : Rbk w vb l) (hl : l.length ≤ 100000000) :
    Calls Try.prog 21 #[.agg (loA rate burst va y c0), .agg (loA rate burst vb y c0)] w fun e w' => e = .returned (.bool true) ∧ Below w.heap.size w w' := by
  have es := fun w' k => eqLimit_calls rate burst va vb l w' (ha.below k) (hb.below k) hl
  obtain ⟨aa, ca, rfl⟩ := ha.form
  obtain ⟨ab, cb, rfl⟩ := hb.form
  have ES := Lib.hid es
  clear ha hb es hl
  unfold loA
  unfold lmA at ES
  obtain ⟨n, hn⟩ : ∃ n, n = l.length := ⟨_, rfl⟩
  rw [← hn] at ES ⊢
  clear hn
  have ey : (y != y) = false := by simp
  go_enter Try.func21, Try.ntmps21
  go_wp2_with fail
  refine (ES.out _ ((new1 _ _).alloc (by simp) _)).mono ?_
  rintro e w1 ⟨rfl, hs⟩
  have X := alloc2 w (.cells #[.int .i64 rate, .int .i64 burst, .slice aa n ca, .bool y, .int .i64 c0] 41) (.cells #[.int .i64 rate, .int .i64 burst, .slice ab n cb, .bool y, .int .i64 c0] 41)
  have HB := Lib.hid (((new1 w (.cells #[.int .i64 rate, .int .i64 burst, .slice aa n ca, .bool y, .int .i64 c0] 41)).alloc (by simp) (.cells #[.int .i64 rate, .int .i64 burst, .slice ab n cb, .bool y, .int .i64 c0] 41)).trans (hs.mono (by simp; omega)))
  have X1 := (hs.block w.heap.size (by simp; omega)).trans X.1
  have X2 := (hs.block (w.heap.size + 1) (by simp)).trans X.2
  obtain ⟨p0, p1, p2, p3, p4, pz, pf⟩ := five X1
  obtain ⟨q0, q1, q2, q3, q4, qz, qf⟩ := five X2
  clear hs X X1 X2
  go_wp2_with fail
  go_ret
  exact ⟨rfl, HB.out⟩
/-! ### marks -/
def mkB (k0 j : Nat) : Bk := ⟨mkT (k0 + j * 3), ((k0 + j * 3 + 1 : Nat) : Int), ((k0 + j * 3 + 2 : Nat) : Int)⟩
def marksB (k0 n : Nat) : List Bk := (List.range n).map (mkB k0)
theorem marksB_len (k n : Nat) : (marksB k n).length = n := by simp [marksB]
theorem marksB_at (k n j : Nat) (h : j < n) : (marksB k n)[j]? = some (mkB k j) := by simp [marksB, h]

structure Mb (g off n k0 k : Nat) (w wr : World) : Prop where
  only : Only g w wr
  lt : g < wr.heap.size
  cell : ∀ j, j < n → ∃ b, LiesB wr g (off + j * 3) b ∧ (j < k → b = mkB k0 j)
  free : ∀ j, j < n * 3 → wr.frozen? ⟨g, off + j, none⟩ = false

theorem Mb.below {g off n k0 k : Nat} {w wr w1 : World} (h : Mb g off n k0 k w wr) (hb : Below wr.heap.size wr w1) : Mb g off n k0 k w w1 := by
  refine ⟨h.only.trans (Only.of_below hb), Nat.lt_of_lt_of_le h.lt hb.size, fun j hj => ?_, fun j hj => ?_⟩
  · obtain ⟨b, h1, h2⟩ := h.cell j hj
    exact ⟨b, h1.same (hb.block g h.lt), h2⟩
  · rw [hb.frozen (p := ⟨g, off + j, none⟩) h.lt]; exact h.free j hj

theorem lies_set {wr : World} {g o : Nat} {b x : Bk} (h : LiesB wr g o b) :
    LiesB (((wr.setCell ⟨g, o, none⟩ (str x.st)).setCell ⟨g, o + 1, none⟩ (.int .i64 x.left)).setCell ⟨g, o + 2, none⟩ (.int .i64 x.at_)) g o x := by
  obtain ⟨q0, q1, q2⟩ := h
  refine ⟨?_, ?_, ?_⟩
  · rw [cell_set (cell_set (cell_set q0)), if_neg (by omega), if_neg (by omega), if_pos rfl]
  · rw [cell_set (cell_set (cell_set q1)), if_neg (by omega), if_pos rfl]
  · rw [cell_set (cell_set (cell_set q2)), if_pos rfl]
theorem lies_other {wr : World} {g o o' : Nat} {y x : Bk} (h : LiesB wr g o' y) (hne : o' + 2 < o ∨ o + 2 < o') :
    LiesB (((wr.setCell ⟨g, o, none⟩ (str x.st)).setCell ⟨g, o + 1, none⟩ (.int .i64 x.left)).setCell ⟨g, o + 2, none⟩ (.int .i64 x.at_)) g o' y := by
  obtain ⟨q0, q1, q2⟩ := h
  refine ⟨?_, ?_, ?_⟩
  · rw [cell_set (cell_set (cell_set q0)), if_neg (by omega), if_neg (by omega), if_neg (by omega)]
  · rw [cell_set (cell_set (cell_set q1)), if_neg (by omega), if_neg (by omega), if_neg (by omega)]
  · rw [cell_set (cell_set (cell_set q2)), if_neg (by omega), if_neg (by omega), if_neg (by omega)]

theorem Mb.put {g off n k0 k : Nat} {w wr : World} (h : Mb g off n k0 k w wr) (hk : k < n) (x : Bk) (hx : x = mkB k0 k) :
    Mb g off n k0 (k + 1) w (((wr.setCell ⟨g, off + k * 3, none⟩ (str x.st)).setCell ⟨g, off + k * 3 + 1, none⟩ (.int .i64 x.left)).setCell ⟨g, off + k * 3 + 2, none⟩ (.int .i64 x.at_)) := by
  obtain ⟨bk, hb, _⟩ := h.cell k hk
  refine ⟨((h.only.trans (Only.setCell _ _)).trans (Only.setCell _ _)).trans (Only.setCell _ _), by simpa [World.setCell] using h.lt, fun j hj => ?_, fun j hj => ?_⟩
  · by_cases e : j = k
    · subst e
      exact ⟨x, lies_set hb, fun _ => hx⟩
    · obtain ⟨b, h1, h3⟩ := h.cell j hj
      exact ⟨b, lies_other h1 (by omega), fun hlt => h3 (by omega)⟩
  · rw [World.frozen?_setCell, World.frozen?_setCell, World.frozen?_setCell]
    exact h.free j hj

set_option maxHeartbeats 2000000 in
set_option maxRecDepth 100000 in
theorem markBucketS_calls (v : Value) (l : List Bk) (B : Nat) (w : World) (h : Wbk w B v l) (hl : l.length ≤ 10000000) :
    Calls Try.prog 53 #[v, .int .i64 1] w fun e w' => e = .returned (.int .i64 (1 + l.length * 3 : Nat)) ∧ MarkedB v l w w' ∧ Rbk w' v (marksB 1 l.length) := by
  by_cases h0 : l = []
  · subst h0
    obtain ⟨ad, cap, rfl⟩ := h.rbk.form
    clear h
    simp only [List.length_nil]
    go_enter Try.func53, Try.ntmps53
    go_wp2_with fail
    refine wp_loop_rounds 1 ?_
    rw [rounds_succ]
    go_wp2_with fail
    go_ret
    exact ⟨rfl, .inl ⟨rfl, Below.refl _ _⟩, .inl ⟨rfl, _, _, rfl⟩⟩
  · rcases h with ⟨h, _⟩ | ⟨g, off, cap, rfl, hBg, hg, hc, hf⟩
    · exact absurd h h0
    have H0 := Lib.hid h0
    clear h0
    obtain ⟨n, hn⟩ : ∃ n, n = l.length := ⟨_, rfl⟩
    have hM : Mb g off n 1 0 w w := ⟨Only.refl _ _, hg, fun j hj => ⟨_, hc j _ (List.getElem?_eq_getElem (by omega)), fun h => by omega⟩, fun j hj => hf j (by omega)⟩
    rw [← hn] at hl ⊢
    have HM := Lib.hid hM
    clear hc hf hn hM
    go_enter Try.func53, Try.ntmps53
    go_wp2_with fail
    go_loopw [1, 5, 6, 7, 8, 9, 10, 11, 12, 13, 14, 15, 16, 17, 18, 19, 20, 21, 22, 23, 24, 25, 26, 27, 28, 29, 30, 31, 32, 33] (fun vk vi _ _ _ _ _ _ _ _ _ _ _ _ _ _ _ _ _ _ _ _ _ _ _ _ _ _ _ _ wr => ∃ k : Nat, k ≤ n ∧ vi = .int .i64 k ∧ vk = .int .i64 (1 + k * 3 : Nat) ∧ Mb g off n 1 k w wr) (fun _ vi _ _ _ _ _ _ _ _ _ _ _ _ _ _ _ _ _ _ _ _ _ _ _ _ _ _ _ _ _ => n - (intOf vi).toNat)
    case atStart => exact ⟨0, Nat.zero_le _, rfl, rfl, HM.out⟩
    case round =>
      obtain ⟨k, hk, rfl, rfl, hm⟩ := hrel
      have HR := Lib.hid hm
      clear hm
      by_cases hlt : k < n
      · have a1 := markText_calls (1 + k * 3) (by omega) (by omega)
        obtain ⟨T, hT⟩ : ∃ T, T = mkT (1 + k * 3) := ⟨_, rfl⟩
        rw [← hT] at a1
        have HT := Lib.hid hT
        clear hT
        go_wp2_with fail
        refine (a1 _).mono ?_
        rintro e w1 ⟨rfl, hb⟩
        have HR1 := Lib.hid (HR.out.below hb)
        obtain ⟨b, ⟨c0, c1, c2⟩, _⟩ := HR1.out.cell k hlt
        have f0 := HR1.out.free (k * 3) (by omega)
        have f1 : w1.frozen? ⟨g, off + k * 3 + 1, none⟩ = false := by rw [Nat.add_assoc]; exact HR1.out.free (k * 3 + 1) (by omega)
        have f2 : w1.frozen? ⟨g, off + k * 3 + 2, none⟩ = false := by rw [Nat.add_assoc]; exact HR1.out.free (k * 3 + 2) (by omega)
        clear hb
        go_wp2_with fail
        go_roundw
        case rel =>
          refine ⟨k + 1, by omega, by go_num, ?_, ?_⟩
          · congr 1; omega
          · exact HR1.out.put hlt ⟨T, ((1 + k * 3 + 1 : Nat) : Int), ((1 + k * 3 + 2 : Nat) : Int)⟩ (by rw [HT.out]; rfl)
        case measure => simp [intOf]; omega
      · obtain rfl : k = n := by omega
        go_wp2_with fail
        go_ret
        refine ⟨rfl, .inr ⟨H0.out, Aside.of_only HR.out.only rfl⟩, .inr ⟨g, off, cap, by rw [marksB_len], HR.out.lt, fun j b hj => ?_⟩⟩
        have hj' : j < k := by
          rcases Nat.lt_or_ge j k with h | h
          · exact h
          · rw [List.getElem?_eq_none (by rw [marksB_len]; exact h)] at hj; cases hj
        rw [marksB_at _ _ _ hj'] at hj
        cases hj
        obtain ⟨b, h1, h2⟩ := HR.out.cell j hj'
        rw [h2 hj'] at h1
        exact h1

theorem wbk_alloc {w : World} {B : Nat} {v : Value} {l : List Bk} (h : Wbk w B v l) (o : Obj) : Wbk (w.alloc o) B v l := Wbk.below h (new1 w o)

set_option maxHeartbeats 1000000 in
set_option maxRecDepth 100000 in
theorem markLimit_calls (rate burst : Int) (v : Value) (l : List Bk) (B : Nat) (w : World) (h : Wbk w B v l) (hl : l.length ≤ 10000000) :
    Calls Try.prog 22 #[.agg (lmA rate burst v), .int .i64 1] w fun e w' => e = .returned (.int .i64 (1 + l.length * 3 : Nat)) ∧ MarkedB v l w w' ∧ Rbk w' v (marksB 1 l.length) := by
  have hc := fun w (h : Wbk w B v l) => markBucketS_calls v l B w h hl
  obtain ⟨ad, cap, rfl⟩ := h.rbk.form
  have H := Lib.hid h
  have HC := Lib.hid hc
  clear h hc hl
  unfold lmA
  obtain ⟨n, hn⟩ : ∃ n, n = l.length := ⟨_, rfl⟩
  rw [← hn] at H HC ⊢
  clear hn
  go_enter Try.func22, Try.ntmps22
  go_wp2_with fail
  refine (HC.out _ (wbk_alloc H.out _)).mono ?_
  rintro e w1 ⟨rfl, hb, hr⟩
  have HB := Lib.hid (MarkedB.after (new1 w (.cells #[.int .i64 rate, .int .i64 burst, .slice ad n cap] 36)) hb)
  have HR := Lib.hid hr
  clear hb hr
  go_wp2_with fail
  go_ret
  exact ⟨rfl, HB.out, HR.out⟩

set_option maxHeartbeats 1000000 in
set_option maxRecDepth 100000 in
theorem markLo_calls (rate burst : Int) (v : Value) (y : Bool) (c0 : Int) (l : List Bk) (B : Nat) (w : World) (h : Wbk w B v l) (hl : l.length ≤ 10000000) :
    Calls Try.prog 23 #[.agg (loA rate burst v y c0), .int .i64 1] w fun e w' => e = .returned (.int .i64 (1 + l.length * 3 : Nat)) ∧ MarkedB v l w w' ∧ Rbk w' v (marksB 1 l.length) := by
  have hc := fun w (h : Wbk w B v l) => markLimit_calls rate burst v l B w h hl
  obtain ⟨ad, cap, rfl⟩ := h.rbk.form
  have H := Lib.hid h
  have HC := Lib.hid hc
  clear h hc hl
  unfold loA
  unfold lmA at HC
  obtain ⟨n, hn⟩ : ∃ n, n = l.length := ⟨_, rfl⟩
  rw [← hn] at H HC ⊢
  clear hn
  go_enter Try.func23, Try.ntmps23
  go_wp2_with fail
  refine (HC.out _ (wbk_alloc H.out _)).mono ?_
  rintro e w1 ⟨rfl, hb, hr⟩
  have HB := Lib.hid (MarkedB.after (new1 w (.cells #[.int .i64 rate, .int .i64 burst, .slice ad n cap, .bool y, .int .i64 c0] 41)) hb)
  have HR := Lib.hid hr
  clear hb hr
  go_wp2_with fail
  go_ret
  exact ⟨rfl, HB.out, HR.out⟩

set_option maxHeartbeats 4000000 in
set_option maxRecDepth 100000 in
theorem heldBucketS_calls (v : Value) (n : Nat) (w : World) (h : Rbk w v (marksB 1 n)) (hl : n ≤ 10000000) :
    Calls Try.prog 77 #[v, .int .i64 1] w fun e w' => e = .returned (.int .i64 (1 + n * 3 : Nat)) ∧ Below w.heap.size w w' := by
  by_cases h0 : n = 0
  · subst h0
    obtain ⟨ad, cap, rfl⟩ := h.form
    rw [marksB_len]
    clear h
    go_enter Try.func77, Try.ntmps77
    go_wp2_with fail
    refine wp_loop_rounds 1 ?_
    rw [rounds_succ]
    go_wp2_with fail
    go_ret
    exact ⟨rfl, Below.refl _ _⟩
  · rcases h with ⟨h, _⟩ | ⟨g, off, cap, rfl, hg, hc⟩
    · have := congrArg List.length h; rw [marksB_len] at this; simp at this; exact absurd this h0
    rw [marksB_len]
    have hcc : ∀ j, j < n → LiesB w g (off + j * 3) (mkB 1 j) := fun j hj => hc j _ (marksB_at 1 n j hj)
    have HC := Lib.hid hcc
    clear hc hcc h0
    go_enter Try.func77, Try.ntmps77
    go_wp2_with fail
    go_loopw [1, 5, 6, 7, 8, 9, 10, 11, 12, 13, 14, 15, 16, 17, 18, 19, 20, 21, 22, 23, 24, 25, 26, 27, 28, 29, 30, 31, 32, 33, 34, 35, 36, 37, 38, 39] (fun vk vi _ _ _ _ _ _ _ _ _ _ _ _ _ _ _ _ _ _ _ _ _ _ _ _ _ _ _ _ _ _ _ _ _ _ wr => ∃ k : Nat, k ≤ n ∧ vi = .int .i64 k ∧ vk = .int .i64 (1 + k * 3 : Nat) ∧ Below w.heap.size w wr) (fun _ vi _ _ _ _ _ _ _ _ _ _ _ _ _ _ _ _ _ _ _ _ _ _ _ _ _ _ _ _ _ _ _ _ _ _ _ => n - (intOf vi).toNat)
    case atStart => exact ⟨0, Nat.zero_le _, rfl, rfl, Below.refl _ _⟩
    case round =>
      obtain ⟨k, hk, rfl, rfl, hm⟩ := hrel
      have HR := Lib.hid hm
      by_cases hlt : k < n
      · have a1 := markText_calls (1 + k * 3) (by omega) (by omega)
        obtain ⟨c0, c1, c2⟩ := (HC.out k hlt).same (hm.block g hg)
        unfold mkB at c0 c1 c2
        simp only at c0 c1 c2
        obtain ⟨T, hT⟩ : ∃ T, T = mkT (1 + k * 3) := ⟨_, rfl⟩
        rw [← hT] at a1 c0
        have hc0 := fun (d : Nat) (os : Array Obj) => cell_regrown (d := d) (os := os) c0
        clear hT
        have hgr : g < wr.heap.size := Nat.lt_of_lt_of_le hg hm.size
        clear hm
        go_wp2_with fail
        refine wp_region_quiet_below (by kernel_rfl) (by kernel_rfl) ?_
        repeat (quiet_step (exact Calls.regrown_of (a1 _)))
        refine wpQuiet_nil ?_
        rintro w2 ⟨⟨dq, osq⟩, hw2⟩
        have hb2 : Below wr.heap.size wr w2 := by rw [hw2]; exact below_regrown _ _ _
        have d1 : w2.cell? ⟨g, off + k * 3 + 1, none⟩ = some (.int .i64 ((1 + k * 3 + 1 : Nat) : Int)) := by rw [hb2.cell (p := ⟨g, off + k * 3 + 1, none⟩) hgr]; exact c1
        have d2 : w2.cell? ⟨g, off + k * 3 + 2, none⟩ = some (.int .i64 ((1 + k * 3 + 2 : Nat) : Int)) := by rw [hb2.cell (p := ⟨g, off + k * 3 + 2, none⟩) hgr]; exact c2
        have HB2 := Lib.hid (HR.out.trans (hb2.mono HR.out.size))
        clear hw2 hb2 c0 c1 c2 hc0
        go_wp2_with fail
        go_roundw
        case rel => exact ⟨k + 1, by omega, by go_num, by congr 1; omega, HB2.out⟩
        case measure => simp [intOf]; omega
      · obtain rfl : k = n := by omega
        clear hm
        go_wp2_with fail
        go_ret
        exact ⟨rfl, HR.out⟩

set_option maxHeartbeats 1000000 in
set_option maxRecDepth 100000 in
theorem heldLimit_calls (rate burst : Int) (v : Value) (n : Nat) (w : World) (h : Rbk w v (marksB 1 n)) (hl : n ≤ 10000000) :
    Calls Try.prog 54 #[.agg (lmA rate burst v), .int .i64 1] w fun e w' => e = .returned (.int .i64 (1 + n * 3 : Nat)) ∧ Below w.heap.size w w' := by
  have hc := fun w' (k : Below w.heap.size w w') => heldBucketS_calls v n w' (h.below k) hl
  obtain ⟨ad, cap, hv⟩ := h.form
  have HC := Lib.hid hc
  clear h hc hl
  obtain ⟨M, hM⟩ : ∃ M, M = 1 + n * 3 := ⟨_, rfl⟩
  rw [← hM] at HC ⊢
  subst hv
  unfold lmA
  obtain ⟨N, hN⟩ : ∃ N, N = (marksB 1 n).length := ⟨_, rfl⟩
  rw [← hN] at HC ⊢
  have d0 : decide ((M : Int) < 0) = false := by simp
  clear hM hN
  go_enter Try.func54, Try.ntmps54
  go_wp2_with fail
  refine (HC.out _ (new1 _ _)).mono ?_
  rintro e w1 ⟨rfl, hb⟩
  have HB := Lib.hid ((new1 w (.cells #[.int .i64 rate, .int .i64 burst, .slice ad N cap] 36)).trans (hb.mono (by simp)))
  clear hb
  go_wp2_with fail
  go_ret
  exact ⟨rfl, HB.out⟩

set_option maxHeartbeats 1000000 in
set_option maxRecDepth 100000 in
theorem heldLo_calls (rate burst : Int) (v : Value) (y : Bool) (c0 : Int) (n : Nat) (w : World) (h : Rbk w v (marksB 1 n)) (hl : n ≤ 10000000) :
    Calls Try.prog 24 #[.agg (loA rate burst v y c0), .int .i64 1] w fun e w' => e = .returned (.int .i64 (1 + n * 3 : Nat)) ∧ Below w.heap.size w w' := by
  have hc := fun w' (k : Below w.heap.size w w') => heldLimit_calls rate burst v n w' (h.below k) hl
  obtain ⟨ad, cap, hv⟩ := h.form
  have HC := Lib.hid hc
  clear h hc hl
  obtain ⟨M, hM⟩ : ∃ M, M = 1 + n * 3 := ⟨_, rfl⟩
  rw [← hM] at HC ⊢
  subst hv
  unfold lmA at HC
  unfold loA
  obtain ⟨N, hN⟩ : ∃ N, N = (marksB 1 n).length := ⟨_, rfl⟩
  rw [← hN] at HC ⊢
  have d0 : decide ((M : Int) < 0) = false := by simp
  clear hM hN
  go_enter Try.func24, Try.ntmps24
  go_wp2_with fail
  refine (HC.out _ (new1 _ _)).mono ?_
  rintro e w1 ⟨rfl, hb⟩
  have HB := Lib.hid ((new1 w (.cells #[.int .i64 rate, .int .i64 burst, .slice ad N cap, .bool y, .int .i64 c0] 41)).trans (hb.mono (by simp)))
  clear hb
  go_wp2_with fail
  go_ret
  exact ⟨rfl, HB.out⟩
end Go.Proofs.Ytdikjmhnjlalbaa.blo
