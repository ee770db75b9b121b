/- Fits of the program and of the model. Written by wip/gen_gft.py. -/
import Derived.Test.YtdikjmhnjlalbaaGreatQn
import Derived.Test.YtdikjmhnjlalbaaGreatQp
import Derived.Test.YtdikjmhnjlalbaaGreatFtm2q
import Derived.Test.YtdikjmhnjlalbaaGreatQl
import Derived.Test.YtdikjmhnjlalbaaGreatGjrq
import Derived.Test.YtdikjmhnjlalbaaGreatQe
import Derived.StillTailTactics
import Derived.Lib.QuietBelow
namespace Go.Proofs.YtdikjmhnjlalbaaGreat.gft
open Go.RowKit Go.Sort Go.Proofs.YtdikjmhnjlalbaaGreat.tm Go.Proofs.YtdikjmhnjlalbaaGreat.lib Go.Proofs.YtdikjmhnjlalbaaGreat.rdr Go.Proofs.YtdikjmhnjlalbaaGreat.bld Go.Proofs.YtdikjmhnjlalbaaGreat.app Go.Proofs.YtdikjmhnjlalbaaGreat.mrk Go.Proofs.YtdikjmhnjlalbaaGreat.ltq Go.Proofs.YtdikjmhnjlalbaaGreat.ltv Go.Proofs.YtdikjmhnjlalbaaGreat.ltp Go.Proofs.YtdikjmhnjlalbaaGreat.gdp Go.Proofs.YtdikjmhnjlalbaaGreat.rbk Go.Proofs.YtdikjmhnjlalbaaGreat.gri
set_option linter.unusedVariables false

def fitR (j : Jr) (m : Lt) (a : Ad) : Bool := jarR j && right m && adR a && (fits2 m (gck.cookieR j.now a) || fits2 m (gck.cookieR j.was a))

theorem jarR_now {j : Jr} (h : jarR j = true) : atomR j.now = true := by
  unfold jarR at h
  simp only [Bool.and_eq_true] at h
  exact h.1.1.1.1
theorem jarR_was {j : Jr} (h : jarR j = true) (hz : j.was ≠ []) : atomR j.was = true := by
  unfold jarR at h
  simp only [Bool.and_eq_true, Bool.or_eq_true, decide_eq_true_eq] at h
  rcases h.1.1.1.2 with e | e
  · exact absurd e hz
  · exact e
theorem alloc3 (w : World) (a b c : Obj) : (((w.alloc a).alloc b).alloc c).heap[w.heap.size]? = some a ∧ (((w.alloc a).alloc b).alloc c).heap[w.heap.size + 1]? = some b ∧ (((w.alloc a).alloc b).alloc c).heap[w.heap.size + 1 + 1]? = some c := by
  have h0 := heap_alloc_new w a
  have h1 := heap_alloc_new (w.alloc a) b
  have h2 := heap_alloc_new ((w.alloc a).alloc b) c
  rw [World.size_alloc] at h1
  rw [World.size_alloc, World.size_alloc] at h2
  exact ⟨(Below.heap_alloc _ _ _ (by simp; omega)).trans ((Below.heap_alloc _ _ _ (by simp)).trans h0), (Below.heap_alloc _ _ _ (by simp)).trans h1, h2⟩

set_option maxHeartbeats 4000000 in
set_option maxRecDepth 100000 in
theorem implFits_calls (j : Jr) (m : Lt) (v : Value) (a : Ad) (w : World) (h : Rds w v m.ps) (hl : m.ps.length ≤ 2000000) (hx : ∀ x ∈ m.ps, x.length ≤ 4000000) (ha : m.a.length ≤ 4000000) (hb : m.b.length ≤ 4000000) (h1 : j.now.length ≤ 4000000) (h2 : j.was.length ≤ 4000000) (h3 : a.st.length ≤ 4000000) (h4 : a.hs.length ≤ 4000000) :
    Calls Tryz.prog 11 #[.agg (jrA j), .agg (letA m v), .agg (adA a)] w fun e w' => e = .returned (.bool (fitR j m a)) ∧ Below w.heap.size w w' := by
  have hij := fun w' => gjr.implJar_calls j h1 h2 w'
  have him : ∀ w' (k : Below w.heap.size w w'), Calls Tryz.prog 21 #[.agg (letA m v)] w' _ := fun w' k => lri.implRight_calls m v w' (Rds.below h k) hl hx ha hb
  have hia := fun w' => implAddr_calls a h3 h4 w'
  have hcf := fun (c : Bs) (hc : c.length ≤ 4000000) w' (k : Below w.heap.size w w') => fts.implFits2_calls m v c w' (Rds.below h k) hl hx ha hb hc
  obtain ⟨ad, cap, rfl⟩ := lri.rds_form h
  obtain ⟨n, hn⟩ : ∃ n, n = m.ps.length := ⟨_, rfl⟩
  rw [← hn] at him hcf ⊢
  clear hn
  unfold fitR
  cases hbj : jarR j with
  | false =>
    simp only [Bool.false_and]
    simp only [hbj] at hij
    have IJ := Lib.hid hij
    clear hij him hia hcf hbj h hl hx ha hb h1 h2 h3 h4
    obtain ⟨s, t, x, y⟩ := j
    obtain ⟨k, f, tt, c, ps, b1, b2⟩ := m
    obtain ⟨p, q⟩ := a
    unfold jrA at IJ
    unfold jrA letA adA
    simp only at IJ ⊢
    have kW := glh.new3 w (.cells #[str s, str t, .int .i64 x, .int .i64 y] 33) (.cells #[.int .i64 k, .int .i64 f, .int .i64 tt, .int .i64 c, .slice ad n cap, str b1, str b2] 35) (.cells #[str p, str q] 37)
    obtain ⟨x0, x1, x2⟩ := alloc3 w (.cells #[str s, str t, .int .i64 x, .int .i64 y] 33) (.cells #[.int .i64 k, .int .i64 f, .int .i64 tt, .int .i64 c, .slice ad n cap, str b1, str b2] 35) (.cells #[str p, str q] 37)
    have Q := And.intro x0 (And.intro x1 (And.intro x2 kW))
    clear x0 x1 x2 kW
    go_enter Tryz.func11, Tryz.ntmps11
    go_wp2_with fail
    generalize hW : (((w.alloc (.cells #[str s, str t, .int .i64 x, .int .i64 y] 33)).alloc (.cells #[.int .i64 k, .int .i64 f, .int .i64 tt, .int .i64 c, .slice ad n cap, str b1, str b2] 35)).alloc (.cells #[str p, str q] 37)) = W at Q
    obtain ⟨x0, x1, x2, kW⟩ := Q
    clear hW
    refine (IJ.out _).mono ?_
    rintro e w1 ⟨rfl, hb⟩
    have HB := Lib.hid (kW.trans (hb.mono kW.size))
    clear hb
    go_wp2_with fail
    go_ret
    exact ⟨rfl, HB.out⟩
  | true =>
  simp only [hbj] at hij
  have IJ := Lib.hid hij
  cases hbm : right m with
  | false =>
    simp only [Bool.false_and, Bool.and_false]
    simp only [hbm] at him
    have IM := Lib.hid him
    clear hij him hia hcf hbj hbm h hl hx ha hb h1 h2 h3 h4
    obtain ⟨s, t, x, y⟩ := j
    obtain ⟨k, f, tt, c, ps, b1, b2⟩ := m
    obtain ⟨p, q⟩ := a
    unfold jrA at IJ
    unfold letA at IM
    unfold jrA letA adA
    simp only at IJ IM ⊢
    have kW := glh.new3 w (.cells #[str s, str t, .int .i64 x, .int .i64 y] 33) (.cells #[.int .i64 k, .int .i64 f, .int .i64 tt, .int .i64 c, .slice ad n cap, str b1, str b2] 35) (.cells #[str p, str q] 37)
    obtain ⟨x0, x1, x2⟩ := alloc3 w (.cells #[str s, str t, .int .i64 x, .int .i64 y] 33) (.cells #[.int .i64 k, .int .i64 f, .int .i64 tt, .int .i64 c, .slice ad n cap, str b1, str b2] 35) (.cells #[str p, str q] 37)
    have Q := And.intro x0 (And.intro x1 (And.intro x2 kW))
    clear x0 x1 x2 kW
    go_enter Tryz.func11, Tryz.ntmps11
    go_wp2_with fail
    generalize hW : (((w.alloc (.cells #[str s, str t, .int .i64 x, .int .i64 y] 33)).alloc (.cells #[.int .i64 k, .int .i64 f, .int .i64 tt, .int .i64 c, .slice ad n cap, str b1, str b2] 35)).alloc (.cells #[str p, str q] 37)) = W at Q
    obtain ⟨x0, x1, x2, kW⟩ := Q
    clear hW
    refine (IJ.out _).mono ?_
    rintro e w1 ⟨rfl, hb⟩
    have hk := kW.trans (hb.mono kW.size)
    have y0 := glh.keptB x0 hb
    have y1 := glh.keptB x1 hb
    have y2 := glh.keptB x2 hb
    clear hb x0 x1 x2 kW
    obtain ⟨m0, m1, m2, m3, m4, m5, m6, mz⟩ := lri.seven y1
    obtain ⟨a0, a1, az⟩ := glh.two y2
    go_wp2_with fail
    refine (IM.out _ hk).mono ?_
    rintro e w2 ⟨rfl, hb⟩
    have HB := Lib.hid (hk.trans (hb.mono hk.size))
    clear hb
    go_wp2_with fail
    go_ret
    exact ⟨rfl, HB.out⟩
  | true =>
  simp only [hbm] at him
  have IM := Lib.hid him
  cases hba : adR a with
  | false =>
    simp only [Bool.false_and, Bool.and_false]
    simp only [hba] at hia
    have IA := Lib.hid hia
    clear hij him hia hcf hbj hbm hba h hl hx ha hb h1 h2 h3 h4
    obtain ⟨s, t, x, y⟩ := j
    obtain ⟨k, f, tt, c, ps, b1, b2⟩ := m
    obtain ⟨p, q⟩ := a
    unfold jrA at IJ
    unfold letA at IM
    unfold adA at IA
    unfold jrA letA adA
    simp only at IJ IM IA ⊢
    have kW := glh.new3 w (.cells #[str s, str t, .int .i64 x, .int .i64 y] 33) (.cells #[.int .i64 k, .int .i64 f, .int .i64 tt, .int .i64 c, .slice ad n cap, str b1, str b2] 35) (.cells #[str p, str q] 37)
    obtain ⟨x0, x1, x2⟩ := alloc3 w (.cells #[str s, str t, .int .i64 x, .int .i64 y] 33) (.cells #[.int .i64 k, .int .i64 f, .int .i64 tt, .int .i64 c, .slice ad n cap, str b1, str b2] 35) (.cells #[str p, str q] 37)
    have Q := And.intro x0 (And.intro x1 (And.intro x2 kW))
    clear x0 x1 x2 kW
    go_enter Tryz.func11, Tryz.ntmps11
    go_wp2_with fail
    generalize hW : (((w.alloc (.cells #[str s, str t, .int .i64 x, .int .i64 y] 33)).alloc (.cells #[.int .i64 k, .int .i64 f, .int .i64 tt, .int .i64 c, .slice ad n cap, str b1, str b2] 35)).alloc (.cells #[str p, str q] 37)) = W at Q
    obtain ⟨x0, x1, x2, kW⟩ := Q
    clear hW
    refine (IJ.out _).mono ?_
    rintro e w1 ⟨rfl, hb⟩
    have hk := kW.trans (hb.mono kW.size)
    have y0 := glh.keptB x0 hb
    have y1 := glh.keptB x1 hb
    have y2 := glh.keptB x2 hb
    clear hb x0 x1 x2 kW
    obtain ⟨m0, m1, m2, m3, m4, m5, m6, mz⟩ := lri.seven y1
    obtain ⟨a0, a1, az⟩ := glh.two y2
    go_wp2_with fail
    refine (IM.out _ hk).mono ?_
    rintro e w2 ⟨rfl, hb⟩
    have hk2 := hk.trans (hb.mono hk.size)
    have z0 := glh.keptB y0 hb
    have z1 := glh.keptB y1 hb
    have z2 := glh.keptB y2 hb
    clear hb y0 y1 y2 hk m0 m1 m2 m3 m4 m5 m6 mz a0 a1 az
    obtain ⟨a0, a1, az⟩ := glh.two z2
    go_wp2_with fail
    refine (IA.out _).mono ?_
    rintro e w3 ⟨rfl, hb⟩
    have HB := Lib.hid (hk2.trans (hb.mono hk2.size))
    clear hb
    go_wp2_with fail
    go_ret
    exact ⟨rfl, HB.out⟩
  | true =>
  simp only [hba] at hia
  have IA := Lib.hid hia
  simp only [Bool.true_and]
  have hc1 := fun w' => gck.implCookie_calls j.now a h1 h3 h4 w'
  have hc2 := fun w' => gck.implCookie_calls j.was a h2 h3 h4 w'
  have hcf1 := hcf (gck.cookieR j.now a) (by have := gck.cookie_len j.now a; omega)
  have hcf2 := hcf (gck.cookieR j.was a) (by have := gck.cookie_len j.was a; omega)
  obtain ⟨C1, hC1⟩ : ∃ c, c = gck.cookieR j.now a := ⟨_, rfl⟩
  obtain ⟨C2, hC2⟩ : ∃ c, c = gck.cookieR j.was a := ⟨_, rfl⟩
  simp only [← hC1, ← hC2] at hc1 hc2 hcf1 hcf2 ⊢
  obtain ⟨F2, hF2⟩ : ∃ b, b = fits2 m C2 := ⟨_, rfl⟩
  simp only [← hF2] at hcf2 ⊢
  cases hF1 : fits2 m C1 with
  | true =>
    simp only [Bool.true_or, Bool.false_or]
    simp only [hF1] at hcf1
    have CF1 := Lib.hid hcf1
    have CF2 := Lib.hid hcf2
    have CC1 := Lib.hid hc1
    have CC2 := Lib.hid hc2
    clear hij him hia hcf hbj hbm hba hcf1 hcf2 hc1 hc2 hF1 hF2 hC1 hC2 h hl hx ha hb h1 h2 h3 h4
    obtain ⟨s, t, x, y⟩ := j
    obtain ⟨k, f, tt, c, ps, b1, b2⟩ := m
    obtain ⟨p, q⟩ := a
    unfold jrA at IJ
    unfold letA at IM CF1 CF2
    unfold adA at IA CC1 CC2
    unfold jrA letA adA
    simp only at IJ IM IA CF1 CF2 CC1 CC2 ⊢
    have kW := glh.new3 w (.cells #[str s, str t, .int .i64 x, .int .i64 y] 33) (.cells #[.int .i64 k, .int .i64 f, .int .i64 tt, .int .i64 c, .slice ad n cap, str b1, str b2] 35) (.cells #[str p, str q] 37)
    obtain ⟨x0, x1, x2⟩ := alloc3 w (.cells #[str s, str t, .int .i64 x, .int .i64 y] 33) (.cells #[.int .i64 k, .int .i64 f, .int .i64 tt, .int .i64 c, .slice ad n cap, str b1, str b2] 35) (.cells #[str p, str q] 37)
    have Q := And.intro x0 (And.intro x1 (And.intro x2 kW))
    clear x0 x1 x2 kW
    go_enter Tryz.func11, Tryz.ntmps11
    go_wp2_with fail
    generalize hW : (((w.alloc (.cells #[str s, str t, .int .i64 x, .int .i64 y] 33)).alloc (.cells #[.int .i64 k, .int .i64 f, .int .i64 tt, .int .i64 c, .slice ad n cap, str b1, str b2] 35)).alloc (.cells #[str p, str q] 37)) = W at Q
    obtain ⟨x0, x1, x2, kW⟩ := Q
    clear hW
    refine (IJ.out _).mono ?_
    rintro e w1 ⟨rfl, hb⟩
    have hk := kW.trans (hb.mono kW.size)
    have y0 := glh.keptB x0 hb
    have y1 := glh.keptB x1 hb
    have y2 := glh.keptB x2 hb
    clear hb x0 x1 x2 kW
    obtain ⟨m0, m1, m2, m3, m4, m5, m6, mz⟩ := lri.seven y1
    obtain ⟨a0, a1, az⟩ := glh.two y2
    go_wp2_with fail
    refine (IM.out _ hk).mono ?_
    rintro e w2 ⟨rfl, hb⟩
    have hk2 := hk.trans (hb.mono hk.size)
    have z0 := glh.keptB y0 hb
    have z1 := glh.keptB y1 hb
    have z2 := glh.keptB y2 hb
    clear hb y0 y1 y2 hk m0 m1 m2 m3 m4 m5 m6 mz a0 a1 az
    obtain ⟨a0, a1, az⟩ := glh.two z2
    go_wp2_with fail
    refine (IA.out _).mono ?_
    rintro e w3 ⟨rfl, hb⟩
    have B1 := Lib.hid (hk2.trans (hb.mono hk2.size))
    obtain ⟨j0, j1, j2, j3, jz⟩ := glh.four (glh.keptB z0 hb)
    obtain ⟨m0, m1, m2, m3, m4, m5, m6, mz⟩ := lri.seven (glh.keptB z1 hb)
    obtain ⟨n0, n1, nz⟩ := glh.two (glh.keptB z2 hb)
    clear hb z0 z1 z2 hk2 a0 a1 az
    go_upto_region 3 with fail
    have qj0 := fun (d : Nat) (os : Array Obj) => cell_regrown (d := d) (os := os) j0
    have qj1 := fun (d : Nat) (os : Array Obj) => cell_regrown (d := d) (os := os) j1
    have qj2 := fun (d : Nat) (os : Array Obj) => cell_regrown (d := d) (os := os) j2
    have qj3 := fun (d : Nat) (os : Array Obj) => cell_regrown (d := d) (os := os) j3
    have qm0 := fun (d : Nat) (os : Array Obj) => cell_regrown (d := d) (os := os) m0
    have qm1 := fun (d : Nat) (os : Array Obj) => cell_regrown (d := d) (os := os) m1
    have qm2 := fun (d : Nat) (os : Array Obj) => cell_regrown (d := d) (os := os) m2
    have qm3 := fun (d : Nat) (os : Array Obj) => cell_regrown (d := d) (os := os) m3
    have qm4 := fun (d : Nat) (os : Array Obj) => cell_regrown (d := d) (os := os) m4
    have qm5 := fun (d : Nat) (os : Array Obj) => cell_regrown (d := d) (os := os) m5
    have qm6 := fun (d : Nat) (os : Array Obj) => cell_regrown (d := d) (os := os) m6
    have qn0 := fun (d : Nat) (os : Array Obj) => cell_regrown (d := d) (os := os) n0
    have qn1 := fun (d : Nat) (os : Array Obj) => cell_regrown (d := d) (os := os) n1
    clear j0 j1 j2 j3 m0 m1 m2 m3 m4 m5 m6 n0 n1 jz mz nz
    refine wp_region_quiet_below (by kernel_rfl) (by kernel_rfl) ?_
    iterate 15 (with_reducible refine wpQuiet_step (fun K hK => ?_); go_simp; first | (apply Exists.intro; with_reducible refine ⟨fun _ => ?_, hK _ ?_⟩; (first | exact Calls.regrown_of (CF1.out _ (B1.out.trans ((below_regrown _ _ _).mono B1.out.size))) | exact Calls.regrown_of (CF2.out _ (B1.out.trans ((below_regrown _ _ _).mono B1.out.size))) | exact Calls.regrown_of (CC1.out _) | exact Calls.regrown_of (CC2.out _)); clear hK K) | (rw [if_neg (by decide)]; with_reducible refine hK _ ?_; clear hK K) | (with_reducible refine hK _ ?_; clear hK K))
    with_reducible refine wpQuiet_nil ?_
    rintro w4 ⟨⟨dq, osq⟩, hw4⟩
    have HB := Lib.hid (B1.out.trans ((show Below w3.heap.size w3 w4 by rw [hw4]; exact below_regrown _ _ _).mono B1.out.size))
    clear hw4 B1
    go_wp2_with fail
    go_ret
    exact ⟨rfl, HB.out⟩
  | false =>
    simp only [Bool.true_or, Bool.false_or]
    simp only [hF1] at hcf1
    have CF1 := Lib.hid hcf1
    have CF2 := Lib.hid hcf2
    have CC1 := Lib.hid hc1
    have CC2 := Lib.hid hc2
    clear hij him hia hcf hbj hbm hba hcf1 hcf2 hc1 hc2 hF1 hF2 hC1 hC2 h hl hx ha hb h1 h2 h3 h4
    obtain ⟨s, t, x, y⟩ := j
    obtain ⟨k, f, tt, c, ps, b1, b2⟩ := m
    obtain ⟨p, q⟩ := a
    unfold jrA at IJ
    unfold letA at IM CF1 CF2
    unfold adA at IA CC1 CC2
    unfold jrA letA adA
    simp only at IJ IM IA CF1 CF2 CC1 CC2 ⊢
    have kW := glh.new3 w (.cells #[str s, str t, .int .i64 x, .int .i64 y] 33) (.cells #[.int .i64 k, .int .i64 f, .int .i64 tt, .int .i64 c, .slice ad n cap, str b1, str b2] 35) (.cells #[str p, str q] 37)
    obtain ⟨x0, x1, x2⟩ := alloc3 w (.cells #[str s, str t, .int .i64 x, .int .i64 y] 33) (.cells #[.int .i64 k, .int .i64 f, .int .i64 tt, .int .i64 c, .slice ad n cap, str b1, str b2] 35) (.cells #[str p, str q] 37)
    have Q := And.intro x0 (And.intro x1 (And.intro x2 kW))
    clear x0 x1 x2 kW
    go_enter Tryz.func11, Tryz.ntmps11
    go_wp2_with fail
    generalize hW : (((w.alloc (.cells #[str s, str t, .int .i64 x, .int .i64 y] 33)).alloc (.cells #[.int .i64 k, .int .i64 f, .int .i64 tt, .int .i64 c, .slice ad n cap, str b1, str b2] 35)).alloc (.cells #[str p, str q] 37)) = W at Q
    obtain ⟨x0, x1, x2, kW⟩ := Q
    clear hW
    refine (IJ.out _).mono ?_
    rintro e w1 ⟨rfl, hb⟩
    have hk := kW.trans (hb.mono kW.size)
    have y0 := glh.keptB x0 hb
    have y1 := glh.keptB x1 hb
    have y2 := glh.keptB x2 hb
    clear hb x0 x1 x2 kW
    obtain ⟨m0, m1, m2, m3, m4, m5, m6, mz⟩ := lri.seven y1
    obtain ⟨a0, a1, az⟩ := glh.two y2
    go_wp2_with fail
    refine (IM.out _ hk).mono ?_
    rintro e w2 ⟨rfl, hb⟩
    have hk2 := hk.trans (hb.mono hk.size)
    have z0 := glh.keptB y0 hb
    have z1 := glh.keptB y1 hb
    have z2 := glh.keptB y2 hb
    clear hb y0 y1 y2 hk m0 m1 m2 m3 m4 m5 m6 mz a0 a1 az
    obtain ⟨a0, a1, az⟩ := glh.two z2
    go_wp2_with fail
    refine (IA.out _).mono ?_
    rintro e w3 ⟨rfl, hb⟩
    have B1 := Lib.hid (hk2.trans (hb.mono hk2.size))
    obtain ⟨j0, j1, j2, j3, jz⟩ := glh.four (glh.keptB z0 hb)
    obtain ⟨m0, m1, m2, m3, m4, m5, m6, mz⟩ := lri.seven (glh.keptB z1 hb)
    obtain ⟨n0, n1, nz⟩ := glh.two (glh.keptB z2 hb)
    clear hb z0 z1 z2 hk2 a0 a1 az
    go_upto_region 3 with fail
    have qj0 := fun (d : Nat) (os : Array Obj) => cell_regrown (d := d) (os := os) j0
    have qj1 := fun (d : Nat) (os : Array Obj) => cell_regrown (d := d) (os := os) j1
    have qj2 := fun (d : Nat) (os : Array Obj) => cell_regrown (d := d) (os := os) j2
    have qj3 := fun (d : Nat) (os : Array Obj) => cell_regrown (d := d) (os := os) j3
    have qm0 := fun (d : Nat) (os : Array Obj) => cell_regrown (d := d) (os := os) m0
    have qm1 := fun (d : Nat) (os : Array Obj) => cell_regrown (d := d) (os := os) m1
    have qm2 := fun (d : Nat) (os : Array Obj) => cell_regrown (d := d) (os := os) m2
    have qm3 := fun (d : Nat) (os : Array Obj) => cell_regrown (d := d) (os := os) m3
    have qm4 := fun (d : Nat) (os : Array Obj) => cell_regrown (d := d) (os := os) m4
    have qm5 := fun (d : Nat) (os : Array Obj) => cell_regrown (d := d) (os := os) m5
    have qm6 := fun (d : Nat) (os : Array Obj) => cell_regrown (d := d) (os := os) m6
    have qn0 := fun (d : Nat) (os : Array Obj) => cell_regrown (d := d) (os := os) n0
    have qn1 := fun (d : Nat) (os : Array Obj) => cell_regrown (d := d) (os := os) n1
    clear j0 j1 j2 j3 m0 m1 m2 m3 m4 m5 m6 n0 n1 jz mz nz
    refine wp_region_quiet_below (by kernel_rfl) (by kernel_rfl) ?_
    iterate 15 (with_reducible refine wpQuiet_step (fun K hK => ?_); go_simp; first | (apply Exists.intro; with_reducible refine ⟨fun _ => ?_, hK _ ?_⟩; (first | exact Calls.regrown_of (CF1.out _ (B1.out.trans ((below_regrown _ _ _).mono B1.out.size))) | exact Calls.regrown_of (CF2.out _ (B1.out.trans ((below_regrown _ _ _).mono B1.out.size))) | exact Calls.regrown_of (CC1.out _) | exact Calls.regrown_of (CC2.out _)); clear hK K) | (rw [if_neg (by decide)]; with_reducible refine hK _ ?_; clear hK K) | (with_reducible refine hK _ ?_; clear hK K))
    with_reducible refine wpQuiet_nil ?_
    rintro w4 ⟨⟨dq, osq⟩, hw4⟩
    have HB := Lib.hid (B1.out.trans ((show Below w3.heap.size w3 w4 by rw [hw4]; exact below_regrown _ _ _).mono B1.out.size))
    clear hw4 B1
    go_wp2_with fail
    go_ret
    exact ⟨rfl, HB.out⟩

set_option maxHeartbeats 4000000 in
set_option maxRecDepth 100000 in
theorem specFits_calls (j : Jr) (m : Lt) (v : Value) (a : Ad) (w : World) (h : Rds w v m.ps) (hl : m.ps.length ≤ 2000000) (hx : ∀ x ∈ m.ps, x.length ≤ 4000000) (ha : m.a.length ≤ 4000000) (hb : m.b.length ≤ 4000000) (h1 : j.now.length ≤ 4000000) (h2 : j.was.length ≤ 4000000) (h3 : a.st.length ≤ 4000000) (h4 : a.hs.length ≤ 4000000) :
    Calls Tryz.prog 7 #[.agg (jrA j), .agg (letA m v), .agg (adA a)] w fun e w' => e = .returned (.bool (fitR j m a)) ∧ Below w.heap.size w w' := by
  have hij := fun w' => gjr.specJar_calls j h1 h2 w'
  have him : ∀ w' (k : Below w.heap.size w w'), Calls Tryz.prog 15 #[.agg (letA m v)] w' _ := fun w' k => lsa.specRight_calls m v w' (Rds.below h k) hl hx ha hb
  have hia := fun w' => specAddr_calls a h3 h4 w'
  have hcf := fun (c : Bs) (hc : c.length ≤ 4000000) w' (k : Below w.heap.size w w') => ftm.fits2_calls m v c w' (Rds.below h k) hl hx ha hb hc
  obtain ⟨ad, cap, rfl⟩ := lsa.rds_form h
  obtain ⟨n, hn⟩ : ∃ n, n = m.ps.length := ⟨_, rfl⟩
  rw [← hn] at him hcf ⊢
  clear hn
  unfold fitR
  cases hbj : jarR j with
  | false =>
    simp only [Bool.false_and]
    simp only [hbj] at hij
    have IJ := Lib.hid hij
    clear hij him hia hcf hbj h hl hx ha hb h1 h2 h3 h4
    obtain ⟨s, t, x, y⟩ := j
    obtain ⟨k, f, tt, c, ps, b1, b2⟩ := m
    obtain ⟨p, q⟩ := a
    unfold jrA at IJ
    unfold jrA letA adA
    simp only at IJ ⊢
    have kW := glh.new3 w (.cells #[str s, str t, .int .i64 x, .int .i64 y] 33) (.cells #[.int .i64 k, .int .i64 f, .int .i64 tt, .int .i64 c, .slice ad n cap, str b1, str b2] 35) (.cells #[str p, str q] 37)
    obtain ⟨x0, x1, x2⟩ := alloc3 w (.cells #[str s, str t, .int .i64 x, .int .i64 y] 33) (.cells #[.int .i64 k, .int .i64 f, .int .i64 tt, .int .i64 c, .slice ad n cap, str b1, str b2] 35) (.cells #[str p, str q] 37)
    have Q := And.intro x0 (And.intro x1 (And.intro x2 kW))
    clear x0 x1 x2 kW
    go_enter Tryz.func7, Tryz.ntmps7
    go_wp2_with fail
    generalize hW : (((w.alloc (.cells #[str s, str t, .int .i64 x, .int .i64 y] 33)).alloc (.cells #[.int .i64 k, .int .i64 f, .int .i64 tt, .int .i64 c, .slice ad n cap, str b1, str b2] 35)).alloc (.cells #[str p, str q] 37)) = W at Q
    obtain ⟨x0, x1, x2, kW⟩ := Q
    clear hW
    refine (IJ.out _).mono ?_
    rintro e w1 ⟨rfl, hb⟩
    have HB := Lib.hid (kW.trans (hb.mono kW.size))
    clear hb
    go_wp2_with fail
    go_ret
    exact ⟨rfl, HB.out⟩
  | true =>
  simp only [hbj] at hij
  have IJ := Lib.hid hij
  cases hbm : right m with
  | false =>
    simp only [Bool.false_and, Bool.and_false]
    simp only [hbm] at him
    have IM := Lib.hid him
    clear hij him hia hcf hbj hbm h hl hx ha hb h1 h2 h3 h4
    obtain ⟨s, t, x, y⟩ := j
    obtain ⟨k, f, tt, c, ps, b1, b2⟩ := m
    obtain ⟨p, q⟩ := a
    unfold jrA at IJ
    unfold letA at IM
    unfold jrA letA adA
    simp only at IJ IM ⊢
    have kW := glh.new3 w (.cells #[str s, str t, .int .i64 x, .int .i64 y] 33) (.cells #[.int .i64 k, .int .i64 f, .int .i64 tt, .int .i64 c, .slice ad n cap, str b1, str b2] 35) (.cells #[str p, str q] 37)
    obtain ⟨x0, x1, x2⟩ := alloc3 w (.cells #[str s, str t, .int .i64 x, .int .i64 y] 33) (.cells #[.int .i64 k, .int .i64 f, .int .i64 tt, .int .i64 c, .slice ad n cap, str b1, str b2] 35) (.cells #[str p, str q] 37)
    have Q := And.intro x0 (And.intro x1 (And.intro x2 kW))
    clear x0 x1 x2 kW
    go_enter Tryz.func7, Tryz.ntmps7
    go_wp2_with fail
    generalize hW : (((w.alloc (.cells #[str s, str t, .int .i64 x, .int .i64 y] 33)).alloc (.cells #[.int .i64 k, .int .i64 f, .int .i64 tt, .int .i64 c, .slice ad n cap, str b1, str b2] 35)).alloc (.cells #[str p, str q] 37)) = W at Q
    obtain ⟨x0, x1, x2, kW⟩ := Q
    clear hW
    refine (IJ.out _).mono ?_
    rintro e w1 ⟨rfl, hb⟩
    have hk := kW.trans (hb.mono kW.size)
    have y0 := glh.keptB x0 hb
    have y1 := glh.keptB x1 hb
    have y2 := glh.keptB x2 hb
    clear hb x0 x1 x2 kW
    obtain ⟨m0, m1, m2, m3, m4, m5, m6, mz⟩ := lri.seven y1
    obtain ⟨a0, a1, az⟩ := glh.two y2
    go_wp2_with fail
    refine (IM.out _ hk).mono ?_
    rintro e w2 ⟨rfl, hb⟩
    have HB := Lib.hid (hk.trans (hb.mono hk.size))
    clear hb
    go_wp2_with fail
    go_ret
    exact ⟨rfl, HB.out⟩
  | true =>
  simp only [hbm] at him
  have IM := Lib.hid him
  cases hba : adR a with
  | false =>
    simp only [Bool.false_and, Bool.and_false]
    simp only [hba] at hia
    have IA := Lib.hid hia
    clear hij him hia hcf hbj hbm hba h hl hx ha hb h1 h2 h3 h4
    obtain ⟨s, t, x, y⟩ := j
    obtain ⟨k, f, tt, c, ps, b1, b2⟩ := m
    obtain ⟨p, q⟩ := a
    unfold jrA at IJ
    unfold letA at IM
    unfold adA at IA
    unfold jrA letA adA
    simp only at IJ IM IA ⊢
    have kW := glh.new3 w (.cells #[str s, str t, .int .i64 x, .int .i64 y] 33) (.cells #[.int .i64 k, .int .i64 f, .int .i64 tt, .int .i64 c, .slice ad n cap, str b1, str b2] 35) (.cells #[str p, str q] 37)
    obtain ⟨x0, x1, x2⟩ := alloc3 w (.cells #[str s, str t, .int .i64 x, .int .i64 y] 33) (.cells #[.int .i64 k, .int .i64 f, .int .i64 tt, .int .i64 c, .slice ad n cap, str b1, str b2] 35) (.cells #[str p, str q] 37)
    have Q := And.intro x0 (And.intro x1 (And.intro x2 kW))
    clear x0 x1 x2 kW
    go_enter Tryz.func7, Tryz.ntmps7
    go_wp2_with fail
    generalize hW : (((w.alloc (.cells #[str s, str t, .int .i64 x, .int .i64 y] 33)).alloc (.cells #[.int .i64 k, .int .i64 f, .int .i64 tt, .int .i64 c, .slice ad n cap, str b1, str b2] 35)).alloc (.cells #[str p, str q] 37)) = W at Q
    obtain ⟨x0, x1, x2, kW⟩ := Q
    clear hW
    refine (IJ.out _).mono ?_
    rintro e w1 ⟨rfl, hb⟩
    have hk := kW.trans (hb.mono kW.size)
    have y0 := glh.keptB x0 hb
    have y1 := glh.keptB x1 hb
    have y2 := glh.keptB x2 hb
    clear hb x0 x1 x2 kW
    obtain ⟨m0, m1, m2, m3, m4, m5, m6, mz⟩ := lri.seven y1
    obtain ⟨a0, a1, az⟩ := glh.two y2
    go_wp2_with fail
    refine (IM.out _ hk).mono ?_
    rintro e w2 ⟨rfl, hb⟩
    have hk2 := hk.trans (hb.mono hk.size)
    have z0 := glh.keptB y0 hb
    have z1 := glh.keptB y1 hb
    have z2 := glh.keptB y2 hb
    clear hb y0 y1 y2 hk m0 m1 m2 m3 m4 m5 m6 mz a0 a1 az
    obtain ⟨a0, a1, az⟩ := glh.two z2
    go_wp2_with fail
    refine (IA.out _).mono ?_
    rintro e w3 ⟨rfl, hb⟩
    have HB := Lib.hid (hk2.trans (hb.mono hk2.size))
    clear hb
    go_wp2_with fail
    go_ret
    exact ⟨rfl, HB.out⟩
  | true =>
  simp only [hba] at hia
  have IA := Lib.hid hia
  simp only [Bool.true_and]
  obtain ⟨e1, e2⟩ := gck.ad_atoms hba
  have k1 := jarR_now hbj
  have hc1 := fun w' => gck.l05Cookie_calls j.now a (gck.atom8 k1) (gck.atom8 e1) (gck.atom8 e2) w'
  have ec1 : gck.cookieR j.now a = gck.cookS j.now a := by unfold gck.cookieR; rw [k1, hba]; rfl
  rw [← ec1] at hc1
  have hcf1 := hcf (gck.cookieR j.now a) (by have := gck.cookie_len j.now a; omega)
  obtain ⟨C1, hC1⟩ : ∃ c, c = gck.cookieR j.now a := ⟨_, rfl⟩
  simp only [← hC1] at hc1 hcf1 ⊢
  by_cases hz : j.was = []
  · have e0 : fits2 m (gck.cookieR j.was a) = false := by
      rw [hz]
      have : gck.cookieR [] a = [] := rfl
      rw [this]
      unfold fits2
      rw [okT_nil]
      simp
    simp only [e0]
    obtain ⟨d1, d2, d3⟩ := lsm.e_yes hz
    have CF2 := Lib.hid (trivial : True)
    have CC2 := Lib.hid (trivial : True)
    cases hF1 : fits2 m C1 with
    | true =>
      simp only [Bool.true_or, Bool.false_or]
      simp only [hF1] at hcf1
      have CF1 := Lib.hid hcf1
      have CC1 := Lib.hid hc1
      clear hij him hia hcf hbj hbm hba hcf1 hc1 hF1 hC1 h hl hx ha hb h1 h2 h3 h4 hz e0 e1 e2 ec1 k1
      obtain ⟨s, t, x, y⟩ := j
      obtain ⟨k, f, tt, c, ps, b1, b2⟩ := m
      obtain ⟨p, q⟩ := a
      unfold jrA at IJ
      unfold letA at IM CF1
      unfold adA at IA CC1
      unfold jrA letA adA
      simp only at IJ IM IA CF1 CC1 d1 d2 d3 ⊢
      have kW := glh.new3 w (.cells #[str s, str t, .int .i64 x, .int .i64 y] 33) (.cells #[.int .i64 k, .int .i64 f, .int .i64 tt, .int .i64 c, .slice ad n cap, str b1, str b2] 35) (.cells #[str p, str q] 37)
      obtain ⟨x0, x1, x2⟩ := alloc3 w (.cells #[str s, str t, .int .i64 x, .int .i64 y] 33) (.cells #[.int .i64 k, .int .i64 f, .int .i64 tt, .int .i64 c, .slice ad n cap, str b1, str b2] 35) (.cells #[str p, str q] 37)
      have Q := And.intro x0 (And.intro x1 (And.intro x2 kW))
      clear x0 x1 x2 kW
      go_enter Tryz.func7, Tryz.ntmps7
      go_wp2_with fail
      generalize hW : (((w.alloc (.cells #[str s, str t, .int .i64 x, .int .i64 y] 33)).alloc (.cells #[.int .i64 k, .int .i64 f, .int .i64 tt, .int .i64 c, .slice ad n cap, str b1, str b2] 35)).alloc (.cells #[str p, str q] 37)) = W at Q
      obtain ⟨x0, x1, x2, kW⟩ := Q
      clear hW
      refine (IJ.out _).mono ?_
      rintro e w1 ⟨rfl, hb⟩
      have hk := kW.trans (hb.mono kW.size)
      have y0 := glh.keptB x0 hb
      have y1 := glh.keptB x1 hb
      have y2 := glh.keptB x2 hb
      clear hb x0 x1 x2 kW
      obtain ⟨m0, m1, m2, m3, m4, m5, m6, mz⟩ := lri.seven y1
      obtain ⟨a0, a1, az⟩ := glh.two y2
      go_wp2_with fail
      refine (IM.out _ hk).mono ?_
      rintro e w2 ⟨rfl, hb⟩
      have hk2 := hk.trans (hb.mono hk.size)
      have z0 := glh.keptB y0 hb
      have z1 := glh.keptB y1 hb
      have z2 := glh.keptB y2 hb
      clear hb y0 y1 y2 hk m0 m1 m2 m3 m4 m5 m6 mz a0 a1 az
      obtain ⟨a0, a1, az⟩ := glh.two z2
      go_wp2_with fail
      refine (IA.out _).mono ?_
      rintro e w3 ⟨rfl, hb⟩
      have B1 := Lib.hid (hk2.trans (hb.mono hk2.size))
      obtain ⟨j0, j1, j2, j3, jz⟩ := glh.four (glh.keptB z0 hb)
      obtain ⟨m0, m1, m2, m3, m4, m5, m6, mz⟩ := lri.seven (glh.keptB z1 hb)
      obtain ⟨n0, n1, nz⟩ := glh.two (glh.keptB z2 hb)
      clear hb z0 z1 z2 hk2 a0 a1 az
      go_upto_region 3 with fail
      have qj0 := fun (d : Nat) (os : Array Obj) => cell_regrown (d := d) (os := os) j0
      have qj1 := fun (d : Nat) (os : Array Obj) => cell_regrown (d := d) (os := os) j1
      have qj2 := fun (d : Nat) (os : Array Obj) => cell_regrown (d := d) (os := os) j2
      have qj3 := fun (d : Nat) (os : Array Obj) => cell_regrown (d := d) (os := os) j3
      have qm0 := fun (d : Nat) (os : Array Obj) => cell_regrown (d := d) (os := os) m0
      have qm1 := fun (d : Nat) (os : Array Obj) => cell_regrown (d := d) (os := os) m1
      have qm2 := fun (d : Nat) (os : Array Obj) => cell_regrown (d := d) (os := os) m2
      have qm3 := fun (d : Nat) (os : Array Obj) => cell_regrown (d := d) (os := os) m3
      have qm4 := fun (d : Nat) (os : Array Obj) => cell_regrown (d := d) (os := os) m4
      have qm5 := fun (d : Nat) (os : Array Obj) => cell_regrown (d := d) (os := os) m5
      have qm6 := fun (d : Nat) (os : Array Obj) => cell_regrown (d := d) (os := os) m6
      have qn0 := fun (d : Nat) (os : Array Obj) => cell_regrown (d := d) (os := os) n0
      have qn1 := fun (d : Nat) (os : Array Obj) => cell_regrown (d := d) (os := os) n1
      clear j0 j1 j2 j3 m0 m1 m2 m3 m4 m5 m6 n0 n1 jz mz nz
      refine wp_region_quiet_below (by kernel_rfl) (by kernel_rfl) ?_
      iterate 20 (with_reducible refine wpQuiet_step (fun K hK => ?_); go_simp; first | (apply Exists.intro; with_reducible refine ⟨fun _ => ?_, hK _ ?_⟩; (first | exact Calls.regrown_of (CF1.out _ (B1.out.trans ((below_regrown _ _ _).mono B1.out.size))) | exact Calls.regrown_of (CF2.out _ (B1.out.trans ((below_regrown _ _ _).mono B1.out.size))) | exact Calls.regrown_of (CC1.out _) | exact Calls.regrown_of (CC2.out _)); clear hK K) | (rw [if_neg (by decide)]; with_reducible refine hK _ ?_; clear hK K) | (with_reducible refine hK _ ?_; clear hK K))
      with_reducible refine wpQuiet_nil ?_
      rintro w4 ⟨⟨dq, osq⟩, hw4⟩
      have HB := Lib.hid (B1.out.trans ((show Below w3.heap.size w3 w4 by rw [hw4]; exact below_regrown _ _ _).mono B1.out.size))
      clear hw4 B1
      go_wp2_with fail
      go_ret
      exact ⟨rfl, HB.out⟩
    | false =>
      simp only [Bool.true_or, Bool.false_or]
      simp only [hF1] at hcf1
      have CF1 := Lib.hid hcf1
      have CC1 := Lib.hid hc1
      clear hij him hia hcf hbj hbm hba hcf1 hc1 hF1 hC1 h hl hx ha hb h1 h2 h3 h4 hz e0 e1 e2 ec1 k1
      obtain ⟨s, t, x, y⟩ := j
      obtain ⟨k, f, tt, c, ps, b1, b2⟩ := m
      obtain ⟨p, q⟩ := a
      unfold jrA at IJ
      unfold letA at IM CF1
      unfold adA at IA CC1
      unfold jrA letA adA
      simp only at IJ IM IA CF1 CC1 d1 d2 d3 ⊢
      have kW := glh.new3 w (.cells #[str s, str t, .int .i64 x, .int .i64 y] 33) (.cells #[.int .i64 k, .int .i64 f, .int .i64 tt, .int .i64 c, .slice ad n cap, str b1, str b2] 35) (.cells #[str p, str q] 37)
      obtain ⟨x0, x1, x2⟩ := alloc3 w (.cells #[str s, str t, .int .i64 x, .int .i64 y] 33) (.cells #[.int .i64 k, .int .i64 f, .int .i64 tt, .int .i64 c, .slice ad n cap, str b1, str b2] 35) (.cells #[str p, str q] 37)
      have Q := And.intro x0 (And.intro x1 (And.intro x2 kW))
      clear x0 x1 x2 kW
      go_enter Tryz.func7, Tryz.ntmps7
      go_wp2_with fail
      generalize hW : (((w.alloc (.cells #[str s, str t, .int .i64 x, .int .i64 y] 33)).alloc (.cells #[.int .i64 k, .int .i64 f, .int .i64 tt, .int .i64 c, .slice ad n cap, str b1, str b2] 35)).alloc (.cells #[str p, str q] 37)) = W at Q
      obtain ⟨x0, x1, x2, kW⟩ := Q
      clear hW
      refine (IJ.out _).mono ?_
      rintro e w1 ⟨rfl, hb⟩
      have hk := kW.trans (hb.mono kW.size)
      have y0 := glh.keptB x0 hb
      have y1 := glh.keptB x1 hb
      have y2 := glh.keptB x2 hb
      clear hb x0 x1 x2 kW
      obtain ⟨m0, m1, m2, m3, m4, m5, m6, mz⟩ := lri.seven y1
      obtain ⟨a0, a1, az⟩ := glh.two y2
      go_wp2_with fail
      refine (IM.out _ hk).mono ?_
      rintro e w2 ⟨rfl, hb⟩
      have hk2 := hk.trans (hb.mono hk.size)
      have z0 := glh.keptB y0 hb
      have z1 := glh.keptB y1 hb
      have z2 := glh.keptB y2 hb
      clear hb y0 y1 y2 hk m0 m1 m2 m3 m4 m5 m6 mz a0 a1 az
      obtain ⟨a0, a1, az⟩ := glh.two z2
      go_wp2_with fail
      refine (IA.out _).mono ?_
      rintro e w3 ⟨rfl, hb⟩
      have B1 := Lib.hid (hk2.trans (hb.mono hk2.size))
      obtain ⟨j0, j1, j2, j3, jz⟩ := glh.four (glh.keptB z0 hb)
      obtain ⟨m0, m1, m2, m3, m4, m5, m6, mz⟩ := lri.seven (glh.keptB z1 hb)
      obtain ⟨n0, n1, nz⟩ := glh.two (glh.keptB z2 hb)
      clear hb z0 z1 z2 hk2 a0 a1 az
      go_upto_region 3 with fail
      have qj0 := fun (d : Nat) (os : Array Obj) => cell_regrown (d := d) (os := os) j0
      have qj1 := fun (d : Nat) (os : Array Obj) => cell_regrown (d := d) (os := os) j1
      have qj2 := fun (d : Nat) (os : Array Obj) => cell_regrown (d := d) (os := os) j2
      have qj3 := fun (d : Nat) (os : Array Obj) => cell_regrown (d := d) (os := os) j3
      have qm0 := fun (d : Nat) (os : Array Obj) => cell_regrown (d := d) (os := os) m0
      have qm1 := fun (d : Nat) (os : Array Obj) => cell_regrown (d := d) (os := os) m1
      have qm2 := fun (d : Nat) (os : Array Obj) => cell_regrown (d := d) (os := os) m2
      have qm3 := fun (d : Nat) (os : Array Obj) => cell_regrown (d := d) (os := os) m3
      have qm4 := fun (d : Nat) (os : Array Obj) => cell_regrown (d := d) (os := os) m4
      have qm5 := fun (d : Nat) (os : Array Obj) => cell_regrown (d := d) (os := os) m5
      have qm6 := fun (d : Nat) (os : Array Obj) => cell_regrown (d := d) (os := os) m6
      have qn0 := fun (d : Nat) (os : Array Obj) => cell_regrown (d := d) (os := os) n0
      have qn1 := fun (d : Nat) (os : Array Obj) => cell_regrown (d := d) (os := os) n1
      clear j0 j1 j2 j3 m0 m1 m2 m3 m4 m5 m6 n0 n1 jz mz nz
      refine wp_region_quiet_below (by kernel_rfl) (by kernel_rfl) ?_
      iterate 20 (with_reducible refine wpQuiet_step (fun K hK => ?_); go_simp; first | (apply Exists.intro; with_reducible refine ⟨fun _ => ?_, hK _ ?_⟩; (first | exact Calls.regrown_of (CF1.out _ (B1.out.trans ((below_regrown _ _ _).mono B1.out.size))) | exact Calls.regrown_of (CF2.out _ (B1.out.trans ((below_regrown _ _ _).mono B1.out.size))) | exact Calls.regrown_of (CC1.out _) | exact Calls.regrown_of (CC2.out _)); clear hK K) | (rw [if_neg (by decide)]; with_reducible refine hK _ ?_; clear hK K) | (with_reducible refine hK _ ?_; clear hK K))
      with_reducible refine wpQuiet_nil ?_
      rintro w4 ⟨⟨dq, osq⟩, hw4⟩
      have HB := Lib.hid (B1.out.trans ((show Below w3.heap.size w3 w4 by rw [hw4]; exact below_regrown _ _ _).mono B1.out.size))
      clear hw4 B1
      go_wp2_with fail
      go_ret
      exact ⟨rfl, HB.out⟩
  · obtain ⟨d1, d2, d3⟩ := lsm.e_no hz
    have k2 := jarR_was hbj hz
    have hc2 := fun w' => gck.l05Cookie_calls j.was a (gck.atom8 k2) (gck.atom8 e1) (gck.atom8 e2) w'
    have ec2 : gck.cookieR j.was a = gck.cookS j.was a := by unfold gck.cookieR; rw [k2, hba]; rfl
    rw [← ec2] at hc2
    have hcf2 := hcf (gck.cookieR j.was a) (by have := gck.cookie_len j.was a; omega)
    obtain ⟨C2, hC2⟩ : ∃ c, c = gck.cookieR j.was a := ⟨_, rfl⟩
    simp only [← hC2] at hc2 hcf2 ⊢
    obtain ⟨F2, hF2⟩ : ∃ b, b = fits2 m C2 := ⟨_, rfl⟩
    simp only [← hF2] at hcf2 ⊢
    cases hF1 : fits2 m C1 with
    | true =>
      simp only [Bool.true_or, Bool.false_or]
      simp only [hF1] at hcf1
      have CF1 := Lib.hid hcf1
      have CF2 := Lib.hid hcf2
      have CC1 := Lib.hid hc1
      have CC2 := Lib.hid hc2
      clear hij him hia hcf hbj hbm hba hcf1 hcf2 hc1 hc2 hF1 hF2 hC1 hC2 h hl hx ha hb h1 h2 h3 h4 hz e1 e2 ec1 ec2 k1 k2
      obtain ⟨s, t, x, y⟩ := j
      obtain ⟨k, f, tt, c, ps, b1, b2⟩ := m
      obtain ⟨p, q⟩ := a
      unfold jrA at IJ
      unfold letA at IM CF1 CF2
      unfold adA at IA CC1 CC2
      unfold jrA letA adA
      simp only at IJ IM IA CF1 CF2 CC1 CC2 d1 d2 d3 ⊢
      have kW := glh.new3 w (.cells #[str s, str t, .int .i64 x, .int .i64 y] 33) (.cells #[.int .i64 k, .int .i64 f, .int .i64 tt, .int .i64 c, .slice ad n cap, str b1, str b2] 35) (.cells #[str p, str q] 37)
      obtain ⟨x0, x1, x2⟩ := alloc3 w (.cells #[str s, str t, .int .i64 x, .int .i64 y] 33) (.cells #[.int .i64 k, .int .i64 f, .int .i64 tt, .int .i64 c, .slice ad n cap, str b1, str b2] 35) (.cells #[str p, str q] 37)
      have Q := And.intro x0 (And.intro x1 (And.intro x2 kW))
      clear x0 x1 x2 kW
      go_enter Tryz.func7, Tryz.ntmps7
      go_wp2_with fail
      generalize hW : (((w.alloc (.cells #[str s, str t, .int .i64 x, .int .i64 y] 33)).alloc (.cells #[.int .i64 k, .int .i64 f, .int .i64 tt, .int .i64 c, .slice ad n cap, str b1, str b2] 35)).alloc (.cells #[str p, str q] 37)) = W at Q
      obtain ⟨x0, x1, x2, kW⟩ := Q
      clear hW
      refine (IJ.out _).mono ?_
      rintro e w1 ⟨rfl, hb⟩
      have hk := kW.trans (hb.mono kW.size)
      have y0 := glh.keptB x0 hb
      have y1 := glh.keptB x1 hb
      have y2 := glh.keptB x2 hb
      clear hb x0 x1 x2 kW
      obtain ⟨m0, m1, m2, m3, m4, m5, m6, mz⟩ := lri.seven y1
      obtain ⟨a0, a1, az⟩ := glh.two y2
      go_wp2_with fail
      refine (IM.out _ hk).mono ?_
      rintro e w2 ⟨rfl, hb⟩
      have hk2 := hk.trans (hb.mono hk.size)
      have z0 := glh.keptB y0 hb
      have z1 := glh.keptB y1 hb
      have z2 := glh.keptB y2 hb
      clear hb y0 y1 y2 hk m0 m1 m2 m3 m4 m5 m6 mz a0 a1 az
      obtain ⟨a0, a1, az⟩ := glh.two z2
      go_wp2_with fail
      refine (IA.out _).mono ?_
      rintro e w3 ⟨rfl, hb⟩
      have B1 := Lib.hid (hk2.trans (hb.mono hk2.size))
      obtain ⟨j0, j1, j2, j3, jz⟩ := glh.four (glh.keptB z0 hb)
      obtain ⟨m0, m1, m2, m3, m4, m5, m6, mz⟩ := lri.seven (glh.keptB z1 hb)
      obtain ⟨n0, n1, nz⟩ := glh.two (glh.keptB z2 hb)
      clear hb z0 z1 z2 hk2 a0 a1 az
      go_upto_region 3 with fail
      have qj0 := fun (d : Nat) (os : Array Obj) => cell_regrown (d := d) (os := os) j0
      have qj1 := fun (d : Nat) (os : Array Obj) => cell_regrown (d := d) (os := os) j1
      have qj2 := fun (d : Nat) (os : Array Obj) => cell_regrown (d := d) (os := os) j2
      have qj3 := fun (d : Nat) (os : Array Obj) => cell_regrown (d := d) (os := os) j3
      have qm0 := fun (d : Nat) (os : Array Obj) => cell_regrown (d := d) (os := os) m0
      have qm1 := fun (d : Nat) (os : Array Obj) => cell_regrown (d := d) (os := os) m1
      have qm2 := fun (d : Nat) (os : Array Obj) => cell_regrown (d := d) (os := os) m2
      have qm3 := fun (d : Nat) (os : Array Obj) => cell_regrown (d := d) (os := os) m3
      have qm4 := fun (d : Nat) (os : Array Obj) => cell_regrown (d := d) (os := os) m4
      have qm5 := fun (d : Nat) (os : Array Obj) => cell_regrown (d := d) (os := os) m5
      have qm6 := fun (d : Nat) (os : Array Obj) => cell_regrown (d := d) (os := os) m6
      have qn0 := fun (d : Nat) (os : Array Obj) => cell_regrown (d := d) (os := os) n0
      have qn1 := fun (d : Nat) (os : Array Obj) => cell_regrown (d := d) (os := os) n1
      clear j0 j1 j2 j3 m0 m1 m2 m3 m4 m5 m6 n0 n1 jz mz nz
      refine wp_region_quiet_below (by kernel_rfl) (by kernel_rfl) ?_
      iterate 20 (with_reducible refine wpQuiet_step (fun K hK => ?_); go_simp; first | (apply Exists.intro; with_reducible refine ⟨fun _ => ?_, hK _ ?_⟩; (first | exact Calls.regrown_of (CF1.out _ (B1.out.trans ((below_regrown _ _ _).mono B1.out.size))) | exact Calls.regrown_of (CF2.out _ (B1.out.trans ((below_regrown _ _ _).mono B1.out.size))) | exact Calls.regrown_of (CC1.out _) | exact Calls.regrown_of (CC2.out _)); clear hK K) | (rw [if_neg (by decide)]; with_reducible refine hK _ ?_; clear hK K) | (with_reducible refine hK _ ?_; clear hK K))
      with_reducible refine wpQuiet_nil ?_
      rintro w4 ⟨⟨dq, osq⟩, hw4⟩
      have HB := Lib.hid (B1.out.trans ((show Below w3.heap.size w3 w4 by rw [hw4]; exact below_regrown _ _ _).mono B1.out.size))
      clear hw4 B1
      go_wp2_with fail
      go_ret
      exact ⟨rfl, HB.out⟩
    | false =>
      simp only [Bool.true_or, Bool.false_or]
      simp only [hF1] at hcf1
      have CF1 := Lib.hid hcf1
      have CF2 := Lib.hid hcf2
      have CC1 := Lib.hid hc1
      have CC2 := Lib.hid hc2
      clear hij him hia hcf hbj hbm hba hcf1 hcf2 hc1 hc2 hF1 hF2 hC1 hC2 h hl hx ha hb h1 h2 h3 h4 hz e1 e2 ec1 ec2 k1 k2
      obtain ⟨s, t, x, y⟩ := j
      obtain ⟨k, f, tt, c, ps, b1, b2⟩ := m
      obtain ⟨p, q⟩ := a
      unfold jrA at IJ
      unfold letA at IM CF1 CF2
      unfold adA at IA CC1 CC2
      unfold jrA letA adA
      simp only at IJ IM IA CF1 CF2 CC1 CC2 d1 d2 d3 ⊢
      have kW := glh.new3 w (.cells #[str s, str t, .int .i64 x, .int .i64 y] 33) (.cells #[.int .i64 k, .int .i64 f, .int .i64 tt, .int .i64 c, .slice ad n cap, str b1, str b2] 35) (.cells #[str p, str q] 37)
      obtain ⟨x0, x1, x2⟩ := alloc3 w (.cells #[str s, str t, .int .i64 x, .int .i64 y] 33) (.cells #[.int .i64 k, .int .i64 f, .int .i64 tt, .int .i64 c, .slice ad n cap, str b1, str b2] 35) (.cells #[str p, str q] 37)
      have Q := And.intro x0 (And.intro x1 (And.intro x2 kW))
      clear x0 x1 x2 kW
      go_enter Tryz.func7, Tryz.ntmps7
      go_wp2_with fail
      generalize hW : (((w.alloc (.cells #[str s, str t, .int .i64 x, .int .i64 y] 33)).alloc (.cells #[.int .i64 k, .int .i64 f, .int .i64 tt, .int .i64 c, .slice ad n cap, str b1, str b2] 35)).alloc (.cells #[str p, str q] 37)) = W at Q
      obtain ⟨x0, x1, x2, kW⟩ := Q
      clear hW
      refine (IJ.out _).mono ?_
      rintro e w1 ⟨rfl, hb⟩
      have hk := kW.trans (hb.mono kW.size)
      have y0 := glh.keptB x0 hb
      have y1 := glh.keptB x1 hb
      have y2 := glh.keptB x2 hb
      clear hb x0 x1 x2 kW
      obtain ⟨m0, m1, m2, m3, m4, m5, m6, mz⟩ := lri.seven y1
      obtain ⟨a0, a1, az⟩ := glh.two y2
      go_wp2_with fail
      refine (IM.out _ hk).mono ?_
      rintro e w2 ⟨rfl, hb⟩
      have hk2 := hk.trans (hb.mono hk.size)
      have z0 := glh.keptB y0 hb
      have z1 := glh.keptB y1 hb
      have z2 := glh.keptB y2 hb
      clear hb y0 y1 y2 hk m0 m1 m2 m3 m4 m5 m6 mz a0 a1 az
      obtain ⟨a0, a1, az⟩ := glh.two z2
      go_wp2_with fail
      refine (IA.out _).mono ?_
      rintro e w3 ⟨rfl, hb⟩
      have B1 := Lib.hid (hk2.trans (hb.mono hk2.size))
      obtain ⟨j0, j1, j2, j3, jz⟩ := glh.four (glh.keptB z0 hb)
      obtain ⟨m0, m1, m2, m3, m4, m5, m6, mz⟩ := lri.seven (glh.keptB z1 hb)
      obtain ⟨n0, n1, nz⟩ := glh.two (glh.keptB z2 hb)
      clear hb z0 z1 z2 hk2 a0 a1 az
      go_upto_region 3 with fail
      have qj0 := fun (d : Nat) (os : Array Obj) => cell_regrown (d := d) (os := os) j0
      have qj1 := fun (d : Nat) (os : Array Obj) => cell_regrown (d := d) (os := os) j1
      have qj2 := fun (d : Nat) (os : Array Obj) => cell_regrown (d := d) (os := os) j2
      have qj3 := fun (d : Nat) (os : Array Obj) => cell_regrown (d := d) (os := os) j3
      have qm0 := fun (d : Nat) (os : Array Obj) => cell_regrown (d := d) (os := os) m0
      have qm1 := fun (d : Nat) (os : Array Obj) => cell_regrown (d := d) (os := os) m1
      have qm2 := fun (d : Nat) (os : Array Obj) => cell_regrown (d := d) (os := os) m2
      have qm3 := fun (d : Nat) (os : Array Obj) => cell_regrown (d := d) (os := os) m3
      have qm4 := fun (d : Nat) (os : Array Obj) => cell_regrown (d := d) (os := os) m4
      have qm5 := fun (d : Nat) (os : Array Obj) => cell_regrown (d := d) (os := os) m5
      have qm6 := fun (d : Nat) (os : Array Obj) => cell_regrown (d := d) (os := os) m6
      have qn0 := fun (d : Nat) (os : Array Obj) => cell_regrown (d := d) (os := os) n0
      have qn1 := fun (d : Nat) (os : Array Obj) => cell_regrown (d := d) (os := os) n1
      clear j0 j1 j2 j3 m0 m1 m2 m3 m4 m5 m6 n0 n1 jz mz nz
      refine wp_region_quiet_below (by kernel_rfl) (by kernel_rfl) ?_
      iterate 20 (with_reducible refine wpQuiet_step (fun K hK => ?_); go_simp; first | (apply Exists.intro; with_reducible refine ⟨fun _ => ?_, hK _ ?_⟩; (first | exact Calls.regrown_of (CF1.out _ (B1.out.trans ((below_regrown _ _ _).mono B1.out.size))) | exact Calls.regrown_of (CF2.out _ (B1.out.trans ((below_regrown _ _ _).mono B1.out.size))) | exact Calls.regrown_of (CC1.out _) | exact Calls.regrown_of (CC2.out _)); clear hK K) | (rw [if_neg (by decide)]; with_reducible refine hK _ ?_; clear hK K) | (with_reducible refine hK _ ?_; clear hK K))
      with_reducible refine wpQuiet_nil ?_
      rintro w4 ⟨⟨dq, osq⟩, hw4⟩
      have HB := Lib.hid (B1.out.trans ((show Below w3.heap.size w3 w4 by rw [hw4]; exact below_regrown _ _ _).mono B1.out.size))
      clear hw4 B1
      go_wp2_with fail
      go_ret
      exact ⟨rfl, HB.out⟩
end Go.Proofs.YtdikjmhnjlalbaaGreat.gft
