/- Contract of LimitClean of the model. -/
import Derived.Test.YtdikjmhnjlalbaaGic
import Derived.Test.YtdikjmhnjlalbaaLms
namespace Go.Proofs.Ytdikjmhnjlalbaa.gsc
open Go.RowKit Go.Sort Go.Maps Go.Proofs.Ytdikjmhnjlalbaa.tm Go.Proofs.Ytdikjmhnjlalbaa.lib Go.Proofs.Ytdikjmhnjlalbaa.rdr Go.Proofs.Ytdikjmhnjlalbaa.bld Go.Proofs.Ytdikjmhnjlalbaa.ltp Go.Proofs.Ytdikjmhnjlalbaa.gdp Go.Proofs.Ytdikjmhnjlalbaa.gdm Go.Proofs.Ytdikjmhnjlalbaa.rbk Go.Proofs.Ytdikjmhnjlalbaa.bkr Go.Proofs.Ytdikjmhnjlalbaa.glh Go.Proofs.Ytdikjmhnjlalbaa.gcl Go.Proofs.Ytdikjmhnjlalbaa.blo Go.Proofs.Ytdikjmhnjlalbaa.gic
set_option linter.unusedVariables false

set_option maxRecDepth 100000 in
theorem min_calls (a b : Int) (w : World) : Calls Try.prog 78 #[.int .i64 a, .int .i64 b] w fun e w' => e = .returned (.int .i64 (min a b)) ∧ w = w' := by
  by_cases h : a < b
  · have d1 : decide (a < b) = true := decide_eq_true h
    have d2 : decide (b < a) = false := decide_eq_false (by omega)
    have HE := Lib.hid (show min a b = a by omega)
    clear h
    go_enter Try.func78, Try.ntmps78
    go_wp2_with fail
    go_ret
    exact ⟨by rw [HE.out]; rfl, rfl⟩
  · have d1 : decide (a < b) = false := decide_eq_false h
    have HE := Lib.hid (show min a b = b by omega)
    by_cases h2 : b < a
    · have d2 : decide (b < a) = true := decide_eq_true h2
      clear h h2
      go_enter Try.func78, Try.ntmps78
      go_wp2_with fail
      go_ret
      exact ⟨by rw [HE.out]; rfl, rfl⟩
    · have d2 : decide (b < a) = false := decide_eq_false h2
      have e : a = b := by omega
      subst e
      clear h h2
      go_enter Try.func78, Try.ntmps78
      go_wp2_with fail
      go_ret
      exact ⟨by rw [HE.out]; rfl, rfl⟩

set_option maxHeartbeats 2000000 in
set_option maxRecDepth 100000 in
theorem l05Now_calls (rate burst now : Int) (v : Value) (k : Bk) (w : World) (r1 : 0 ≤ rate) (r2 : rate ≤ 10) (k1 : 0 ≤ k.left) (k2 : k.left ≤ 100) (t1 : 0 ≤ k.at_) (t2 : k.at_ ≤ now) (t3 : now ≤ 1000000) :
    Calls Try.prog 55 #[.agg (lmA rate burst v), .agg (bkA k), .int .i64 now] w fun e w' => e = .returned (.int .i64 (nowR rate burst k now)) ∧ Below w.heap.size w w' := by
  obtain ⟨s, x, t⟩ := k
  simp only at k1 k2 t1 t2
  have hm1 : 0 ≤ rate * (now - t) := Int.mul_nonneg r1 (by omega)
  have hm2 : rate * (now - t) ≤ 10 * 1000000 := Int.le_trans (Int.mul_le_mul_of_nonneg_right r2 (by omega)) (Int.mul_le_mul_of_nonneg_left (by omega) (by omega))
  obtain ⟨m, hm⟩ : ∃ m, m = rate * (now - t) := ⟨_, rfl⟩
  rw [← hm] at hm1 hm2
  have ws : IntKind.i64.wrap (now - t) = now - t := by rw [IntKind.wrap_i64]; omega
  have wm : IntKind.i64.wrap (rate * (now - t)) = rate * (now - t) := by rw [← hm, IntKind.wrap_i64]; omega
  have wa : IntKind.i64.wrap (x + rate * (now - t)) = x + rate * (now - t) := by rw [← hm, IntKind.wrap_i64]; omega
  have HM := Lib.hid hm
  unfold lmA bkA nowR
  clear hm hm1 hm2
  go_enter Try.func55, Try.ntmps55
  go_wp2_with fail
  refine (min_calls _ _ _).mono ?_
  rintro e w1 ⟨rfl, rfl⟩
  go_wp2_with fail
  go_ret
  exact ⟨rfl, (new1 _ _).alloc (by simp) _⟩

/-- Behind k buckets. -/
structure Sc (rate burst now : Int) (l : List Bk) (w wr : World) (o0 o1 : Obj) (O : Nat) (k : Nat) (v : Value) : Prop where
  lo : w.heap.size + 1 < O
  le : k ≤ l.length
  bel : Below w.heap.size w wr
  big : O + 1 ≤ wr.heap.size
  x0 : wr.heap[w.heap.size]? = some o0
  x1 : wr.heap[w.heap.size + 1]? = some o1
  x2 : wr.heap[O]? = some (.cells #[.int .i64 rate, .int .i64 burst, v] 36)
  row : Bks wr (O + 1) v ((l.take k).filter (stays rate burst now))
theorem Sc.below {rate burst now : Int} {l : List Bk} {w wr w2 : World} {o0 o1 : Obj} {O k : Nat} {v : Value} (h : Sc rate burst now l w wr o0 o1 O k v) (hb : Below wr.heap.size wr w2) : Sc rate burst now l w w2 o0 o1 O k v :=
  ⟨h.lo, h.le, h.bel.trans (hb.mono h.bel.size), Nat.le_trans h.big hb.size, keptB h.x0 hb, keptB h.x1 hb, keptB h.x2 hb, h.row.below hb⟩
theorem Sc.pass {rate burst now : Int} {l : List Bk} {w wr : World} {o0 o1 : Obj} {O k : Nat} {v : Value} {x : Bk} (h : Sc rate burst now l w wr o0 o1 O k v) (hx : l[k]? = some x) (hs : stays rate burst now x = false) : Sc rate burst now l w wr o0 o1 O (k + 1) v := by
  refine ⟨h.lo, (List.getElem?_eq_some_iff.1 hx).1, h.bel, h.big, h.x0, h.x1, h.x2, ?_⟩
  rw [List.take_add_one, hx, List.filter_append]
  simp only [Option.toList_some, List.filter_cons, hs, List.filter_nil, Bool.false_eq_true, if_false, List.append_nil]
  exact h.row
theorem Sc.put {rate burst now : Int} {l : List Bk} {w wr w' : World} {o0 o1 : Obj} {O k : Nat} {v v' : Value} {x : Bk} (h : Sc rate burst now l w wr o0 o1 O k v) (hx : l[k]? = some x) (hs : stays rate burst now x = true)
    (hb : Below (O + 1) wr w') (hv : Bks w' (O + 1) v' ((l.take k).filter (stays rate burst now) ++ [x])) : Sc rate burst now l w (w'.setCell ⟨O, 2, none⟩ v') o0 o1 O (k + 1) v' := by
  have O2 : Only (O) w' (w'.setCell ⟨O, 2, none⟩ v') := Only.setCell 2 _
  have z := h.big
  have zl := h.lo
  have z1 := hb.size
  have z0 := h.bel.size
  have z2 : (w'.setCell ⟨O, 2, none⟩ v').heap.size = w'.heap.size := by simp [World.setCell]
  refine ⟨h.lo, (List.getElem?_eq_some_iff.1 hx).1, (h.bel.trans (hb.mono (by omega))).setCell (by simp; omega) _, by rw [z2]; omega, ?_, ?_, ?_, ?_⟩
  · rw [O2.block _ (by omega) (by omega)]; exact (hb.block _ (by omega)).trans h.x0
  · rw [O2.block _ (by omega) (by omega)]; exact (hb.block _ (by omega)).trans h.x1
  · exact heap_setCell_same w' (O) 2 _ _ v' ((hb.block _ (by omega)).trans h.x2)
  · rw [List.take_add_one, hx, List.filter_append]
    simp only [Option.toList_some, List.filter_cons, hs, List.filter_nil, if_true]
    refine ⟨hv.1, ?_⟩
    rcases hv.2 with h2 | ⟨gg, cc, cur, e3, hg3, hh3, r3⟩
    · exact .inl h2
    · refine .inr ⟨gg, cc, cur, e3, hg3, ?_, r3⟩
      rw [O2.block _ (Array.getElem?_eq_some_iff.1 hh3).1 (by omega)]
      exact hh3

set_option maxHeartbeats 8000000 in
set_option maxRecDepth 100000 in
theorem specClean_calls (rate burst now : Int) (v : Value) (l : List Bk) (w : World) (h : Rbk w v l) (hl : l.length ≤ 2000000) (hs : ∀ b ∈ l, b.st.length ≤ 4000000) :
    Calls Try.prog 25 #[.agg (lmA rate burst v), .int .i64 now] w fun e w' => ∃ u, e = .returned (.agg (loA (clR rate burst l now).1 (clR rate burst l now).2.1 u false (clR rate burst l now).2.2.2)) ∧ Below w.heap.size w w' ∧ Wbk w' w.heap.size u (clR rate burst l now).2.2.1 := by
  obtain ⟨ad, cap, rfl⟩ := h.form
  have il := fun w' (k : Below w.heap.size w w') => lms.specLim_calls rate burst (.slice ad l.length cap) l w' (h.below k) hl (fun b hb => by have := hs b hb; omega)
  unfold lmA at il ⊢
  obtain ⟨n, hn⟩ : ∃ n, n = l.length := ⟨_, rfl⟩
  rw [← hn] at h il ⊢
  have HN := Lib.hid hn
  have kW := (new1 w (.cells #[.int .i64 rate, .int .i64 burst, .slice ad n cap] 36)).alloc (by simp) (.cells #[.int .i64 0, .int .i64 0, .slice none 0 0, .bool false, .int .i64 0] 41)
  obtain ⟨x0, x1⟩ := alloc2 w (.cells #[.int .i64 rate, .int .i64 burst, .slice ad n cap] 36) (.cells #[.int .i64 0, .int .i64 0, .slice none 0 0, .bool false, .int .i64 0] 41)
  have zz : ((w.alloc (.cells #[.int .i64 rate, .int .i64 burst, .slice ad n cap] 36)).alloc (.cells #[.int .i64 0, .int .i64 0, .slice none 0 0, .bool false, .int .i64 0] 41)).heap.size = w.heap.size + 1 + 1 := by simp
  have Q := And.intro x0 (And.intro x1 (And.intro kW zz))
  clear x0 x1 kW zz
  cases hr : limR rate burst l with
  | false =>
    have e1 : clR rate burst l now = (0, 0, [], 1) := by unfold clR; rw [hr]; rfl
    rw [e1]
    simp only [hr] at il
    have IL := Lib.hid il
    clear il hr e1 h hs hn hl
    go_enter Try.func25, Try.ntmps25
    go_wp2_with fail
    generalize hW : ((w.alloc (.cells #[.int .i64 rate, .int .i64 burst, .slice ad n cap] 36)).alloc (.cells #[.int .i64 0, .int .i64 0, .slice none 0 0, .bool false, .int .i64 0] 41)) = W at Q
    obtain ⟨x0, x1, kW, zW⟩ := Q
    refine (IL.out W kW).mono ?_
    rintro e w1 ⟨rfl, hb⟩
    obtain ⟨q0, q1, q2, q3, q4, qz, qf⟩ := five (keptB x1 hb)
    have HB := Lib.hid (kW.trans (hb.mono kW.size))
    clear hb x0 x1 hW kW
    go_wp2_with fail
    refine bodyPost_ret (v := .agg #[.int .i64 0, .int .i64 0, .slice none 0 0, .bool false, .int .i64 1]) (by simp [results, Try.results25, go_sem, q0, q1, q2, q3, q4]) rfl ⟨_, rfl, ?_, .inl ⟨rfl, _, _, rfl⟩⟩
    exact ((((HB.out.setCell (by simp) _).setCell (by simp) _).setCell (by simp) _).setCell (by simp) _).setCell (by simp) _
  | true =>
  cases ht : timeR now with
  | false =>
    have e1 : clR rate burst l now = (0, 0, [], 1) := by unfold clR; rw [hr, ht]; rfl
    rw [e1]
    simp only [hr] at il
    have IL := Lib.hid il
    have i2 := gjr.l05Time_calls now
    rw [ht] at i2
    have I2 := Lib.hid i2
    clear il hr e1 h hs i2 ht hn hl
    go_enter Try.func25, Try.ntmps25
    go_wp2_with fail
    generalize hW : ((w.alloc (.cells #[.int .i64 rate, .int .i64 burst, .slice ad n cap] 36)).alloc (.cells #[.int .i64 0, .int .i64 0, .slice none 0 0, .bool false, .int .i64 0] 41)) = W at Q
    obtain ⟨x0, x1, kW, zW⟩ := Q
    refine (IL.out W kW).mono ?_
    rintro e w1 ⟨rfl, hb⟩
    obtain ⟨q0, q1, q2, q3, q4, qz, qf⟩ := five (keptB x1 hb)
    have HB := Lib.hid (kW.trans (hb.mono kW.size))
    clear hb x0 x1 hW kW
    go_wp2_with fail
    refine (I2.out _).mono ?_
    rintro e w2 ⟨rfl, rfl⟩
    go_wp2_with fail
    refine bodyPost_ret (v := .agg #[.int .i64 0, .int .i64 0, .slice none 0 0, .bool false, .int .i64 1]) (by simp [results, Try.results25, go_sem, q0, q1, q2, q3, q4]) rfl ⟨_, rfl, ?_, .inl ⟨rfl, _, _, rfl⟩⟩
    exact ((((HB.out.setCell (by simp) _).setCell (by simp) _).setCell (by simp) _).setCell (by simp) _).setCell (by simp) _
  | true =>
    have e1 : clR rate burst l now = (rate, burst, cleanR rate burst l now, 0) := by unfold clR; rw [hr, ht]; rfl
    rw [e1]
    obtain ⟨hnum, hnd, hl6, r1, r2, b1, b2⟩ := nums_of hr
    obtain ⟨t0, t3⟩ : 0 ≤ now ∧ now ≤ 1000000 := by unfold timeR at ht; simpa using ht
    simp only [hr] at il
    have IL := Lib.hid il
    have i2 := gjr.l05Time_calls now
    rw [ht] at i2
    have I2 := Lib.hid i2
    have HNUM := Lib.hid hnum
    have H := Lib.hid h
    have hn6 : n ≤ 6 := by omega
    clear il hr e1 h hs i2 ht hn hl hl6 hnum hnd
    go_enter Try.func25, Try.ntmps25
    go_wp2_with fail
    generalize hW : ((w.alloc (.cells #[.int .i64 rate, .int .i64 burst, .slice ad n cap] 36)).alloc (.cells #[.int .i64 0, .int .i64 0, .slice none 0 0, .bool false, .int .i64 0] 41)) = W at Q
    obtain ⟨x0, x1, kW, zW⟩ := Q
    refine (IL.out W kW).mono ?_
    rintro e w1 ⟨rfl, hb⟩
    have X0 := keptB x0 hb
    obtain ⟨a0, a1, a2, az⟩ := three X0
    have HX0 := Lib.hid X0
    have HX1 := Lib.hid (keptB x1 hb)
    have HB := Lib.hid (kW.trans (hb.mono kW.size))
    have z1 := hb.size
    clear hb x0 x1 hW kW X0
    go_wp2_with fail
    refine (I2.out _).mono ?_
    rintro e w2 ⟨rfl, rfl⟩
    go_wp2_with fail
    go_loopw [6, 7, 22, 23, 24, 25, 26, 27, 28, 29, 30, 31, 32, 33, 34, 35, 36, 37, 38, 39, 40, 41, 42, 43, 44, 45, 46, 47, 48, 49, 50, 51, 52] (fun vk _ _ _ _ _ _ _ _ _ _ _ _ _ _ _ _ _ _ _ _ _ _ _ _ _ _ _ _ _ _ _ _ wr => ∃ (k : Nat) (v : Value), vk = .int .i64 (k : Nat) ∧ Sc rate burst now l w wr (.cells #[.int .i64 rate, .int .i64 burst, .slice ad n cap] 36) (.cells #[.int .i64 0, .int .i64 0, .slice none 0 0, .bool false, .int .i64 0] 41) w1.heap.size k v) (fun vk _ _ _ _ _ _ _ _ _ _ _ _ _ _ _ _ _ _ _ _ _ _ _ _ _ _ _ _ _ _ _ _ _ => n - (intOf vk).toNat)
    case atStart =>
      have k1 := new1 w1 (.cells #[.int .i64 rate, .int .i64 burst, .slice none 0 0] 36)
      refine ⟨0, _, rfl, by omega, Nat.zero_le _, HB.out.trans (k1.mono HB.out.size), by simp, keptB HX0.out k1, keptB HX1.out k1, heap_alloc_new w1 _, ?_⟩
      rw [List.take_zero]
      exact Bks.nil _ _
    case round =>
      obtain ⟨k, v, rfl, hL⟩ := hrel
      have hk : k ≤ n := by have := hL.le; have := HN.out; omega
      have HL := Lib.hid hL
      obtain ⟨p0, p1, p2, pz⟩ := three hL.x0
      clear hL a0 a1 a2
      by_cases hlt : k < n
      · have hk' : k < l.length := by have := HN.out; omega
        obtain ⟨x, hx⟩ : ∃ x, l[k]? = some x := ⟨_, List.getElem?_eq_getElem hk'⟩
        rcases H.out with ⟨h0, _⟩ | ⟨g, off, cap', e, hg, hc⟩
        · rw [h0] at hx; simp at hx
        cases e
        obtain ⟨q0, q1, q2⟩ := (hc k x hx).same (HL.out.bel.block g hg)
        obtain ⟨n1, n2, n3, n4, n5⟩ := HNUM.out x (List.mem_of_getElem? hx)
        have HX := Lib.hid hx
        clear hx hc
        have Q : (wr.alloc (.cells #[str x.st, .int .i64 x.left, .int .i64 x.at_] 71)).cell? ⟨wr.heap.size, 0, none⟩ = some (str x.st) ∧ (wr.alloc (.cells #[str x.st, .int .i64 x.left, .int .i64 x.at_] 71)).cell? ⟨wr.heap.size, 1, none⟩ = some (.int .i64 x.left) ∧ (wr.alloc (.cells #[str x.st, .int .i64 x.left, .int .i64 x.at_] 71)).cell? ⟨wr.heap.size, 2, none⟩ = some (.int .i64 x.at_) ∧
            (wr.alloc (.cells #[str x.st, .int .i64 x.left, .int .i64 x.at_] 71)).cell? ⟨w.heap.size, 0, none⟩ = some (.int .i64 rate) ∧ (wr.alloc (.cells #[str x.st, .int .i64 x.left, .int .i64 x.at_] 71)).cell? ⟨w.heap.size, 1, none⟩ = some (.int .i64 burst) ∧ (wr.alloc (.cells #[str x.st, .int .i64 x.left, .int .i64 x.at_] 71)).cell? ⟨w.heap.size, 2, none⟩ = some (.slice (some ⟨g, off, none⟩) l.length cap) ∧ Below wr.heap.size wr (wr.alloc (.cells #[str x.st, .int .i64 x.left, .int .i64 x.at_] 71)) := by
          have kW := new1 wr (.cells #[str x.st, .int .i64 x.left, .int .i64 x.at_] 71)
          refine ⟨by simp [go_sem], by simp [go_sem], by simp [go_sem], ?_, ?_, ?_, kW⟩
          · rw [kW.cell (p := ⟨w.heap.size, 0, none⟩) pz]; exact p0
          · rw [kW.cell (p := ⟨w.heap.size, 1, none⟩) pz]; exact p1
          · rw [kW.cell (p := ⟨w.heap.size, 2, none⟩) pz]; exact p2
        by_cases ht : now < x.at_
        · have dt : decide (now < x.at_) = true := decide_eq_true ht
          have HST := Lib.hid (show stays rate burst now x = true by unfold stays; simp [ht])
          have NW : Hid True := Lib.hid trivial
          go_wp2_with fail
          generalize hW : (wr.alloc (.cells #[str x.st, .int .i64 x.left, .int .i64 x.at_] 71)) = W at Q
          refine wp_region_quiet_below (by kernel_rfl) (by kernel_rfl) ?_
          obtain ⟨b0, b1, b2, l0, l1, l2, kW⟩ := Q
          have B0 := fun (d : Nat) (os : Array Obj) => cell_regrown (d := d) (os := os) b0
          have B1 := fun (d : Nat) (os : Array Obj) => cell_regrown (d := d) (os := os) b1
          have B2 := fun (d : Nat) (os : Array Obj) => cell_regrown (d := d) (os := os) b2
          have L0 := fun (d : Nat) (os : Array Obj) => cell_regrown (d := d) (os := os) l0
          have L1 := fun (d : Nat) (os : Array Obj) => cell_regrown (d := d) (os := os) l1
          have L2 := fun (d : Nat) (os : Array Obj) => cell_regrown (d := d) (os := os) l2
          iterate 5 (quiet_step (fail))
          iterate 8 (with_reducible refine wpQuiet_step (fun K hK => ?_); go_simp; (try rw [if_neg (by decide)]); with_reducible refine hK _ ?_; clear hK K)
          with_reducible refine wpQuiet_nil ?_
          rintro w2 ⟨⟨dq, osq⟩, hw2⟩
          have hb2 : Below W.heap.size W w2 := by rw [hw2]; exact below_regrown _ _ _
          have HB2 := Lib.hid (kW.trans (hb2.mono kW.size))
          have c0 : w2.cell? ⟨wr.heap.size, 0, none⟩ = some (str x.st) := by rw [hw2]; exact B0 _ _
          have c1 : w2.cell? ⟨wr.heap.size, 1, none⟩ = some (.int .i64 x.left) := by rw [hw2]; exact B1 _ _
          have c2 : w2.cell? ⟨wr.heap.size, 2, none⟩ = some (.int .i64 x.at_) := by rw [hw2]; exact B2 _ _
          clear hw2 hb2 hW b0 b1 b2 l0 l1 l2 B0 B1 B2 L0 L1 L2 kW
          have HSL := Lib.hid (HL.out.below HB2.out)
          have X2k := HSL.out.x2
          obtain ⟨o0, o1, o2, oz⟩ := three X2k
          have of : ∀ o, w2.frozen? ⟨w1.heap.size, o, none⟩ = false := fun o => by simp [World.frozen?, X2k]
          have hrl : ((l.take k).filter (stays rate burst now)).length + 1 ≤ 1000000 := by have := List.length_filter_le (stays rate burst now) (l.take k); rw [List.length_take] at this; omega
          have hB : w1.heap.size + 1 ≤ w2.heap.size := by have := HSL.out.big; omega
          clear X2k
          go_wp2_with (at_builtin; refine wp_putB (.tmp 48) (.tmp 50) x (w1.heap.size + 1) v _ rfl rfl rfl HSL.out.row rfl hrl hB ?_; intro v' w' hv' hb'; obtain ⟨va, vn, vc, rfl⟩ : ∃ a n c, v' = .slice a n c := ⟨_, _, _, hv'.wbk.rbk.form.choose_spec.choose_spec⟩; have HV' := Lib.hid hv'; have HB' := Lib.hid hb'; have o2' := (hb'.cell (p := ⟨w1.heap.size, 2, none⟩) (by simp)).trans o2; have of' := (hb'.frozen (p := ⟨w1.heap.size, 2, none⟩) (by simp)).trans (of 2); clear hv' hb')
          go_roundw
          case rel => exact ⟨k + 1, .slice va vn vc, rfl, HSL.out.put HX.out HST.out HB'.out HV'.out⟩
          case measure => simp [intOf]; omega
        · have dt : decide (now < x.at_) = false := decide_eq_false ht
          have nw := fun u W' => l05Now_calls rate burst now u x W' (by omega) r2 n2 (by omega) n4 (by omega) t3
          obtain ⟨y, hy⟩ : ∃ y, y = nowR rate burst x now := ⟨_, rfl⟩
          simp only [← hy] at nw
          unfold lmA bkA at nw
          have NW := Lib.hid (fun W' => nw (.slice (some ⟨g, off, none⟩) l.length cap) W')
          clear nw
          by_cases he : y < burst
          · have HST := Lib.hid (show stays rate burst now x = true by unfold stays; rw [← hy]; simp [he])
            have dv : decide (y < burst) = true := decide_eq_true he
            clear hy
            go_wp2_with fail
            generalize hW : (wr.alloc (.cells #[str x.st, .int .i64 x.left, .int .i64 x.at_] 71)) = W at Q
            refine wp_region_quiet_below (by kernel_rfl) (by kernel_rfl) ?_
            obtain ⟨b0, b1, b2, l0, l1, l2, kW⟩ := Q
            have B0 := fun (d : Nat) (os : Array Obj) => cell_regrown (d := d) (os := os) b0
            have B1 := fun (d : Nat) (os : Array Obj) => cell_regrown (d := d) (os := os) b1
            have B2 := fun (d : Nat) (os : Array Obj) => cell_regrown (d := d) (os := os) b2
            have L0 := fun (d : Nat) (os : Array Obj) => cell_regrown (d := d) (os := os) l0
            have L1 := fun (d : Nat) (os : Array Obj) => cell_regrown (d := d) (os := os) l1
            have L2 := fun (d : Nat) (os : Array Obj) => cell_regrown (d := d) (os := os) l2
            iterate 5 (quiet_step (exact Calls.regrown_of (NW.out _)))
            iterate 3 (with_reducible refine wpQuiet_step (fun K hK => ?_); go_simp; (try rw [if_neg (by decide)]); with_reducible refine hK _ ?_; clear hK K)
            quiet_step (exact Calls.regrown_of (NW.out _))
            iterate 4 (with_reducible refine wpQuiet_step (fun K hK => ?_); go_simp; (try rw [if_neg (by decide)]); with_reducible refine hK _ ?_; clear hK K)
            with_reducible refine wpQuiet_nil ?_
            rintro w2 ⟨⟨dq, osq⟩, hw2⟩
            have hb2 : Below W.heap.size W w2 := by rw [hw2]; exact below_regrown _ _ _
            have HB2 := Lib.hid (kW.trans (hb2.mono kW.size))
            have c0 : w2.cell? ⟨wr.heap.size, 0, none⟩ = some (str x.st) := by rw [hw2]; exact B0 _ _
            have c1 : w2.cell? ⟨wr.heap.size, 1, none⟩ = some (.int .i64 x.left) := by rw [hw2]; exact B1 _ _
            have c2 : w2.cell? ⟨wr.heap.size, 2, none⟩ = some (.int .i64 x.at_) := by rw [hw2]; exact B2 _ _
            clear hw2 hb2 hW b0 b1 b2 l0 l1 l2 B0 B1 B2 L0 L1 L2 kW
            have HSL := Lib.hid (HL.out.below HB2.out)
            have X2k := HSL.out.x2
            obtain ⟨o0, o1, o2, oz⟩ := three X2k
            have of : ∀ o, w2.frozen? ⟨w1.heap.size, o, none⟩ = false := fun o => by simp [World.frozen?, X2k]
            have hrl : ((l.take k).filter (stays rate burst now)).length + 1 ≤ 1000000 := by have := List.length_filter_le (stays rate burst now) (l.take k); rw [List.length_take] at this; omega
            have hB : w1.heap.size + 1 ≤ w2.heap.size := by have := HSL.out.big; omega
            clear X2k
            go_wp2_with (at_builtin; refine wp_putB (.tmp 48) (.tmp 50) x (w1.heap.size + 1) v _ rfl rfl rfl HSL.out.row rfl hrl hB ?_; intro v' w' hv' hb'; obtain ⟨va, vn, vc, rfl⟩ : ∃ a n c, v' = .slice a n c := ⟨_, _, _, hv'.wbk.rbk.form.choose_spec.choose_spec⟩; have HV' := Lib.hid hv'; have HB' := Lib.hid hb'; have o2' := (hb'.cell (p := ⟨w1.heap.size, 2, none⟩) (by simp)).trans o2; have of' := (hb'.frozen (p := ⟨w1.heap.size, 2, none⟩) (by simp)).trans (of 2); clear hv' hb')
            go_roundw
            case rel => exact ⟨k + 1, .slice va vn vc, rfl, HSL.out.put HX.out HST.out HB'.out HV'.out⟩
            case measure => simp [intOf]; omega
          · have HST := Lib.hid (show stays rate burst now x = false by unfold stays; rw [← hy]; simp; omega)
            have dv : decide (y < burst) = false := decide_eq_false he
            clear hy
            go_wp2_with fail
            generalize hW : (wr.alloc (.cells #[str x.st, .int .i64 x.left, .int .i64 x.at_] 71)) = W at Q
            refine wp_region_quiet_below (by kernel_rfl) (by kernel_rfl) ?_
            obtain ⟨b0, b1, b2, l0, l1, l2, kW⟩ := Q
            have B0 := fun (d : Nat) (os : Array Obj) => cell_regrown (d := d) (os := os) b0
            have B1 := fun (d : Nat) (os : Array Obj) => cell_regrown (d := d) (os := os) b1
            have B2 := fun (d : Nat) (os : Array Obj) => cell_regrown (d := d) (os := os) b2
            have L0 := fun (d : Nat) (os : Array Obj) => cell_regrown (d := d) (os := os) l0
            have L1 := fun (d : Nat) (os : Array Obj) => cell_regrown (d := d) (os := os) l1
            have L2 := fun (d : Nat) (os : Array Obj) => cell_regrown (d := d) (os := os) l2
            iterate 5 (quiet_step (exact Calls.regrown_of (NW.out _)))
            iterate 3 (with_reducible refine wpQuiet_step (fun K hK => ?_); go_simp; (try rw [if_neg (by decide)]); with_reducible refine hK _ ?_; clear hK K)
            quiet_step (exact Calls.regrown_of (NW.out _))
            iterate 4 (with_reducible refine wpQuiet_step (fun K hK => ?_); go_simp; (try rw [if_neg (by decide)]); with_reducible refine hK _ ?_; clear hK K)
            with_reducible refine wpQuiet_nil ?_
            rintro w2 ⟨⟨dq, osq⟩, hw2⟩
            have hb2 : Below W.heap.size W w2 := by rw [hw2]; exact below_regrown _ _ _
            have HB2 := Lib.hid (kW.trans (hb2.mono kW.size))
            have c0 : w2.cell? ⟨wr.heap.size, 0, none⟩ = some (str x.st) := by rw [hw2]; exact B0 _ _
            have c1 : w2.cell? ⟨wr.heap.size, 1, none⟩ = some (.int .i64 x.left) := by rw [hw2]; exact B1 _ _
            have c2 : w2.cell? ⟨wr.heap.size, 2, none⟩ = some (.int .i64 x.at_) := by rw [hw2]; exact B2 _ _
            clear hw2 hb2 hW b0 b1 b2 l0 l1 l2 B0 B1 B2 L0 L1 L2 kW
            go_wp2_with fail
            go_roundw
            case rel => exact ⟨k + 1, v, rfl, (HL.out.below HB2.out).pass HX.out HST.out⟩
            case measure => simp [intOf]; omega
      · obtain rfl : k = n := by omega
        obtain ⟨r0, r1', r2', r3, r4, rz, rf⟩ := five HL.out.x1
        obtain ⟨o0, o1, o2, oz⟩ := three HL.out.x2
        obtain ⟨va, vn, vc, rfl⟩ : ∃ a n c, v = .slice a n c := ⟨_, _, _, HL.out.row.wbk.rbk.form.choose_spec.choose_spec⟩
        go_wp2_with fail
        have hrow := HL.out.row
        rw [List.take_of_length_le (by have := HN.out; omega)] at hrow
        have hlo := HL.out.lo
        refine bodyPost_ret (v := .agg #[.int .i64 rate, .int .i64 burst, .slice va vn vc, .bool false, .int .i64 0]) (by simp [results, Try.results25, go_sem, r0, r1', r2', r3, r4]) rfl ⟨_, rfl, ?_, ?_⟩
        · exact ((((HL.out.bel.setCell (by simp) _).setCell (by simp) _).setCell (by simp) _).setCell (by simp) _).setCell (by simp) _
        · refine Wbk.base (B := w1.heap.size + 1) ?_ (by omega)
          exact Wbk.set (Wbk.set (Wbk.set (Wbk.set (Wbk.set hrow.wbk (by simp; omega) _) (by simp; omega) _) (by simp; omega) _) (by simp; omega) _) (by simp; omega) _
end Go.Proofs.Ytdikjmhnjlalbaa.gsc
