/- LetterRight of the program: the macs; all of it. -/
import Derived.Test.YtnlinlodgpbnlaaGreatLriq
namespace Go.Proofs.YtnlinlodgpbnlaaGreat.lri
open Go.RowKit Go.Proofs.YtnlinlodgpbnlaaGreat.tm Go.Proofs.YtnlinlodgpbnlaaGreat.lib Go.Proofs.YtnlinlodgpbnlaaGreat.rdr Go.Proofs.YtnlinlodgpbnlaaGreat.bld Go.Proofs.YtnlinlodgpbnlaaGreat.app Go.Proofs.YtnlinlodgpbnlaaGreat.mrk Go.Proofs.YtnlinlodgpbnlaaGreat.plf Go.Proofs.YtnlinlodgpbnlaaGreat.ltq Go.Proofs.YtnlinlodgpbnlaaGreat.ltv Go.Proofs.YtnlinlodgpbnlaaGreat.ltp Go.Proofs.YtnlinlodgpbnlaaGreat.prr Go.Proofs.YtnlinlodgpbnlaaGreat.kin
set_option linter.unusedVariables false

/-- The question of the macs. -/
def macsK (s : Bool) (a b : Bs) : Bool := if s then macsR a b else decide (a = []) && decide (b = [])

theorem ret_b {x y : Bool} (h : x = y) : Ending.returned (.bool x) = .returned (.bool y) := by rw [h]

/-- Is it empty, in the walk's words. -/
theorem e_yes {a : Bs} (h : a = []) : (a == []) = true ∧ a.isEmpty = true := by subst h; exact ⟨rfl, rfl⟩
theorem e_no {a : Bs} (h : a ≠ []) : (a == []) = false ∧ a.isEmpty = false := by cases a with | nil => exact absurd rfl h | cons x l => exact ⟨rfl, rfl⟩

set_option maxHeartbeats 1000000 in
set_option maxRecDepth 100000 in
theorem macs_calls (k f t c : Int) (v : Value) (a b : Bs) (kw : Bs) (kn : Nat) (ks : Bool) (f1 f2 f3 : Value) (w : World) (ha : a.length ≤ 4000000) (hb : b.length ≤ 4000000) :
    Calls Tryz.prog 177 #[.agg (wireV k f t c v a b), .agg (kindV kw kn ks f1 f2 f3)] w fun e w' => e = .returned (.bool (macsK ks a b)) ∧ Below w.heap.size w w' := by
  unfold wireV kindV macsK macsR
  have k0 : Below w.heap.size w ((w.alloc (.cells #[.int .i64 k, .int .i64 f, .int .i64 t, .int .i64 c, v, str a, str b] 121)).alloc (.cells #[str kw, .int .i64 kn, .bool ks, f1, f2, f3] 162)) := (new1 _ _).alloc (by simp) _
  have K0 := Lib.hid k0
  clear k0
  by_cases h1 : a = []
  · subst h1
    by_cases h2 : b = []
    · subst h2
      simp only [decide_true, Bool.and_self, if_true, ite_self]
      cases ks
      all_goals
        go_enter Tryz.func177, Tryz.ntmps177
        go_wp2_with fail
        go_ret
        exact ⟨rfl, K0.out⟩
    · obtain ⟨d1, d2⟩ := e_no h2
      simp only [decide_true, if_true, Bool.true_and, ite_self, decide_eq_false h2]
      clear h2
      cases ks
      all_goals
        go_enter Tryz.func177, Tryz.ntmps177
        go_wp2_with fail
        go_ret
        exact ⟨rfl, K0.out⟩
  · obtain ⟨d1, d2⟩ := e_no h1
    simp only [if_neg h1, decide_eq_false h1, Bool.false_and]
    clear h1
    cases ks with
    | false =>
      simp only [Bool.false_eq_true, if_false]
      go_enter Tryz.func177, Tryz.ntmps177
      go_wp2_with fail
      go_ret
      exact ⟨rfl, K0.out⟩
    | true =>
      simp only [if_true]
      cases hA : okT a with
      | false =>
        have c1 := fun w => iright_any a false hA ha w
        have C1 := Lib.hid c1
        simp only [Bool.false_and]
        clear c1 hA
        go_enter Tryz.func177, Tryz.ntmps177
        go_wp2_with fail
        refine (C1.out _).mono ?_
        rintro e w1 ⟨rfl, hb1⟩
        have HB1 := Lib.hid (K0.out.trans (hb1.mono K0.out.size))
        clear hb1
        go_wp2_with fail
        go_ret
        exact ⟨rfl, HB1.out⟩
      | true =>
        have c1 := fun w => iright_any a true hA ha w
        have C1 := Lib.hid c1
        simp only [Bool.true_and]
        clear c1 hA
        by_cases h2 : b = []
        · subst h2
          simp only [decide_true, Bool.true_or]
          go_enter Tryz.func177, Tryz.ntmps177
          go_wp2_with fail
          refine (C1.out _).mono ?_
          rintro e w1 ⟨rfl, hb1⟩
          obtain ⟨hq, hf⟩ := bcell hb1
          have HB1 := Lib.hid (K0.out.trans (hb1.mono K0.out.size))
          have z1 := hb1.size
          simp at z1
          clear hb1
          go_wp2_with fail
          go_ret
          exact ⟨rfl, HB1.out⟩
        · obtain ⟨d3, d4⟩ := e_no h2
          have c2 := fun w => iright_any b (okT b) rfl hb w
          have C2 := Lib.hid c2
          simp only [decide_eq_false h2, Bool.false_or]
          clear c2 h2
          obtain ⟨ob, hob⟩ : ∃ x, x = okT b := ⟨_, rfl⟩
          rw [← hob] at C2 ⊢
          clear hob
          go_enter Tryz.func177, Tryz.ntmps177
          go_wp2_with fail
          refine (C1.out _).mono ?_
          rintro e w1 ⟨rfl, hb1⟩
          obtain ⟨hq, hf⟩ := bcell hb1
          have HB1 := Lib.hid (K0.out.trans (hb1.mono K0.out.size))
          have z1 := hb1.size
          simp at z1
          clear hb1
          go_wp2_with fail
          refine (C2.out _).mono ?_
          rintro e w2 ⟨rfl, hb2⟩
          have HB2 := Lib.hid (HB1.out.trans (hb2.mono HB1.out.size))
          clear hb2 hq hf
          go_wp2_with fail
          go_ret
          exact ⟨rfl, HB2.out⟩

set_option maxHeartbeats 1000000 in
set_option maxRecDepth 100000 in
theorem parts_calls (k f t c : Int) (v : Value) (ps : List Bs) (a b : Bs) (kw : Bs) (kn : Nat) (ks : Bool) (f1 f2 f3 : Value) (w : World) (h : Rds w v ps) (hl : ps.length ≤ 2000000) (hx : ∀ x ∈ ps, x.length ≤ 4000000) (hkn : 1 ≤ kn) (hkm : kn ≤ 1000) :
    Calls Tryz.prog 176 #[.agg (wireV k f t c v a b), .agg (kindV kw kn ks f1 f2 f3)] w fun e w' => e = .returned (.bool (decide (ps.length = kn) && ps.all okT)) ∧ Below w.heap.size w w' := by
  by_cases he : ps.length = kn
  · subst he
    rcases h with ⟨rfl, _⟩ | ⟨g, off, cap, rfl, hg, hc⟩
    · simp at hkn
    · obtain ⟨zs, hz⟩ : ∃ zs : List (Sx fun x => x.length ≤ 4000000), zs.map Subtype.val = ps := ⟨ps.attachWith _ hx, by simp⟩
      subst hz
      rw [List.length_map] at hl ⊢
      have := partsRight_some k f t c g off cap a b _ (fun x h => h) zs hl kw ks f1 f2 f3 w hg (fun j x hj => hc j x.1 (by rw [List.getElem?_map, hj]; rfl))
      simp only [decide_true, Bool.true_and, List.all_map]
      exact this
  · have hv : ∃ ad cap, v = .slice ad ps.length cap := by
      rcases h with ⟨rfl, ad, cap, e⟩ | ⟨g, off, cap, e, _⟩
      · exact ⟨_, _, e⟩
      · exact ⟨_, _, e⟩
    obtain ⟨ad, cap, rfl⟩ := hv
    simp only [decide_eq_false he, Bool.false_and]
    obtain ⟨n, hn⟩ : ∃ n, n = ps.length := ⟨_, rfl⟩
    rw [← hn] at he hl ⊢
    have d1 : ((n : Int) == (kn : Int)) = false := by rw [beq_eq_false_iff_ne]; omega
    have d2 : ((n : Int) != (kn : Int)) = true := by rw [bne_iff_ne]; omega
    clear h hx hn he
    unfold wireV kindV
    go_enter Tryz.func176, Tryz.ntmps176
    go_wp2_with fail
    refine bodyPost_ret (v := .bool false) (by simp [results, Tryz.results176, go_sem]) rfl ⟨rfl, ?_⟩
    first | exact ((new1 _ _).alloc (by simp) _).alloc (by simp; omega) _ | exact (((new1 _ _).alloc (by simp) _).alloc (by simp; omega) _).setCell (by simp; omega) _

theorem kV_form (k : Int) (h : isK k = true) : ∃ kw n1 n2 n3, kV k = kindV kw (parts k) (signed k) (.func (.func n1) #[] #[]) (.func (.func n2) #[] #[]) (.func (.func n3) #[] #[]) := by
  have hn : k = 1 ∨ k = 2 ∨ k = 3 ∨ k = 4 := by unfold isK at h; simp at h; omega
  rcases hn with rfl | rfl | rfl | rfl <;> exact ⟨_, _, _, _, rfl⟩

theorem seven {w : World} {b : Nat} {v0 v1 v2 v3 v4 v5 v6 : Value} {t : TypeId} (h : w.heap[b]? = some (.cells #[v0, v1, v2, v3, v4, v5, v6] t (0, 0))) :
    w.cell? ⟨b, 0, none⟩ = some v0 ∧ w.cell? ⟨b, 1, none⟩ = some v1 ∧ w.cell? ⟨b, 2, none⟩ = some v2 ∧ w.cell? ⟨b, 3, none⟩ = some v3 ∧ w.cell? ⟨b, 4, none⟩ = some v4 ∧ w.cell? ⟨b, 5, none⟩ = some v5 ∧ w.cell? ⟨b, 6, none⟩ = some v6 ∧ b < w.heap.size := by
  refine ⟨?_, ?_, ?_, ?_, ?_, ?_, ?_, (Array.getElem?_eq_some_iff.1 h).1⟩ <;> (rw [cell_of_row w b _ _ t (0, 0) h]; rfl)
theorem six {w : World} {b : Nat} {v0 v1 v2 v3 v4 v5 : Value} {t : TypeId} (h : w.heap[b]? = some (.cells #[v0, v1, v2, v3, v4, v5] t (0, 0))) :
    w.cell? ⟨b, 0, none⟩ = some v0 ∧ w.cell? ⟨b, 1, none⟩ = some v1 ∧ w.cell? ⟨b, 2, none⟩ = some v2 ∧ w.cell? ⟨b, 3, none⟩ = some v3 ∧ w.cell? ⟨b, 4, none⟩ = some v4 ∧ w.cell? ⟨b, 5, none⟩ = some v5 ∧ b < w.heap.size := by
  refine ⟨?_, ?_, ?_, ?_, ?_, ?_, (Array.getElem?_eq_some_iff.1 h).1⟩ <;> (rw [cell_of_row w b _ _ t (0, 0) h]; rfl)
theorem keptB {W W' : World} {b : Nat} {o : Obj} (h : W.heap[b]? = some o) (k : Below W.heap.size W W') : W'.heap[b]? = some o :=
  (k.block b (Array.getElem?_eq_some_iff.1 h).1).trans h

theorem rds_form {w : World} {v : Value} {ls : List Bs} (h : Rds w v ls) : ∃ ad cap, v = .slice ad ls.length cap := by
  rcases h with ⟨rfl, ad, cap, e⟩ | ⟨g, off, cap, e, _⟩ <;> exact ⟨_, _, e⟩
theorem alloc2 (w : World) (a b : Obj) : ((w.alloc a).alloc b).heap[w.heap.size]? = some a ∧ ((w.alloc a).alloc b).heap[w.heap.size + 1]? = some b := by
  refine ⟨(Below.heap_alloc _ _ _ (by simp)).trans (heap_alloc_new w a), ?_⟩
  have := heap_alloc_new (w.alloc a) b
  rw [World.size_alloc] at this
  exact this

theorem right_eq (m : Lt) : right m = (isK m.k && numsK m.k m.f m.t m.c && (decide (m.ps.length = parts m.k) && m.ps.all okT) && macsK (signed m.k) m.a m.b) := rfl

def letV (m : Lt) (v : Value) : Array Value := wireV m.k m.f m.t m.c v m.a m.b

set_option maxHeartbeats 2000000 in
set_option maxRecDepth 100000 in
theorem implRight_calls (m : Lt) (v : Value) (w : World) (h : Rds w v m.ps) (hl : m.ps.length ≤ 2000000) (hx : ∀ x ∈ m.ps, x.length ≤ 4000000) (ha : m.a.length ≤ 4000000) (hb : m.b.length ≤ 4000000) :
    Calls Tryz.prog 149 #[.agg (letV m v)] w fun e w' => e = .returned (.bool (right m)) ∧ Below w.heap.size w w' := by
  obtain ⟨k, f, t, c, ps, a, b⟩ := m
  simp only at h hl hx ha hb
  rw [right_eq]
  unfold letV
  simp only
  cases hk : isK k with
  | false =>
    have c1 := fun w => kindOf_no k hk w
    unfold kV kindV at c1
    simp only [show ¬ (0 : Int) = 1 by decide, show ¬ (0 : Int) = 2 by decide, show ¬ (0 : Int) = 3 by decide, show ¬ (0 : Int) = 4 by decide, if_false] at c1
    have C1 := Lib.hid c1
    simp only [Bool.false_and]
    clear c1 hk h hl hx ha hb
    unfold wireV
    go_enter Tryz.func149, Tryz.ntmps149
    go_wp2_with fail
    refine (C1.out _).mono ?_
    rintro e w1 ⟨rfl, hb1⟩
    have HB1 := Lib.hid ((new1 _ _).trans (hb1.mono (by simp)))
    clear hb1
    go_wp2_with fail
    go_ret
    exact ⟨rfl, HB1.out.alloc HB1.out.size _⟩
  | true =>
    have c1 := fun w => kindOf_yes k hk w
    have c2 := fun w => nums_calls k f t c v a b w hk
    have hp := parts_pos k
    obtain ⟨kw, n1, n2, n3, hkv⟩ := kV_form k hk
    rw [hkv] at c1 c2
    have c3 := fun (w' : World) (hb' : Below w.heap.size w w') => parts_calls k f t c v ps a b kw (parts k) (signed k) (.func (.func n1) #[] #[]) (.func (.func n2) #[] #[]) (.func (.func n3) #[] #[]) w' (Rds.below h hb') hl hx hp.1 (by omega)
    have c4 := fun w => macs_calls k f t c v a b kw (parts k) (signed k) (.func (.func n1) #[] #[]) (.func (.func n2) #[] #[]) (.func (.func n3) #[] #[]) w ha hb
    simp only [Bool.true_and]
    obtain ⟨x, hxx⟩ : ∃ x, x = numsK k f t c := ⟨_, rfl⟩
    obtain ⟨y, hyy⟩ : ∃ y, y = (decide (ps.length = parts k) && ps.all okT) := ⟨_, rfl⟩
    obtain ⟨z, hzz⟩ : ∃ z, z = macsK (signed k) a b := ⟨_, rfl⟩
    simp only [← hxx] at c2 ⊢
    simp only [← hyy] at c3 ⊢
    simp only [← hzz] at c4 ⊢
    obtain ⟨kn, hkn⟩ : ∃ n, n = parts k := ⟨_, rfl⟩
    obtain ⟨ks, hks⟩ : ∃ n, n = signed k := ⟨_, rfl⟩
    rw [← hkn, ← hks] at c1 c2
    simp only [← hkn, ← hks] at c3 c4
    have C1 := Lib.hid c1
    have C2 := Lib.hid c2
    have C3 := Lib.hid c3
    have C4 := Lib.hid c4
    unfold wireV kindV at C2 C3 C4
    unfold kindV at C1
    clear c1 c2 c3 c4 hp hkv hxx hyy hzz hkn hks h hl hx ha hb hk
    unfold wireV
    cases x with
    | false =>
      go_enter Tryz.func149, Tryz.ntmps149
      go_wp2_with fail
      refine (C1.out _).mono ?_
      rintro e w1 ⟨rfl, hb1⟩
      have X1 := Lib.hid (keptB (heap_alloc_new w _) hb1)
      obtain ⟨p0, p1, p2, p3, p4, p5, p6, pz⟩ := seven X1.out
      have HB1 := Lib.hid ((new1 _ _).trans (hb1.mono (by simp)))
      clear hb1
      go_wp2_with fail
      refine (C2.out _).mono ?_
      rintro e w2 ⟨rfl, hb2⟩
      have X2 := Lib.hid (keptB (keptB X1.out (new1 w1 _)) hb2)
      have Y2 := Lib.hid (keptB (heap_alloc_new w1 (.cells #[str kw, .int .i64 kn, .bool ks, .func (.func n1) #[] #[], .func (.func n2) #[] #[], .func (.func n3) #[] #[]] 162)) hb2)
      have HB2 := Lib.hid ((HB1.out.alloc HB1.out.size (.cells #[str kw, .int .i64 kn, .bool ks, .func (.func n1) #[] #[], .func (.func n2) #[] #[], .func (.func n3) #[] #[]] 162)).trans (hb2.mono (by have := HB1.out.size; simp; omega)))
      clear hb2 p0 p1 p2 p3 p4 p5 p6 pz
      go_wp2_with fail
      go_ret
      exact ⟨rfl, HB2.out⟩
    | true =>
      cases y with
      | false =>
        go_enter Tryz.func149, Tryz.ntmps149
        go_wp2_with fail
        refine (C1.out _).mono ?_
        rintro e w1 ⟨rfl, hb1⟩
        have X1 := Lib.hid (keptB (heap_alloc_new w _) hb1)
        obtain ⟨p0, p1, p2, p3, p4, p5, p6, pz⟩ := seven X1.out
        have HB1 := Lib.hid ((new1 _ _).trans (hb1.mono (by simp)))
        clear hb1
        go_wp2_with fail
        refine (C2.out _).mono ?_
        rintro e w2 ⟨rfl, hb2⟩
        have X2 := Lib.hid (keptB (keptB X1.out (new1 w1 _)) hb2)
        have Y2 := Lib.hid (keptB (heap_alloc_new w1 (.cells #[str kw, .int .i64 kn, .bool ks, .func (.func n1) #[] #[], .func (.func n2) #[] #[], .func (.func n3) #[] #[]] 162)) hb2)
        have HB2 := Lib.hid ((HB1.out.alloc HB1.out.size (.cells #[str kw, .int .i64 kn, .bool ks, .func (.func n1) #[] #[], .func (.func n2) #[] #[], .func (.func n3) #[] #[]] 162)).trans (hb2.mono (by have := HB1.out.size; simp; omega)))
        clear hb2 p0 p1 p2 p3 p4 p5 p6 pz
        obtain ⟨p0, p1, p2, p3, p4, p5, p6, pz⟩ := seven X2.out
        obtain ⟨q0, q1, q2, q3, q4, q5, qz⟩ := six Y2.out
        go_wp2_with fail
        refine (C3.out _ HB2.out).mono ?_
        rintro e w3 ⟨rfl, hb3⟩
        have X3 := Lib.hid (keptB X2.out hb3)
        have Y3 := Lib.hid (keptB Y2.out hb3)
        have HB3 := Lib.hid (HB2.out.trans (hb3.mono HB2.out.size))
        clear hb3 p0 p1 p2 p3 p4 p5 p6 pz q0 q1 q2 q3 q4 q5 qz
        go_wp2_with fail
        go_ret
        exact ⟨rfl, HB3.out⟩
      | true =>
        go_enter Tryz.func149, Tryz.ntmps149
        go_wp2_with fail
        refine (C1.out _).mono ?_
        rintro e w1 ⟨rfl, hb1⟩
        have X1 := Lib.hid (keptB (heap_alloc_new w _) hb1)
        obtain ⟨p0, p1, p2, p3, p4, p5, p6, pz⟩ := seven X1.out
        have HB1 := Lib.hid ((new1 _ _).trans (hb1.mono (by simp)))
        clear hb1
        go_wp2_with fail
        refine (C2.out _).mono ?_
        rintro e w2 ⟨rfl, hb2⟩
        have X2 := Lib.hid (keptB (keptB X1.out (new1 w1 _)) hb2)
        have Y2 := Lib.hid (keptB (heap_alloc_new w1 (.cells #[str kw, .int .i64 kn, .bool ks, .func (.func n1) #[] #[], .func (.func n2) #[] #[], .func (.func n3) #[] #[]] 162)) hb2)
        have HB2 := Lib.hid ((HB1.out.alloc HB1.out.size (.cells #[str kw, .int .i64 kn, .bool ks, .func (.func n1) #[] #[], .func (.func n2) #[] #[], .func (.func n3) #[] #[]] 162)).trans (hb2.mono (by have := HB1.out.size; simp; omega)))
        clear hb2 p0 p1 p2 p3 p4 p5 p6 pz
        obtain ⟨p0, p1, p2, p3, p4, p5, p6, pz⟩ := seven X2.out
        obtain ⟨q0, q1, q2, q3, q4, q5, qz⟩ := six Y2.out
        go_wp2_with fail
        refine (C3.out _ HB2.out).mono ?_
        rintro e w3 ⟨rfl, hb3⟩
        have X3 := Lib.hid (keptB X2.out hb3)
        have Y3 := Lib.hid (keptB Y2.out hb3)
        have HB3 := Lib.hid (HB2.out.trans (hb3.mono HB2.out.size))
        clear hb3 p0 p1 p2 p3 p4 p5 p6 pz q0 q1 q2 q3 q4 q5 qz
        obtain ⟨p0, p1, p2, p3, p4, p5, p6, pz⟩ := seven X3.out
        obtain ⟨q0, q1, q2, q3, q4, q5, qz⟩ := six Y3.out
        go_wp2_with fail
        refine (C4.out _).mono ?_
        rintro e w4 ⟨rfl, hb4⟩
        have HB4 := Lib.hid (HB3.out.trans (hb4.mono HB3.out.size))
        clear hb4 p0 p1 p2 p3 p4 p5 p6 pz q0 q1 q2 q3 q4 q5 qz
        go_wp2_with fail
        go_ret
        exact ⟨rfl, HB4.out⟩
end Go.Proofs.YtnlinlodgpbnlaaGreat.lri
