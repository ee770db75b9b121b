/- Several small texts, one behind the other. -/
import Derived.Test.YtdikjmhnjlalbaaGreatLriq
import Derived.Test.YtdikjmhnjlalbaaGreatMksq
import Derived.Test.YtdikjmhnjlalbaaGreatQg
import Derived.Test.YtdikjmhnjlalbaaGreatQj
import Derived.Test.YtdikjmhnjlalbaaGreatQk
import Derived.Test.YtdikjmhnjlalbaaGreatQl
import Derived.Test.YtdikjmhnjlalbaaGreatQe

/- LetterRight of the program: the macs; all of it. -/
namespace Go.Proofs.YtdikjmhnjlalbaaGreat.lri
open Go.RowKit Go.Proofs.YtdikjmhnjlalbaaGreat.tm Go.Proofs.YtdikjmhnjlalbaaGreat.lib Go.Proofs.YtdikjmhnjlalbaaGreat.rdr Go.Proofs.YtdikjmhnjlalbaaGreat.bld Go.Proofs.YtdikjmhnjlalbaaGreat.app Go.Proofs.YtdikjmhnjlalbaaGreat.mrk Go.Proofs.YtdikjmhnjlalbaaGreat.plf Go.Proofs.YtdikjmhnjlalbaaGreat.ltq Go.Proofs.YtdikjmhnjlalbaaGreat.ltv Go.Proofs.YtdikjmhnjlalbaaGreat.ltp Go.Proofs.YtdikjmhnjlalbaaGreat.prr Go.Proofs.YtdikjmhnjlalbaaGreat.kin
set_option linter.unusedVariables false

/-- The question of the macs. -/
def macsK (s : Bool) (a b : Bs) : Bool := if s then macsR a b else decide (a = []) && decide (b = [])

theorem ret_b {x y : Bool} (h : x = y) : Ending.returned (.bool x) = .returned (.bool y) := by rw [h]

/-- Is it empty, in the walk's words. -/
theorem e_yes {a : Bs} (h : a = []) : (a == []) = true ∧ a.isEmpty = true := by subst h; exact ⟨rfl, rfl⟩
theorem e_no {a : Bs} (h : a ≠ []) : (a == []) = false ∧ a.isEmpty = false := by cases a with | nil => exact absurd rfl h | cons x l => exact ⟨rfl, rfl⟩

set_option maxHeartbeats 1000000 in
set_option maxRecDepth 100000 in
theorem macs_calls (k f t c : Int) (v : Value) (a b : Bs) (kw : Bs) (kn : Nat) (ks : Bool) (f1 f2 f3 : Value) (w : World) (ha : a.length ≤ 4000000) (hb : b.length ≤ 4000000) :
    Calls Tryz.prog 40 #[.agg (wireV k f t c v a b), .agg (kindV kw kn ks f1 f2 f3)] w fun e w' => e = .returned (.bool (macsK ks a b)) ∧ Below w.heap.size w w' := by
  unfold wireV kindV macsK macsR
  have k0 : Below w.heap.size w ((w.alloc (.cells #[.int .i64 k, .int .i64 f, .int .i64 t, .int .i64 c, v, str a, str b] 59)).alloc (.cells #[str kw, .int .i64 kn, .bool ks, f1, f2, f3] 56)) := (new1 _ _).alloc (by simp) _
  have K0 := Lib.hid k0
  clear k0
  by_cases h1 : a = []
  · subst h1
    by_cases h2 : b = []
    · subst h2
      simp only [decide_true, Bool.and_self, if_true, ite_self]
      cases ks
      all_goals
        go_enter Tryz.func40, Tryz.ntmps40
        go_wp2_with fail
        go_ret
        exact ⟨rfl, K0.out⟩
    · obtain ⟨d1, d2⟩ := e_no h2
      simp only [decide_true, if_true, Bool.true_and, ite_self, decide_eq_false h2]
      clear h2
      cases ks
      all_goals
        go_enter Tryz.func40, Tryz.ntmps40
        go_wp2_with fail
        go_ret
        exact ⟨rfl, K0.out⟩
  · obtain ⟨d1, d2⟩ := e_no h1
    simp only [if_neg h1, decide_eq_false h1, Bool.false_and]
    clear h1
    cases ks with
    | false =>
      simp only [Bool.false_eq_true, if_false]
      go_enter Tryz.func40, Tryz.ntmps40
      go_wp2_with fail
      go_ret
      exact ⟨rfl, K0.out⟩
    | true =>
      simp only [if_true]
      cases hA : okT a with
      | false =>
        have c1 := fun w => iright_any a false hA ha w
        have C1 := Lib.hid c1
        simp only [Bool.false_and]
        clear c1 hA
        go_enter Tryz.func40, Tryz.ntmps40
        go_wp2_with fail
        refine (C1.out _).mono ?_
        rintro e w1 ⟨rfl, hb1⟩
        have HB1 := Lib.hid (K0.out.trans (hb1.mono K0.out.size))
        clear hb1
        go_wp2_with fail
        go_ret
        exact ⟨rfl, HB1.out⟩
      | true =>
        have c1 := fun w => iright_any a true hA ha w
        have C1 := Lib.hid c1
        simp only [Bool.true_and]
        clear c1 hA
        by_cases h2 : b = []
        · subst h2
          simp only [decide_true, Bool.true_or]
          go_enter Tryz.func40, Tryz.ntmps40
          go_wp2_with fail
          refine (C1.out _).mono ?_
          rintro e w1 ⟨rfl, hb1⟩
          obtain ⟨hq, hf⟩ := bcell hb1
          have HB1 := Lib.hid (K0.out.trans (hb1.mono K0.out.size))
          have z1 := hb1.size
          simp at z1
          clear hb1
          go_wp2_with fail
          go_ret
          exact ⟨rfl, HB1.out⟩
        · obtain ⟨d3, d4⟩ := e_no h2
          have c2 := fun w => iright_any b (okT b) rfl hb w
          have C2 := Lib.hid c2
          simp only [decide_eq_false h2, Bool.false_or]
          clear c2 h2
          obtain ⟨ob, hob⟩ : ∃ x, x = okT b := ⟨_, rfl⟩
          rw [← hob] at C2 ⊢
          clear hob
          go_enter Tryz.func40, Tryz.ntmps40
          go_wp2_with fail
          refine (C1.out _).mono ?_
          rintro e w1 ⟨rfl, hb1⟩
          obtain ⟨hq, hf⟩ := bcell hb1
          have HB1 := Lib.hid (K0.out.trans (hb1.mono K0.out.size))
          have z1 := hb1.size
          simp at z1
          clear hb1
          go_wp2_with fail
          refine (C2.out _).mono ?_
          rintro e w2 ⟨rfl, hb2⟩
          have HB2 := Lib.hid (HB1.out.trans (hb2.mono HB1.out.size))
          clear hb2 hq hf
          go_wp2_with fail
          go_ret
          exact ⟨rfl, HB2.out⟩

set_option maxHeartbeats 1000000 in
set_option maxRecDepth 100000 in
theorem parts_calls (k f t c : Int) (v : Value) (ps : List Bs) (a b : Bs) (kw : Bs) (kn : Nat) (ks : Bool) (f1 f2 f3 : Value) (w : World) (h : Rds w v ps) (hl : ps.length ≤ 2000000) (hx : ∀ x ∈ ps, x.length ≤ 4000000) (hkn : 1 ≤ kn) (hkm : kn ≤ 1000) :
    Calls Tryz.prog 39 #[.agg (wireV k f t c v a b), .agg (kindV kw kn ks f1 f2 f3)] w fun e w' => e = .returned (.bool (decide (ps.length = kn) && ps.all okT)) ∧ Below w.heap.size w w' := by
  by_cases he : ps.length = kn
  · subst he
    rcases h with ⟨rfl, _⟩ | ⟨g, off, cap, rfl, hg, hc⟩
    · simp at hkn
    · obtain ⟨zs, hz⟩ : ∃ zs : List (Sx fun x => x.length ≤ 4000000), zs.map Subtype.val = ps := ⟨ps.attachWith _ hx, by simp⟩
      subst hz
      rw [List.length_map] at hl ⊢
      have := partsRight_some k f t c g off cap a b _ (fun x h => h) zs hl kw ks f1 f2 f3 w hg (fun j x hj => hc j x.1 (by rw [List.getElem?_map, hj]; rfl))
      simp only [decide_true, Bool.true_and, List.all_map]
      exact this
  · have hv : ∃ ad cap, v = .slice ad ps.length cap := by
      rcases h with ⟨rfl, ad, cap, e⟩ | ⟨g, off, cap, e, _⟩
      · exact ⟨_, _, e⟩
      · exact ⟨_, _, e⟩
    obtain ⟨ad, cap, rfl⟩ := hv
    simp only [decide_eq_false he, Bool.false_and]
    obtain ⟨n, hn⟩ : ∃ n, n = ps.length := ⟨_, rfl⟩
    rw [← hn] at he hl ⊢
    have d1 : ((n : Int) == (kn : Int)) = false := by rw [beq_eq_false_iff_ne]; omega
    have d2 : ((n : Int) != (kn : Int)) = true := by rw [bne_iff_ne]; omega
    clear h hx hn he
    unfold wireV kindV
    go_enter Tryz.func39, Tryz.ntmps39
    go_wp2_with fail
    refine bodyPost_ret (v := .bool false) (by simp [results, Tryz.results39, go_sem]) rfl ⟨rfl, ?_⟩
    first | exact ((new1 _ _).alloc (by simp) _).alloc (by simp; omega) _ | exact (((new1 _ _).alloc (by simp) _).alloc (by simp; omega) _).setCell (by simp; omega) _

theorem kV_form (k : Int) (h : isK k = true) : ∃ kw n1 n2 n3, kV k = kindV kw (parts k) (signed k) (.func (.func n1) #[] #[]) (.func (.func n2) #[] #[]) (.func (.func n3) #[] #[]) := by
  have hn : k = 1 ∨ k = 2 ∨ k = 3 ∨ k = 4 := by unfold isK at h; simp at h; omega
  rcases hn with rfl | rfl | rfl | rfl <;> exact ⟨_, _, _, _, rfl⟩

theorem seven {w : World} {b : Nat} {v0 v1 v2 v3 v4 v5 v6 : Value} {t : TypeId} (h : w.heap[b]? = some (.cells #[v0, v1, v2, v3, v4, v5, v6] t (0, 0))) :
    w.cell? ⟨b, 0, none⟩ = some v0 ∧ w.cell? ⟨b, 1, none⟩ = some v1 ∧ w.cell? ⟨b, 2, none⟩ = some v2 ∧ w.cell? ⟨b, 3, none⟩ = some v3 ∧ w.cell? ⟨b, 4, none⟩ = some v4 ∧ w.cell? ⟨b, 5, none⟩ = some v5 ∧ w.cell? ⟨b, 6, none⟩ = some v6 ∧ b < w.heap.size := by
  refine ⟨?_, ?_, ?_, ?_, ?_, ?_, ?_, (Array.getElem?_eq_some_iff.1 h).1⟩ <;> (rw [cell_of_row w b _ _ t (0, 0) h]; rfl)
theorem six {w : World} {b : Nat} {v0 v1 v2 v3 v4 v5 : Value} {t : TypeId} (h : w.heap[b]? = some (.cells #[v0, v1, v2, v3, v4, v5] t (0, 0))) :
    w.cell? ⟨b, 0, none⟩ = some v0 ∧ w.cell? ⟨b, 1, none⟩ = some v1 ∧ w.cell? ⟨b, 2, none⟩ = some v2 ∧ w.cell? ⟨b, 3, none⟩ = some v3 ∧ w.cell? ⟨b, 4, none⟩ = some v4 ∧ w.cell? ⟨b, 5, none⟩ = some v5 ∧ b < w.heap.size := by
  refine ⟨?_, ?_, ?_, ?_, ?_, ?_, (Array.getElem?_eq_some_iff.1 h).1⟩ <;> (rw [cell_of_row w b _ _ t (0, 0) h]; rfl)
theorem keptB {W W' : World} {b : Nat} {o : Obj} (h : W.heap[b]? = some o) (k : Below W.heap.size W W') : W'.heap[b]? = some o :=
  (k.block b (Array.getElem?_eq_some_iff.1 h).1).trans h

theorem rds_form {w : World} {v : Value} {ls : List Bs} (h : Rds w v ls) : ∃ ad cap, v = .slice ad ls.length cap := by
  rcases h with ⟨rfl, ad, cap, e⟩ | ⟨g, off, cap, e, _⟩ <;> exact ⟨_, _, e⟩
theorem alloc2 (w : World) (a b : Obj) : ((w.alloc a).alloc b).heap[w.heap.size]? = some a ∧ ((w.alloc a).alloc b).heap[w.heap.size + 1]? = some b := by
  refine ⟨(Below.heap_alloc _ _ _ (by simp)).trans (heap_alloc_new w a), ?_⟩
  have := heap_alloc_new (w.alloc a) b
  rw [World.size_alloc] at this
  exact this

theorem right_eq (m : Lt) : right m = (isK m.k && numsK m.k m.f m.t m.c && (decide (m.ps.length = parts m.k) && m.ps.all okT) && macsK (signed m.k) m.a m.b) := rfl

def letV (m : Lt) (v : Value) : Array Value := wireV m.k m.f m.t m.c v m.a m.b

set_option maxHeartbeats 2000000 in
set_option maxRecDepth 100000 in
theorem implRight_calls (m : Lt) (v : Value) (w : World) (h : Rds w v m.ps) (hl : m.ps.length ≤ 2000000) (hx : ∀ x ∈ m.ps, x.length ≤ 4000000) (ha : m.a.length ≤ 4000000) (hb : m.b.length ≤ 4000000) :
    Calls Tryz.prog 21 #[.agg (letV m v)] w fun e w' => e = .returned (.bool (right m)) ∧ Below w.heap.size w w' := by
  obtain ⟨k, f, t, c, ps, a, b⟩ := m
  simp only at h hl hx ha hb
  rw [right_eq]
  unfold letV
  simp only
  cases hk : isK k with
  | false =>
    have c1 := fun w => kindOf_no k hk w
    unfold kV kindV at c1
    simp only [show ¬ (0 : Int) = 1 by decide, show ¬ (0 : Int) = 2 by decide, show ¬ (0 : Int) = 3 by decide, show ¬ (0 : Int) = 4 by decide, if_false] at c1
    have C1 := Lib.hid c1
    simp only [Bool.false_and]
    clear c1 hk h hl hx ha hb
    unfold wireV
    go_enter Tryz.func21, Tryz.ntmps21
    go_wp2_with fail
    refine (C1.out _).mono ?_
    rintro e w1 ⟨rfl, hb1⟩
    have HB1 := Lib.hid ((new1 _ _).trans (hb1.mono (by simp)))
    clear hb1
    go_wp2_with fail
    go_ret
    exact ⟨rfl, HB1.out.alloc HB1.out.size _⟩
  | true =>
    have c1 := fun w => kindOf_yes k hk w
    have c2 := fun w => nums_calls k f t c v a b w hk
    have hp := parts_pos k
    obtain ⟨kw, n1, n2, n3, hkv⟩ := kV_form k hk
    rw [hkv] at c1 c2
    have c3 := fun (w' : World) (hb' : Below w.heap.size w w') => parts_calls k f t c v ps a b kw (parts k) (signed k) (.func (.func n1) #[] #[]) (.func (.func n2) #[] #[]) (.func (.func n3) #[] #[]) w' (Rds.below h hb') hl hx hp.1 (by omega)
    have c4 := fun w => macs_calls k f t c v a b kw (parts k) (signed k) (.func (.func n1) #[] #[]) (.func (.func n2) #[] #[]) (.func (.func n3) #[] #[]) w ha hb
    simp only [Bool.true_and]
    obtain ⟨x, hxx⟩ : ∃ x, x = numsK k f t c := ⟨_, rfl⟩
    obtain ⟨y, hyy⟩ : ∃ y, y = (decide (ps.length = parts k) && ps.all okT) := ⟨_, rfl⟩
    obtain ⟨z, hzz⟩ : ∃ z, z = macsK (signed k) a b := ⟨_, rfl⟩
    simp only [← hxx] at c2 ⊢
    simp only [← hyy] at c3 ⊢
    simp only [← hzz] at c4 ⊢
    obtain ⟨kn, hkn⟩ : ∃ n, n = parts k := ⟨_, rfl⟩
    obtain ⟨ks, hks⟩ : ∃ n, n = signed k := ⟨_, rfl⟩
    rw [← hkn, ← hks] at c1 c2
    simp only [← hkn, ← hks] at c3 c4
    have C1 := Lib.hid c1
    have C2 := Lib.hid c2
    have C3 := Lib.hid c3
    have C4 := Lib.hid c4
    unfold wireV kindV at C2 C3 C4
    unfold kindV at C1
    clear c1 c2 c3 c4 hp hkv hxx hyy hzz hkn hks h hl hx ha hb hk
    unfold wireV
    cases x with
    | false =>
      go_enter Tryz.func21, Tryz.ntmps21
      go_wp2_with fail
      refine (C1.out _).mono ?_
      rintro e w1 ⟨rfl, hb1⟩
      have X1 := Lib.hid (keptB (heap_alloc_new w _) hb1)
      obtain ⟨p0, p1, p2, p3, p4, p5, p6, pz⟩ := seven X1.out
      have HB1 := Lib.hid ((new1 _ _).trans (hb1.mono (by simp)))
      clear hb1
      go_wp2_with fail
      refine (C2.out _).mono ?_
      rintro e w2 ⟨rfl, hb2⟩
      have X2 := Lib.hid (keptB (keptB X1.out (new1 w1 _)) hb2)
      have Y2 := Lib.hid (keptB (heap_alloc_new w1 (.cells #[str kw, .int .i64 kn, .bool ks, .func (.func n1) #[] #[], .func (.func n2) #[] #[], .func (.func n3) #[] #[]] 56)) hb2)
      have HB2 := Lib.hid ((HB1.out.alloc HB1.out.size (.cells #[str kw, .int .i64 kn, .bool ks, .func (.func n1) #[] #[], .func (.func n2) #[] #[], .func (.func n3) #[] #[]] 56)).trans (hb2.mono (by have := HB1.out.size; simp; omega)))
      clear hb2 p0 p1 p2 p3 p4 p5 p6 pz
      go_wp2_with fail
      go_ret
      exact ⟨rfl, HB2.out⟩
    | true =>
      cases y with
      | false =>
        go_enter Tryz.func21, Tryz.ntmps21
        go_wp2_with fail
        refine (C1.out _).mono ?_
        rintro e w1 ⟨rfl, hb1⟩
        have X1 := Lib.hid (keptB (heap_alloc_new w _) hb1)
        obtain ⟨p0, p1, p2, p3, p4, p5, p6, pz⟩ := seven X1.out
        have HB1 := Lib.hid ((new1 _ _).trans (hb1.mono (by simp)))
        clear hb1
        go_wp2_with fail
        refine (C2.out _).mono ?_
        rintro e w2 ⟨rfl, hb2⟩
        have X2 := Lib.hid (keptB (keptB X1.out (new1 w1 _)) hb2)
        have Y2 := Lib.hid (keptB (heap_alloc_new w1 (.cells #[str kw, .int .i64 kn, .bool ks, .func (.func n1) #[] #[], .func (.func n2) #[] #[], .func (.func n3) #[] #[]] 56)) hb2)
        have HB2 := Lib.hid ((HB1.out.alloc HB1.out.size (.cells #[str kw, .int .i64 kn, .bool ks, .func (.func n1) #[] #[], .func (.func n2) #[] #[], .func (.func n3) #[] #[]] 56)).trans (hb2.mono (by have := HB1.out.size; simp; omega)))
        clear hb2 p0 p1 p2 p3 p4 p5 p6 pz
        obtain ⟨p0, p1, p2, p3, p4, p5, p6, pz⟩ := seven X2.out
        obtain ⟨q0, q1, q2, q3, q4, q5, qz⟩ := six Y2.out
        go_wp2_with fail
        refine (C3.out _ HB2.out).mono ?_
        rintro e w3 ⟨rfl, hb3⟩
        have X3 := Lib.hid (keptB X2.out hb3)
        have Y3 := Lib.hid (keptB Y2.out hb3)
        have HB3 := Lib.hid (HB2.out.trans (hb3.mono HB2.out.size))
        clear hb3 p0 p1 p2 p3 p4 p5 p6 pz q0 q1 q2 q3 q4 q5 qz
        go_wp2_with fail
        go_ret
        exact ⟨rfl, HB3.out⟩
      | true =>
        go_enter Tryz.func21, Tryz.ntmps21
        go_wp2_with fail
        refine (C1.out _).mono ?_
        rintro e w1 ⟨rfl, hb1⟩
        have X1 := Lib.hid (keptB (heap_alloc_new w _) hb1)
        obtain ⟨p0, p1, p2, p3, p4, p5, p6, pz⟩ := seven X1.out
        have HB1 := Lib.hid ((new1 _ _).trans (hb1.mono (by simp)))
        clear hb1
        go_wp2_with fail
        refine (C2.out _).mono ?_
        rintro e w2 ⟨rfl, hb2⟩
        have X2 := Lib.hid (keptB (keptB X1.out (new1 w1 _)) hb2)
        have Y2 := Lib.hid (keptB (heap_alloc_new w1 (.cells #[str kw, .int .i64 kn, .bool ks, .func (.func n1) #[] #[], .func (.func n2) #[] #[], .func (.func n3) #[] #[]] 56)) hb2)
        have HB2 := Lib.hid ((HB1.out.alloc HB1.out.size (.cells #[str kw, .int .i64 kn, .bool ks, .func (.func n1) #[] #[], .func (.func n2) #[] #[], .func (.func n3) #[] #[]] 56)).trans (hb2.mono (by have := HB1.out.size; simp; omega)))
        clear hb2 p0 p1 p2 p3 p4 p5 p6 pz
        obtain ⟨p0, p1, p2, p3, p4, p5, p6, pz⟩ := seven X2.out
        obtain ⟨q0, q1, q2, q3, q4, q5, qz⟩ := six Y2.out
        go_wp2_with fail
        refine (C3.out _ HB2.out).mono ?_
        rintro e w3 ⟨rfl, hb3⟩
        have X3 := Lib.hid (keptB X2.out hb3)
        have Y3 := Lib.hid (keptB Y2.out hb3)
        have HB3 := Lib.hid (HB2.out.trans (hb3.mono HB2.out.size))
        clear hb3 p0 p1 p2 p3 p4 p5 p6 pz q0 q1 q2 q3 q4 q5 qz
        obtain ⟨p0, p1, p2, p3, p4, p5, p6, pz⟩ := seven X3.out
        obtain ⟨q0, q1, q2, q3, q4, q5, qz⟩ := six Y3.out
        go_wp2_with fail
        refine (C4.out _).mono ?_
        rintro e w4 ⟨rfl, hb4⟩
        have HB4 := Lib.hid (HB3.out.trans (hb4.mono HB3.out.size))
        clear hb4 p0 p1 p2 p3 p4 p5 p6 pz q0 q1 q2 q3 q4 q5 qz
        go_wp2_with fail
        go_ret
        exact ⟨rfl, HB4.out⟩
end Go.Proofs.YtdikjmhnjlalbaaGreat.lri

/- Contract of Make of the program. -/
namespace Go.Proofs.YtdikjmhnjlalbaaGreat.imk
open Go.RowKit Go.Proofs.YtdikjmhnjlalbaaGreat.tm Go.Proofs.YtdikjmhnjlalbaaGreat.spm Go.Proofs.YtdikjmhnjlalbaaGreat.lib Go.Proofs.YtdikjmhnjlalbaaGreat.rdr Go.Proofs.YtdikjmhnjlalbaaGreat.bld Go.Proofs.YtdikjmhnjlalbaaGreat.app Go.Proofs.YtdikjmhnjlalbaaGreat.grd Go.Proofs.YtdikjmhnjlalbaaGreat.txo Go.Proofs.YtdikjmhnjlalbaaGreat.sop Go.Proofs.YtdikjmhnjlalbaaGreat.iop Go.Proofs.YtdikjmhnjlalbaaGreat.mkp Go.Proofs.YtdikjmhnjlalbaaGreat.rts Go.Proofs.YtdikjmhnjlalbaaGreat.mks Go.Proofs.YtdikjmhnjlalbaaGreat.mrk Go.Proofs.YtdikjmhnjlalbaaGreat.its
set_option linter.unusedVariables false

theorem terms_mem : ∀ (l : List Bs) (Ts : List Tm), terms l = some Ts → ∀ k ∈ Ts, k.tx.length ≤ 3000 ∧ k.deep ≤ 24
  | [], Ts, h, k, hk => by simp [terms] at h; subst h; cases hk
  | a :: l, Ts, h, k, hk => by
    rw [terms_cons] at h
    cases ha : term a with
    | none => rw [ha] at h; cases h
    | some T =>
      rw [ha] at h
      cases hl : terms l with
      | none => rw [hl] at h; cases h
      | some Us =>
        rw [hl] at h
        cases h
        rcases List.mem_cons.1 hk with rfl | hk
        · obtain ⟨h1, _, h2, h3⟩ := term_some.1 ha
          exact ⟨by rw [h3]; exact h1, h2⟩
        · exact terms_mem l Us hl k hk

theorem made_bound {op : Bs} {Ts : List Tm} {T : Tm} (h : build op Ts = some T) (hk : ∀ k ∈ Ts, k.tx.length ≤ 3000 ∧ k.deep ≤ 24) : T.tx.length ≤ 7000 ∧ T.deep ≤ 25 := by
  obtain ⟨h1, h2, h3, h4⟩ := build_some h
  subst h3
  cases T <;> first | (simp [Tm.isAtom] at h1; done) | (simp [Tm.kids] at hk; simp [Tm.tx, Tm.deep, say, oPair, oHash, oMac, oShut, oPub, oDh] at hk ⊢; omega)

theorem tms_base {w : World} {B B' : Nat} {v : Value} {ts : List Tm} (h : Tms w B v ts) (hB : B' ≤ B) : Tms w B' v ts := by
  obtain ⟨h1, h⟩ := h
  refine ⟨h1, ?_⟩
  rcases h with hn | ⟨g, cap, cur, hv, hbg, rest⟩
  · exact .inl hn
  · exact .inr ⟨g, cap, cur, hv, Nat.le_trans hB hbg, rest⟩

theorem Strs.set {w : World} {B b : Nat} {v x : Value} {ls : List Bs} (h : Strs w B v ls) (hb : b < B) : Strs (w.setCell ⟨b, 0, none⟩ x) B v ls :=
  own_kept h fun g hg _ => Below.heap_setCell _ _ _ g (by show g ≠ b; omega)

theorem sorted_b (b : Nat) (v : Value) (zs : List Bs) (hl : zs.length ≤ 1000000) (w : World) (hb : b = w.heap.size) (h : Rds w v zs) :
    Calls Tryz.prog 72 #[.func (.func 87) #[] #[.pointer (some ⟨b, 0, none⟩)]] (w.alloc (.cells #[v] 24)) fun e w' => ∃ v', e = .returned v' ∧ Strs w' w.heap.size v' (srt zs) ∧ Below w.heap.size w w' := by
  subst hb
  exact sorted_at v zs hl w h

theorem strs_slice {w : World} {B : Nat} {v : Value} {ls : List Bs} (h : Strs w B v ls) : ∃ a c, v = .slice a ls.length c := by
  rcases mrs.Strs.wrs h with ⟨rfl, a, c, e⟩ | ⟨g, off, cap, e, _⟩
  · exact ⟨a, c, e⟩
  · exact ⟨_, _, e⟩

theorem rt_slice {w : World} {B : Nat} {v : Value} {ts : List Tm} (h : Tms w B v ts) : ∃ a n c, v = .slice a n c := by
  rcases Tms.len h with ⟨e, _⟩ | ⟨g, cap, e⟩ <;> exact ⟨_, _, _, e⟩

theorem clos_all (p q : Nat) (op : Bs) (ad : Option Addr) (n cap : Nat) (ls : List Bs) (w : World) (c0 : w.cell? ⟨p, 0, none⟩ = some (str op)) (c1 : w.cell? ⟨q, 0, none⟩ = some (.slice ad n cap)) (hp : p < w.heap.size) (hq : q < w.heap.size)
    (hn : n = ls.length) (h : Rds w (.slice ad n cap) ls) (hl : ls.length ≤ 400) (hs : ∀ x ∈ ls, x.length ≤ 4000000) :
    Calls Tryz.prog 75 #[.pointer (some ⟨p, 0, none⟩), .pointer (some ⟨q, 0, none⟩)] w (OEnd (implR op ls).1 (implR op ls).2 w) := by
  have r1 := fun (w1 : World) (hb : Below w.heap.size w w1) => readTerms_calls ad n cap ls w1 hn (Rds.below h hb) (by omega) hs
  unfold implR
  rcases ht : terms ls with _ | Ts
  · refine (clos_read p q op [] 0 .nilIface ad n cap 1 [] w c0 c1 hp hq fun w1 hb => (r1 w1 hb).mono ?_).mono ?_
    · rintro e w' ⟨hb', ⟨Ts, v, h1, _⟩ | ⟨_, rfl⟩⟩
      · rw [ht] at h1; cases h1
      · exact ⟨rfl, hb'⟩
    · rintro e w' ⟨rfl, hb⟩
      exact ⟨.inr ⟨by simp, rfl⟩, hb⟩
  · have h2 : ∀ w1, Below w.heap.size w w1 → Calls Tryz.prog 79 #[.slice ad n cap] w1 fun e w' => ∃ a1 n1 c1, e = .returned (.slice a1 n1 c1) ∧ Below w1.heap.size w1 w' ∧ Tms w' w.heap.size (.slice a1 n1 c1) Ts := fun w1 hb => (r1 w1 hb).mono (by
      rintro e w' ⟨hb', ⟨Us, v, h1, rfl, h3⟩ | ⟨h1, _⟩⟩
      · rw [ht] at h1
        cases h1
        obtain ⟨a1, n1, c1, rfl⟩ := rt_slice h3
        exact ⟨a1, n1, c1, rfl, hb', tms_base h3 hb.size⟩
      · rw [ht] at h1; cases h1)
    simp only
    rcases hb : build op Ts with _ | T
    · simp only
      refine (clos_build p q op Ts 0 .nilIface ad n cap 1 [] w c0 c1 hp hq h2 fun w1 v hv hb1 => (build_no op Ts hb w1 _ v hv).mono ?_).mono ?_
      · rintro e w' ⟨rfl, hs⟩
        exact ⟨rfl, hs.below _⟩
      · rintro e w' ⟨rfl, hb⟩
        exact ⟨.inr ⟨by simp, rfl⟩, hb⟩
    · simp only
      obtain ⟨b1, b2⟩ := made_bound hb (terms_mem ls Ts ht)
      obtain ⟨tt, tv, ev⟩ := val_iface T
      have h3 : ∀ w1 v, Tms w1 w.heap.size v Ts → Below w.heap.size w w1 → Calls Tryz.prog 78 #[str op, v] w1 fun e w' => e = .returned (.iface tt tv) ∧ Below w1.heap.size w1 w' := fun w1 v hv hb1 => (build_yes op Ts T hb w1 _ v hv).mono (by
        rintro e w' ⟨rfl, hs⟩
        exact ⟨by rw [ev], hs.below _⟩)
      by_cases hc : T.tx.length ≤ 3000 ∧ T.deep ≤ 24
      · rw [if_pos hc]
        refine (clos_ret p q op Ts tt tv ad n cap 0 T.tx w c0 c1 hp hq h2 h3 (fun w1 => ?_) (fun w1 => ?_)).mono ?_
        · rw [← ev]; exact fitting_yes T hc.1 hc.2 w1
        · rw [← ev]; exact textOf_calls T (by omega) w1
        · rintro e w' ⟨rfl, hb⟩
          exact ⟨.inl ⟨rfl, rfl⟩, hb⟩
      · rw [if_neg hc]
        refine (clos_fit p q op Ts tt tv ad n cap 9 [] w c0 c1 hp hq h2 h3 (fun w1 => ?_)).mono ?_
        · rw [← ev]; exact fitting_no T (by omega) (by omega) hc w1
        · rintro e w' ⟨rfl, hb⟩
          exact ⟨.inr ⟨by simp, rfl⟩, hb⟩

theorem closM (a b : Value) (w : World) : (callFunc 75 #[a, b]).run Tryz.prog w = .ok (.enter 75 #[a, b]) w := by kernel_rfl

/-- termOut of Make's closure. -/
theorem termOut_all (p q : Nat) (op : Bs) (ad : Option Addr) (n cap : Nat) (ls : List Bs) (w : World) (c0 : w.cell? ⟨p, 0, none⟩ = some (str op)) (c1 : w.cell? ⟨q, 0, none⟩ = some (.slice ad n cap)) (hp : p < w.heap.size) (hq : q < w.heap.size)
    (hn : n = ls.length) (h : Rds w (.slice ad n cap) ls) (hl : ls.length ≤ 400) (hs : ∀ x ∈ ls, x.length ≤ 4000000) :
    Calls Tryz.prog 74 #[.func (.func 75) #[] #[.pointer (some ⟨p, 0, none⟩), .pointer (some ⟨q, 0, none⟩)]] w fun e w' => e = .returned (outVal (implR op ls).1 (implR op ls).2) ∧ Below w.heap.size w w' := by
  have hcl := fun (w1 : World) (hb : Below w.heap.size w w1) => clos_all p q op ad n cap ls w1 (kept_cell hb c0 hp) (kept_cell hb c1 hq) (Nat.lt_of_lt_of_le hp hb.size) (Nat.lt_of_lt_of_le hq hb.size) hn (Rds.below h hb) hl hs
  by_cases hc : (implR op ls).2 = 0
  · rw [hc]
    refine termOut_ret _ _ _ (fun w => closM _ _ w) w fun w1 hb => (hcl w1 hb).mono ?_
    rintro e w' ⟨⟨_, rfl⟩ | ⟨hn, _⟩, hb'⟩
    · exact ⟨rfl, hb'⟩
    · exact absurd hc hn
  · have hr : (implR op ls).1 = [] := by
      revert hc
      unfold implR
      cases terms ls with
      | none => intro _; rfl
      | some Ts =>
        simp only
        cases build op Ts with
        | none => intro _; rfl
        | some T =>
          simp only
          split
          · intro h; exact absurd rfl h
          · intro _; rfl
    rw [hr]
    refine termOut_fault _ _ _ (fun w => closM _ _ w) w fun w1 hb => (hcl w1 hb).mono ?_
    rintro e w' ⟨⟨h0, _⟩ | ⟨_, rfl⟩, hb'⟩
    · exact absurd h0 hc
    · exact ⟨rfl, hb'⟩

theorem fin4 {w w3 : World} {B : Nat} {b : Nat} (h : Below B w w3) (a c : Value) (hb : B ≤ b) : Below B w ((w3.setCell ⟨b, 0, none⟩ a).setCell ⟨b, 1, none⟩ c) :=
  (h.setCell (by simpa using hb) _).setCell (by simpa using hb) _

set_option maxHeartbeats 2000000 in
set_option maxRecDepth 100000 in
theorem implMake_calls (op : Bs) (ad : Option Addr) (n cap : Nat) (args : List Bs) (w : World) (hn : n = args.length) (h : Rds w (.slice ad n cap) args) (hop : op.length ≤ 4000000) (hl : args.length ≤ 4000000) (hs : ∀ x ∈ args, x.length ≤ 4000000) :
    Calls Tryz.prog 54 #[str op, .slice ad n cap] w fun e w' => e = .returned (outVal (makeR op args).1 (makeR op args).2) ∧ Below w.heap.size w w' := by
  by_cases hsz : 400 < args.length ∨ 8000 < op.length
  · have : makeR op args = ([], 2) := by unfold makeR; rw [if_pos hsz]
    rw [this]
    unfold outVal
    clear this h hs
    by_cases h1 : 8000 < op.length
    · have t1 := tooLong_calls op hop true (by simpa using h1)
      go_enter Tryz.func54, Tryz.ntmps54
      go_wp2_with (go_at_call 49; refine (t1 _).mono ?_; rintro e w' ⟨rfl, rfl⟩)
      exact bodyPost_ret (v := .agg #[.string ⟨#[]⟩, .int .i64 2]) (by simp [results, Tryz.results54, go_sem]) rfl ⟨rfl, (((Below.refl _ _).alloc (Nat.le_refl _) _).alloc (by simp) _).alloc (by simp; omega) _⟩
    · have t1 := tooLong_calls op hop false (by simpa using h1)
      have d2 : decide (400 < (n : Int)) = true := by simp; omega
      go_enter Tryz.func54, Tryz.ntmps54
      go_wp2_with (go_at_call 49; refine (t1 _).mono ?_; rintro e w' ⟨rfl, rfl⟩)
      exact bodyPost_ret (v := .agg #[.string ⟨#[]⟩, .int .i64 2]) (by simp [results, Tryz.results54, go_sem]) rfl ⟨rfl, (((Below.refl _ _).alloc (Nat.le_refl _) _).alloc (by simp) _).alloc (by simp; omega) _⟩
  · have h1 : args.length ≤ 400 := by omega
    have h2 : op.length ≤ 8000 := by omega
    rw [← make_eq op args h1 h2]
    have t1 := tooLong_calls op hop false (by simp; omega)
    have d2 : decide (400 < (n : Int)) = false := by simp; omega
    have hmf : ∀ (fn : Fn) (first cap : Array Value) (w : World), (Instr.makeFunc fn first cap).run Tryz.prog w = .ok (.func fn first cap) w := fun _ _ _ _ => rfl
    have HS := Lib.hid hs
    have HR := Lib.hid h
    have HN := Lib.hid hn
    clear hs h hn hsz
    have hw0 : Below w.heap.size w (((w.alloc (.cells #[str op] 9)).alloc (.cells #[.slice ad n cap] 24)).alloc (.cells #[.string ⟨#[]⟩, .int .i64 0] 77)) := (((Below.refl _ _).alloc (Nat.le_refl _) _).alloc (by simp) _).alloc (by simp; omega) _
    have HW0 := Lib.hid hw0
    clear hw0
    rcases hR : implR op (sortedR op args) with ⟨r, c⟩
    simp only
    by_cases hd : op = oDh
    · have d3 : (op == [100, 104]) = true := by rw [hd]; rfl
      have hR2 : implR op (srt args) = (r, c) := by rw [← hR]; unfold sortedR; rw [if_pos hd]
      have HRR := Lib.hid hR2
      clear hR hR2 hd h2
      go_enter Tryz.func54, Tryz.ntmps54
      go_wp2_with (first
        | (go_at_call 49; refine (t1 _).mono ?_; rintro e w' ⟨rfl, rfl⟩)
        | (go_at_call 73; refine (values_calls _ _ _ _).mono ?_; rintro e w' ⟨rfl, rfl⟩))
      refine (sorted_b _ _ args (by omega) _ (by simp) (Rds.below HR.out HW0.out)).mono ?_
      rintro e w1 ⟨v1, rfl, s1, b1⟩
      obtain ⟨a1, cap1, rfl⟩ := strs_slice s1
      rw [srt_len] at s1 ⊢
      have hz := b1.size
      simp at hz
      have hb1 : w1.heap[w.heap.size + 1]? = some (.cells #[.slice ad n cap] 24 (0, 0)) := by
        rw [b1.block _ (by simp)]
        rw [Below.heap_alloc _ _ _ (by simp)]
        have := heap_alloc_new (w.alloc (.cells #[str op] 9)) (.cells #[.slice ad n cap] 24)
        simpa using this
      obtain ⟨e1, e2, e3⟩ := grd.one hb1
      have k0 : w1.cell? ⟨w.heap.size, 0, none⟩ = some (str op) := by rw [b1.cell (p := ⟨w.heap.size, 0, none⟩) (by simp; omega)]; simp [go_sem]
      have hblk : w1.heap[w.heap.size + 2]? = some (.cells #[.string ⟨#[]⟩, .int .i64 0] 77 (0, 0)) := by
        rw [b1.block _ (by simp)]
        have := heap_alloc_new ((w.alloc (.cells #[str op] 9)).alloc (.cells #[.slice ad n cap] 24)) (.cells #[.string ⟨#[]⟩, .int .i64 0] 77)
        simpa using this
      have S1 := Lib.hid s1
      have K0 := Lib.hid k0
      have BLK := Lib.hid hblk
      have B1 := Lib.hid (HW0.out.trans (b1.mono (by simp; omega)))
      clear s1 k0 hblk b1 hb1
      go_wp2_with fail
      have s2 := Strs.set (x := .slice a1 args.length cap1) (b := w.heap.size + 1) S1.out (by simp)
      refine (termOut_all w.heap.size (w.heap.size + 1) op a1 args.length cap1 (srt args) _ (by rw [← K0.out]; exact World.cell?_of_block (Below.heap_setCell _ _ _ _ (by show w.heap.size ≠ w.heap.size + 1; omega))) (World.cell?_setCell_same' _ _ _ (by rw [e1]; rfl)) (by simp [World.setCell]; omega) (by simp [World.setCell]; omega)
        (srt_len args).symm (by have := mrs.Wrs.rds (mrs.Strs.wrs s2); exact this) (by rw [srt_len]; exact h1) (fun x hx => HS.out x ((List.mergeSort_perm args _).mem_iff.1 hx))).mono ?_
      rw [HRR.out]
      rintro e w2 ⟨rfl, hb⟩
      unfold outVal
      have hz2 := hb.size
      simp [World.setCell] at hz2
      have hblk : w2.heap[w.heap.size + 2]? = some (.cells #[.string ⟨#[]⟩, .int .i64 0] 77 (0, 0)) := by
        rw [hb.block _ (by simp [World.setCell]; omega), Below.heap_setCell _ _ _ _ (by simp)]
        exact BLK.out
      obtain ⟨c0, c1, f0, f1, hz3⟩ := two hblk
      have HB := Lib.hid ((B1.out.setCell (p := ⟨w.heap.size + 1, 0, none⟩) (by simp) (.slice a1 args.length cap1)).trans (hb.mono (by simp [World.setCell]; omega)))
      clear hb hblk
      go_wp2_with fail
      exact bodyPost_ret (v := .agg #[str r, .int .i64 c]) (by simp [results, Tryz.results54, go_sem, c0, c1]) rfl ⟨rfl, (HB.out.setCell (by first | (simp; done) | (simp; omega)) _).setCell (by first | (simp; done) | (simp; omega)) _⟩
    · have d3 : (op == [100, 104]) = false := by rw [beq_eq_false_iff_ne]; exact hd
      have hR2 : implR op args = (r, c) := by rw [← hR]; unfold sortedR; rw [if_neg hd]
      have to := termOut_all w.heap.size (w.heap.size + 1) op ad n cap args _ (by simp [go_sem]) (by simp [go_sem]) (by simp; omega) (by simp) HN.out (Rds.below HR.out HW0.out) h1 HS.out
      rw [hR2] at to
      unfold outVal at to ⊢
      have TO := Lib.hid to
      clear hR hR2 hd h2 to
      go_enter Tryz.func54, Tryz.ntmps54
      go_wp2_with (go_at_call 49; refine (t1 _).mono ?_; rintro e w' ⟨rfl, rfl⟩)
      refine TO.out.mono ?_
      rintro e w1 ⟨rfl, hb⟩
      have hz := hb.size
      simp at hz
      have hblk : w1.heap[w.heap.size + 2]? = some (.cells #[.string ⟨#[]⟩, .int .i64 0] 77 (0, 0)) := by
        rw [hb.block _ (by simp)]
        have := heap_alloc_new ((w.alloc (.cells #[str op] 9)).alloc (.cells #[.slice ad n cap] 24)) (.cells #[.string ⟨#[]⟩, .int .i64 0] 77)
        simpa using this
      obtain ⟨c0, c1, f0, f1, hz2⟩ := two hblk
      have HB := Lib.hid (HW0.out.trans (hb.mono (by simp; omega)))
      clear hb hblk
      go_wp2_with fail
      exact bodyPost_ret (v := .agg #[str r, .int .i64 c]) (by simp [results, Tryz.results54, go_sem, c0, c1]) rfl ⟨rfl, (HB.out.setCell (by first | (simp; done) | (simp; omega)) _).setCell (by first | (simp; done) | (simp; omega)) _⟩
end Go.Proofs.YtdikjmhnjlalbaaGreat.imk

/- Contract of madeOf of the program. -/
namespace Go.Proofs.YtdikjmhnjlalbaaGreat.gky
open Go.RowKit Go.Proofs.YtdikjmhnjlalbaaGreat.tm Go.Proofs.YtdikjmhnjlalbaaGreat.lib Go.Proofs.YtdikjmhnjlalbaaGreat.rdr Go.Proofs.YtdikjmhnjlalbaaGreat.bld Go.Proofs.YtdikjmhnjlalbaaGreat.app Go.Proofs.YtdikjmhnjlalbaaGreat.sop Go.Proofs.YtdikjmhnjlalbaaGreat.mkp Go.Proofs.YtdikjmhnjlalbaaGreat.mrk Go.Proofs.YtdikjmhnjlalbaaGreat.ltp Go.Proofs.YtdikjmhnjlalbaaGreat.ltq Go.Proofs.YtdikjmhnjlalbaaGreat.ltv
set_option linter.unusedVariables false

theorem out_term (x : Bs) (y : Int) (w : World) : (Instr.field 77 (.agg #[str x, .int .i64 y]) 0).run Tryz.prog w = .ok (str x) w := by kernel_rfl

theorem rds_one {w : World} {b cap : Nat} {x : Bs} (c0 : w.cell? ⟨b, 0, none⟩ = some (str x)) (hb : b < w.heap.size) : Rds w (.slice (some ⟨b, 0, none⟩) 1 cap) [x] :=
  .inr ⟨b, 0, cap, rfl, hb, fun j l hj => by
    match j, hj with
    | 0, hj => simp at hj; subst hj; exact c0
    | j + 1, hj => simp at hj⟩
theorem rds_two' {w : World} {b cap : Nat} {x y : Bs} (c0 : w.cell? ⟨b, 0, none⟩ = some (str x)) (c1 : w.cell? ⟨b, 1, none⟩ = some (str y)) (hb : b < w.heap.size) : Rds w (.slice (some ⟨b, 0, none⟩) 2 cap) [x, y] :=
  .inr ⟨b, 0, cap, rfl, hb, fun j l hj => by
    match j, hj with
    | 0, hj => simp at hj; subst hj; exact c0
    | 1, hj => simp at hj; subst hj; exact c1
    | j + 2, hj => simp at hj⟩

theorem made_len (op : Bs) (args : List Bs) : (makeR op args).1.length ≤ 3000 := by
  unfold makeR finR
  repeat' split
  all_goals first | (simp; done) | skip
  rename_i h
  exact okT_len h

set_option maxHeartbeats 1000000 in
set_option maxRecDepth 100000 in
theorem madeOf_calls (op : Bs) (ad : Option Addr) (n cap : Nat) (args : List Bs) (w : World) (hn : n = args.length) (h : Rds w (.slice ad n cap) args) (hop : op.length ≤ 4000000) (hl : args.length ≤ 4000000) (hs : ∀ x ∈ args, x.length ≤ 4000000) :
    Calls Tryz.prog 42 #[str op, .slice ad n cap] w fun e w' => e = .returned (str (makeR op args).1) ∧ Below w.heap.size w w' := by
  have c := imk.implMake_calls op ad n cap args w hn h hop hl hs
  unfold sop.outVal at c
  obtain ⟨x, hx⟩ : ∃ x, x = (makeR op args).1 := ⟨_, rfl⟩
  obtain ⟨y, hy⟩ : ∃ y, y = (makeR op args).2 := ⟨_, rfl⟩
  rw [← hx, ← hy] at c
  rw [← hx]
  have C := Lib.hid c
  have hfd := out_term x y
  clear c h hs hn hx hy
  go_enter Tryz.func42, Tryz.ntmps42
  go_wp2_with fail
  refine C.out.mono ?_
  rintro e w1 ⟨rfl, hb⟩
  have HB := Lib.hid hb
  clear hb
  go_wp2_with fail
  go_ret
  exact ⟨rfl, HB.out⟩

theorem madeTwo (op x y : Bs) (b cap : Nat) (w : World) (c0 : w.cell? ⟨b, 0, none⟩ = some (str x)) (c1 : w.cell? ⟨b, 1, none⟩ = some (str y)) (hb : b < w.heap.size) (hop : op.length ≤ 4000000) (hx : x.length ≤ 4000000) (hy : y.length ≤ 4000000) (z : Bs) (hz : (makeR op [x, y]).1 = z) :
    Calls Tryz.prog 42 #[str op, .slice (some ⟨b, 0, none⟩) 2 cap] w fun e w' => e = .returned (str z) ∧ Below w.heap.size w w' := by
  rw [← hz]
  exact madeOf_calls op _ 2 cap [x, y] w rfl (rds_two' c0 c1 hb) hop (by simp) (by simp [hx, hy])
theorem madeOne (op x : Bs) (b cap : Nat) (w : World) (c0 : w.cell? ⟨b, 0, none⟩ = some (str x)) (hb : b < w.heap.size) (hop : op.length ≤ 4000000) (hx : x.length ≤ 4000000) (z : Bs) (hz : (makeR op [x]).1 = z) :
    Calls Tryz.prog 42 #[str op, .slice (some ⟨b, 0, none⟩) 1 cap] w fun e w' => e = .returned (str z) ∧ Below w.heap.size w w' := by
  rw [← hz]
  exact madeOf_calls op _ 1 cap [x] w rfl (rds_one c0 hb) hop (by simp) (by simp [hx])

end Go.Proofs.YtdikjmhnjlalbaaGreat.gky

/- BodyOf of the program. -/
namespace Go.Proofs.YtdikjmhnjlalbaaGreat.bdo
open Go.RowKit Go.Shelf Go.Proofs.YtdikjmhnjlalbaaGreat.tm Go.Proofs.YtdikjmhnjlalbaaGreat.bld Go.Proofs.YtdikjmhnjlalbaaGreat.app Go.Proofs.YtdikjmhnjlalbaaGreat.mrk Go.Proofs.YtdikjmhnjlalbaaGreat.plf Go.Proofs.YtdikjmhnjlalbaaGreat.ltq Go.Proofs.YtdikjmhnjlalbaaGreat.ltv Go.Proofs.YtdikjmhnjlalbaaGreat.ltp Go.Proofs.YtdikjmhnjlalbaaGreat.prr Go.Proofs.YtdikjmhnjlalbaaGreat.kin Go.Proofs.YtdikjmhnjlalbaaGreat.lri Go.Proofs.YtdikjmhnjlalbaaGreat.txo Go.Proofs.YtdikjmhnjlalbaaGreat.bdr
set_option linter.unusedVariables false



theorem body_cons (x : Bs) (l : List Bs) : body (x :: l) = if l = [] then x else say oPair [x, body l] := by
  cases l with
  | nil => rfl
  | cons y l => rfl
theorem body_ne {l : List Bs} (h : ∀ x ∈ l, x ≠ []) (hl : l ≠ []) : body l ≠ [] := by
  cases l with
  | nil => exact absurd rfl hl
  | cons x l =>
    rw [body_cons]
    split
    · exact h x (by simp)
    · simp [say]
theorem body_le : ∀ (l : List Bs), (∀ x ∈ l, x.length ≤ 3000) → (body l).length ≤ l.length * 3010
  | [], _ => by simp [body]
  | x :: l, h => by
    have h1 := h x (by simp)
    have h2 := body_le l (fun y hy => h y (by simp [hy]))
    rw [body_cons]
    split
    · simp; omega
    · simp [say, oPair]; omega

/-- What the body holds behind some parts, the last one first. -/
def acc (pre : List Bs) : Bs := body pre.reverse
theorem acc_snoc (pre : List Bs) (x : Bs) : acc (pre ++ [x]) = if pre = [] then x else say oPair [x, acc pre] := by
  unfold acc
  rw [List.reverse_append]
  show body (x :: pre.reverse) = _
  rw [body_cons]
  cases pre with
  | nil => rfl
  | cons y l => simp

/-- The texts alone. -/
def vals {M : Bs → Prop} (l : List (Sx M)) : List Bs := l.map fun x => x.1
theorem vals_snoc {M : Bs → Prop} (l : List (Sx M)) (x : Sx M) : vals (l ++ [x]) = vals l ++ [x.1] := List.map_append
theorem vals_rev {M : Bs → Prop} (l : List (Sx M)) : vals l.reverse = (vals l).reverse := List.map_reverse
theorem vals_len {M : Bs → Prop} (l : List (Sx M)) : (vals l).length = l.length := List.length_map _
theorem vals_mem {M : Bs → Prop} {l : List (Sx M)} {y : Bs} (h : y ∈ vals l) : M y := by
  obtain ⟨z, _, rfl⟩ := List.mem_map.1 h
  exact z.2
theorem vals_ne {M : Bs → Prop} {l : List (Sx M)} (h : l ≠ []) : vals l ≠ [] := by cases l with | nil => exact absurd rfl h | cons x l => exact List.cons_ne_nil _ _

section
attribute [local go_sem] Oper.semAt_some

set_option maxRecDepth 100000 in
set_option maxHeartbeats 4000000 in
theorem body_yes (k f t c : Int) (g off cap : Nat) (ma mb : Bs) (zs : List (Sx fun x => okT x = true)) (hreach : zs.length ≤ 3) (w : World) (hg : g < w.heap.size)
    (hc : ∀ j x, zs[j]? = some x → w.cell? ⟨g, off + j, none⟩ = some (str x.1))
    (HR : Hid (∀ w', Below w.heap.size w w' → Calls Tryz.prog 21 #[.agg (wireV k f t c (.slice (some ⟨g, off, none⟩) zs.length cap) ma mb)] w' fun e w'' => e = .returned (.bool true) ∧ Below w'.heap.size w' w'')) :
    Calls Tryz.prog 51 #[.agg (wireV k f t c (.slice (some ⟨g, off, none⟩) zs.length cap) ma mb)] w fun e w' =>
      e = .returned (str (body (vals zs))) ∧ Below w.heap.size w w' := by
  obtain ⟨m, hm⟩ : ∃ m, m = zs.length := ⟨_, rfl⟩
  rw [← hm] at hreach HR ⊢
  have HM := Lib.hid hm
  have HC := Lib.hid hc
  clear hm hc
  refine (callsIn_wide (n := 4)).1 ?_
  refine callsIn_of_wp_marks Tryz.func51 rfl trivial ?_ rfl
  unfold wireV at HR ⊢
  simp only [Tryz.ntmps51, List.size_toArray, List.length_cons, List.length_nil, Nat.reduceAdd, Nat.reduceSub, Array.replicate_succ, Array.replicate_zero, List.push_toArray, List.append_toArray, List.nil_append, List.cons_append]
  gi_wp2_with fail
  refine ⟨trivial, ?_⟩
  gi_at_call 21
  refine (callsIn_wide.2 (HR.out _ (lri.new1 _ _))).mono ?_
  rintro e w1 ⟨rfl, hb1⟩
  have X1 := Lib.hid (keptB (heap_alloc_new w _) hb1)
  have HB1 := Lib.hid ((lri.new1 _ _).trans (hb1.mono (by simp)))
  obtain ⟨p0, p1, p2, p3, p4, p5, p6, pz⟩ := seven X1.out
  clear hb1
  gi_wp2_with (refine ⟨trivial, ?_⟩; gi_at_call 47; refine (callsIn_wide.2 (plf_calls _ k f t c (.slice (some ⟨g, off, none⟩) m cap) ma mb _ rfl)).mono ?_; rintro e w' ⟨rfl, rfl⟩)
  obtain ⟨W0, hW0⟩ : ∃ W0, ((w1.alloc (.cells #[.string ⟨#[]⟩] 9)).alloc (.cells (wireV k f t c (.slice (some ⟨g, off, none⟩) m cap) ma mb) 59)) = W0 := ⟨_, rfl⟩
  have hs0 : W0.heap.size = w1.heap.size + 1 + 1 := by rw [← hW0]; simp
  have hk0 : Below w1.heap.size w1 W0 := by rw [← hW0]; exact (lri.new1 _ _).alloc (by simp) _
  have hB0 : Below w.heap.size w W0 := HB1.out.trans (hk0.mono HB1.out.size)
  have bR : Boxed W0 w1.heap.size 9 (str []) := by
    rw [← hW0]
    exact Boxed.alloc (Boxed.new w1 9 (.string ⟨#[]⟩)) _
  have bX : W0.heap[w1.heap.size + 1]? = some (.cells (wireV k f t c (.slice (some ⟨g, off, none⟩) zs.length cap) ma mb) 59 (0, 0)) := by
    rw [← HM.out, ← hW0]
    have := heap_alloc_new (w1.alloc (.cells #[.string ⟨#[]⟩] 9)) (.cells (wireV k f t c (.slice (some ⟨g, off, none⟩) m cap) ma mb) 59)
    simpa using this
  have hc0 : ∀ j x, zs[j]? = some x → W0.cell? ⟨g, off + j, none⟩ = some (str x.1) := fun j x hx => by rw [← HC.out j x hx]; exact hB0.cell (p := ⟨g, off + j, none⟩) hg
  rw [hW0]
  clear hW0 p0 p1 p2 p3 p4 p5 p6 hk0
  have ST := plf_stops Fence.wide 3 trivial rfl (by omega) (w1.heap.size + 1) w.heap.size g off cap k f t c ma mb _ zs (by have := HM.out; omega) W0 hB0.size hg bX hc0
  have HB0 := Lib.hid hB0
  clear bX hc0 hB0
  refine wpIn_rangeFunc_ownG (F := Fence.wide) rfl (by omega) (gf := 67) (lb := #[.pointer (some ⟨w1.heap.size + 1, 0, none⟩)]) rfl trivial (enters_of Tryz.func67 (by kernel_rfl) rfl)
    ST (fun h k => Keep.t h k) (Keep.b HB0.out.size (by omega)) (Below.refl _ _) (fun _ => rfl)
    (fun pre W => Boxed W w1.heap.size 9 (str (acc (vals pre))) ∧ Below w.heap.size w W)
    (fun _ _ _ => False)
    (OwnFrom.and (Own.from (fun s A B row hs hgr hr => hs.kept hgr (fun e => by obtain ⟨o, ho, hh⟩ := hr _ e.symm; rw [show A.heap[w1.heap.size]? = _ from hs] at ho; cases ho; cases hh)) _) (ownFrom_below (Nat.le_refl _) (by omega)))
    (fun _ _ _ _ _ hs _ _ => hs)
    ⟨bR, HB0.out⟩ ?a1 ?assign ?body ?done ?stop
  case a1 => exact fun x => { tmps := #[.agg #[.int .i64 k, .int .i64 f, .int .i64 t, .int .i64 c, .slice (some ⟨g, off, none⟩) m cap, str ma, str mb], .pointer (some ⟨w.heap.size, 0, none⟩), .string ⟨#[]⟩, .pointer (some ⟨w1.heap.size, 0, none⟩), str x.1, .agg #[.int .i64 k, .int .i64 f, .int .i64 t, .int .i64 c, .slice (some ⟨g, off, none⟩) m cap, str ma, str mb], .bool true, .bool false, .agg #[.int .i64 k, .int .i64 f, .int .i64 t, .int .i64 c, .slice (some ⟨g, off, none⟩) m cap, str ma, str mb], .func (.func 67) #[] #[.pointer (some ⟨w1.heap.size + 1, 0, none⟩)], str x.1, undef, undef, undef, undef, undef, undef, undef, undef, undef], defers := [] }
  case assign =>
    intro l x W K hK
    gi_wp2
    exact hK
  case body =>
    rintro l pre x W ⟨hR, hB⟩ hlt
    have HR := Lib.hid hR
    have HB := Lib.hid hB
    have q0 := hR.cell
    have q1 := hR.frozen
    have q2 := hR.lt
    have hxl := okT_len x.2
    have HE := Lib.hid (acc_snoc (vals pre) x.1)
    have HNE := Lib.hid (show vals pre ≠ [] → acc (vals pre) ≠ [] from fun h => body_ne (fun y hy => okT_ne (vals_mem (List.mem_reverse.1 hy))) (by simpa using h))
    have hal : (acc (vals pre)).length ≤ 10000 := by
      have := body_le (vals pre).reverse (fun y hy => okT_len (vals_mem (List.mem_reverse.1 hy)))
      have h2 : pre.length ≤ 3 := by have := HM.out; omega
      have h3 := vals_len pre
      rw [List.length_reverse] at this
      show (body (vals pre).reverse).length ≤ _
      omega
    obtain ⟨A, hA⟩ : ∃ A, A = acc (vals pre) := ⟨_, rfl⟩
    rw [← hA] at q0 hal
    have HA := Lib.hid hA
    clear hR hB hlt ST hA
    by_cases hp : pre = []
    · have hA0 : A = [] := by rw [HA.out, hp]; rfl
      subst hA0
      have HP := Lib.hid hp
      clear hp
      have cl := fun w => clo.clone_calls ⟨x.1.toArray⟩ (by show x.1.toArray.size ≤ _; simp; omega) w
      have CL := Lib.hid cl
      clear cl
      gi_wp2_with (refine ⟨trivial, ?_⟩; gi_at_call 53; refine (CallsIn.inRound l (callsIn_wide.2 (CL.out _))).mono ?_; rintro e W1 ⟨rfl, hb1⟩; have b1 : Boxed W1 w1.heap.size 9 (str []) := (hb1.block _ HR.out.lt).trans (by rw [HA.out]; exact HR.out); have r0 := b1.cell; have r1 := b1.frozen; have r2 := b1.lt; have HB1 := Lib.hid hb1; have HQ := Lib.hid b1; clear hb1 b1)
      refine ⟨((keepsO HB1.out).trans (KeepsOthers.setCell _ _ _)).from _, ⟨(HB1.out.mono HB.out.size).setCell (by simp; omega) _, fun hb => ?_⟩, ?_, (HB.out.trans (HB1.out.mono HB.out.size)).setCell (by simp; omega) _⟩
      · rw [Below.heap_setCell _ _ _ _ (by simp)]
        exact HB1.out.block _ hb
      · have := HQ.out.set (str x.1)
        rw [vals_snoc, HE.out, if_pos (by rw [HP.out]; rfl)]
        exact this
    · have hne : A ≠ [] := by rw [HA.out]; exact HNE.out (vals_ne hp)
      have d1 : (A == []) = false := by rw [beq_eq_false_iff_ne]; exact hne
      have d2 : A.isEmpty = false := by cases A with | nil => exact absurd rfl hne | cons y l => rfl
      have HP := Lib.hid hp
      clear hp hne
      have ot := fun (w : World) (b : Nat) h0 h1 hb => opText_two oPair x.1 A b 2 w h0 h1 hb (by omega) (by decide) (by omega) (by omega)
      have OT := Lib.hid ot
      unfold oPair at OT
      clear ot
      gi_wp2_with (refine ⟨trivial, ?_⟩; gi_at_call 69; refine (CallsIn.inRound l (callsIn_wide.2 (OT.out _ _ (by simp [go_sem]) (by simp [go_sem]) (by simp)))).mono ?_; rintro e W1 ⟨rfl, hb1⟩; have b1 : Boxed W1 w1.heap.size 9 (str A) := (hb1.block _ (by have := HR.out.lt; simp; omega)).trans ((Below.heap_alloc _ _ _ HR.out.lt).trans (by rw [HA.out]; exact HR.out)); have r0 := b1.cell; have r1 := b1.frozen; have r2 := b1.lt; have HB1 := Lib.hid hb1; have HQ := Lib.hid b1; clear hb1 b1)
      have k1 : Below W.heap.size W W1 := (lri.new1 W (.cells #[str x.1, str A] 9)).trans (HB1.out.mono (by simp))
      refine ⟨((keepsO k1).trans (KeepsOthers.setCell _ _ _)).from _, ⟨(k1.mono HB.out.size).setCell (by simp; omega) _, fun hb => ?_⟩, ?_, (HB.out.trans (k1.mono HB.out.size)).setCell (by simp; omega) _⟩
      · rw [Below.heap_setCell _ _ _ _ (by simp)]
        exact k1.block _ hb
      · have := HQ.out.set (str (say oPair [x.1, A]))
        rw [vals_snoc, HE.out, if_neg (vals_ne HP.out), ← HA.out]
        exact this
  case done =>
    rintro D ys W hD rfl ⟨hR, hB⟩ hK
    have q0 := hR.cell
    have q1 := hR.frozen
    have q2 := hR.lt
    have HB := Lib.hid hB
    have HK := Lib.hid hK
    clear hR hB hK ST
    gi_wp2
    refine ⟨by simp, .inl ⟨_, _, rfl, run_takeDeferred HK.out, ?_⟩⟩
    refine ⟨_, results_tmp rfl _ _ _, ?_, ?_⟩
    · rw [vals_rev, acc, List.reverse_reverse]; rfl
    · exact HB.out.trans (belowK_b (w := W0) HB0.out.size _ D _ _ hD HK.out rfl rfl)
  case stop =>
    rintro D cc pre W hD hpre h hK
    exact h.elim
end

set_option maxHeartbeats 1000000 in
set_option maxRecDepth 100000 in
theorem body_no (m : Lt) (v : Value) (w : World) (HR : Hid (∀ w', Below w.heap.size w w' → Calls Tryz.prog 21 #[.agg (letA m v)] w' fun e w'' => e = .returned (.bool false) ∧ Below w'.heap.size w' w'')) :
    Calls Tryz.prog 51 #[.agg (letA m v)] w fun e w' => e = .returned (str []) ∧ Below w.heap.size w w' := by
  obtain ⟨k, f, t, c, ps, a, b⟩ := m
  unfold letA at HR ⊢
  simp only at HR ⊢
  go_enter Tryz.func51, Tryz.ntmps51
  go_wp2_with fail
  refine (HR.out _ (lri.new1 _ _)).mono ?_
  rintro e w1 ⟨rfl, hb1⟩
  have HB1 := Lib.hid ((lri.new1 _ _).trans (hb1.mono (by simp)))
  clear hb1
  go_wp2_with fail
  go_ret
  exact ⟨rfl, HB1.out⟩

theorem implBody_calls (m : Lt) (v : Value) (w : World) (h : Rds w v m.ps) (hl : m.ps.length ≤ 2000000) (hx : ∀ x ∈ m.ps, x.length ≤ 4000000) (ha : m.a.length ≤ 4000000) (hb : m.b.length ≤ 4000000) :
    Calls Tryz.prog 51 #[.agg (letA m v)] w fun e w' => e = .returned (str (bodyR m)) ∧ Below w.heap.size w w' := by
  have hr := fun w' (k : Below w.heap.size w w') => implRight_calls m v w' (Rds.below h k) hl hx ha hb
  unfold bodyR
  cases hm : right m with
  | false =>
    rw [hm] at hr
    exact body_no m v w (Lib.hid hr)
  | true =>
    rw [hm] at hr
    obtain ⟨h1, h2⟩ := right_ps hm
    have h3 := parts_pos m.k
    obtain ⟨k, f, t, c, ps, a, b⟩ := m
    simp only at h hl hx h1 h2 h3 hr ⊢
    rcases h with ⟨rfl, _⟩ | ⟨g, off, cap, rfl, hg, hc⟩
    · simp at h2; omega
    · obtain ⟨zs, hz⟩ : ∃ zs : List (Sx fun x => okT x = true), vals zs = ps := ⟨ps.attachWith _ (fun x hx => List.all_eq_true.1 h1 x hx), by unfold vals; simp⟩
      subst hz
      rw [vals_len] at h2 hl hr
      have := body_yes k f t c g off cap a b zs (by omega) w hg (fun j x hj => hc j x.1 (by unfold vals; rw [List.getElem?_map, hj]; rfl)) (Lib.hid hr)
      simp only [if_true]
      unfold letA
      simp only
      rw [vals_len]
      exact this
end Go.Proofs.YtdikjmhnjlalbaaGreat.bdo

/- Contract of CookieOf of the program. -/
namespace Go.Proofs.YtdikjmhnjlalbaaGreat.gck
open Go.RowKit Go.Sort Go.Proofs.YtdikjmhnjlalbaaGreat.tm Go.Proofs.YtdikjmhnjlalbaaGreat.lib Go.Proofs.YtdikjmhnjlalbaaGreat.rdr Go.Proofs.YtdikjmhnjlalbaaGreat.bld Go.Proofs.YtdikjmhnjlalbaaGreat.app Go.Proofs.YtdikjmhnjlalbaaGreat.mrk Go.Proofs.YtdikjmhnjlalbaaGreat.mkp Go.Proofs.YtdikjmhnjlalbaaGreat.ltq Go.Proofs.YtdikjmhnjlalbaaGreat.ltp Go.Proofs.YtdikjmhnjlalbaaGreat.gky Go.Proofs.YtdikjmhnjlalbaaGreat.gdp Go.Proofs.YtdikjmhnjlalbaaGreat.rbk Go.Proofs.YtdikjmhnjlalbaaGreat.gri
set_option linter.unusedVariables false

set_option maxHeartbeats 2000000 in
set_option maxRecDepth 100000 in
theorem implCookie_calls (s : Bs) (a : Ad) (hs : s.length ≤ 4000000) (h1 : a.st.length ≤ 4000000) (h2 : a.hs.length ≤ 4000000) (w : World) :
    Calls Tryz.prog 24 #[str s, .agg (adA a)] w fun e w' => e = .returned (str (cookieR s a)) ∧ Below w.heap.size w w' := by
  unfold cookieR
  cases hb1 : atomR s with
  | false =>
    have I1 := Lib.hid (iatom s hs false hb1)
    rw [if_neg (by simp)]
    obtain ⟨p, q⟩ := a
    unfold adA
    clear hb1 hs h1 h2
    go_enter Tryz.func24, Tryz.ntmps24
    go_wp2_with fail
    refine (I1.out _).mono ?_
    rintro e w1 ⟨rfl, rfl⟩
    go_wp2_with fail
    go_ret
    exact ⟨rfl, new1 _ _⟩
  | true =>
    have I1 := Lib.hid (iatom s hs true hb1)
    cases hb2 : adR a with
    | false =>
      have I2 := implAddr_calls a h1 h2
      rw [hb2] at I2
      rw [if_neg (by simp)]
      obtain ⟨p, q⟩ := a
      unfold adA at I2 ⊢
      have I2 := Lib.hid I2
      clear hb1 hb2 hs h1 h2
      go_enter Tryz.func24, Tryz.ntmps24
      go_wp2_with fail
      refine (I1.out _).mono ?_
      rintro e w1 ⟨rfl, rfl⟩
      go_wp2_with fail
      refine (I2.out _).mono ?_
      rintro e w1 ⟨rfl, hb⟩
      have HB := Lib.hid ((new1 _ _).trans (hb.mono (by simp)))
      clear hb
      go_wp2_with fail
      go_ret
      exact ⟨rfl, HB.out⟩
    | true =>
      have I2 := implAddr_calls a h1 h2
      have hpl := pair_len hb2
      have c1 := fun (w : World) (b : Nat) k0 k1 kb => madeTwo oPair a.st a.hs b 2 w k0 k1 kb (by decide) h1 h2 (pairS a) (pair_made hb2)
      have c2 := fun (w : World) (b : Nat) k0 k1 kb => madeTwo oMac s (pairS a) b 2 w k0 k1 kb (by decide) hs (by omega) (cookS s a) (cook_made hb1 hb2)
      rw [hb2] at I2
      rw [if_pos (by simp)]
      obtain ⟨C, hC⟩ : ∃ C, C = cookS s a := ⟨_, rfl⟩
      obtain ⟨P, hP⟩ : ∃ P, P = pairS a := ⟨_, rfl⟩
      rw [← hC] at c2 ⊢
      rw [← hP] at c1 c2
      obtain ⟨p, q⟩ := a
      unfold adA at I2 ⊢
      simp only at c1
      have I2 := Lib.hid I2
      have C1 := Lib.hid c1
      have C2 := Lib.hid c2
      unfold oPair at C1
      unfold oMac at C2
      clear hb1 hb2 hs h1 h2 hC hP c1 c2 hpl
      go_enter Tryz.func24, Tryz.ntmps24
      go_wp2_with fail
      refine (I1.out _).mono ?_
      rintro e w1 ⟨rfl, rfl⟩
      go_wp2_with fail
      refine (I2.out _).mono ?_
      rintro e w1 ⟨rfl, hb⟩
      have X1 := glh.keptB (heap_alloc_new w _) hb
      obtain ⟨p0, p1, pz⟩ := glh.two X1
      have HB := Lib.hid ((new1 _ _).trans (hb.mono (by simp)))
      clear hb X1
      go_wp2_with fail
      refine (C1.out _ _ (by simp [go_sem]) (by simp [go_sem]) (by simp)).mono ?_
      rintro e w2 ⟨rfl, hb⟩
      have HB2 := Lib.hid ((HB.out.alloc HB.out.size _).trans (hb.mono (by have := HB.out.size; simp; omega)))
      clear hb
      go_wp2_with fail
      refine (C2.out _ _ (by simp [go_sem]) (by simp [go_sem]) (by simp)).mono ?_
      rintro e w3 ⟨rfl, hb⟩
      have HB3 := Lib.hid ((HB2.out.alloc HB2.out.size _).trans (hb.mono (by have := HB2.out.size; simp; omega)))
      clear hb
      go_wp2_with fail
      go_ret
      exact ⟨rfl, HB3.out⟩
end Go.Proofs.YtdikjmhnjlalbaaGreat.gck
