/- Contract of the model's Open. -/
import Derived.Test.YtobokgdmokpboaaSnd
namespace Go.Proofs.Ytobokgdmokpboaa.sop
open Go.RowKit Go.Proofs.Ytobokgdmokpboaa.tm Go.Proofs.Ytobokgdmokpboaa.lib Go.Proofs.Ytobokgdmokpboaa.rdr Go.Proofs.Ytobokgdmokpboaa.bld Go.Proofs.Ytobokgdmokpboaa.app Go.Proofs.Ytobokgdmokpboaa.snd
set_option linter.unusedVariables false

/-- What Open answers: the text, and the code. -/
inductive OpenR (key t : Bs) : Bs → Int → Prop
  | size (h : 8000 < key.length ∨ 8000 < t.length) : OpenR key t [] 2
  | form (h1 : key.length ≤ 8000) (h2 : t.length ≤ 8000) (h : term key = none ∨ term t = none) : OpenR key t [] 1
  | other (h1 : key.length ≤ 8000) (h2 : t.length ≤ 8000) (K T : Tm) (hK : term key = some K) (hT : term t = some T) (h : T.op ≠ oShut) : OpenR key t [] 6
  | none (h1 : key.length ≤ 8000) (h2 : t.length ≤ 8000) (K k x : Tm) (hK : term key = some K) (hT : term t = some (.shut k x)) (h : k.tx ≠ key) : OpenR key t [] 6
  | some (h1 : key.length ≤ 8000) (h2 : t.length ≤ 8000) (K k x : Tm) (hK : term key = some K) (hT : term t = some (.shut k x)) (h : k.tx = key) : OpenR key t x.tx 0

theorem open_total (key t : Bs) : ∃ r c, OpenR key t r c := by
  by_cases hs : 8000 < key.length ∨ 8000 < t.length
  · exact ⟨_, _, .size hs⟩
  have h1 : key.length ≤ 8000 := by omega
  have h2 : t.length ≤ 8000 := by omega
  cases hK : term key with
  | none => exact ⟨_, _, .form h1 h2 (.inl hK)⟩
  | some K =>
    cases hT : term t with
    | none => exact ⟨_, _, .form h1 h2 (.inr hT)⟩
    | some T =>
      by_cases ho : T.op = oShut
      · cases T with
        | shut k x =>
          by_cases hk : k.tx = key
          · exact ⟨_, _, .some h1 h2 K k x hK hT hk⟩
          · exact ⟨_, _, .none h1 h2 K k x hK hT hk⟩
        | _ => simp [Tm.op, oShut, oPair, oHash, oMac, oPub, oDh] at ho
      · exact ⟨_, _, .other h1 h2 K T hK hT ho⟩

theorem right_at (l : Bs) (b : Bool) (h : (term l).isSome = b) (hl : l.length ≤ 8000) (w : World) :
    Calls Try.prog 13 #[str l] w fun e w' => e = .returned (.bool b) ∧ Below w.heap.size w w' := by
  have := srt.specTermRight_calls ⟨l.toArray⟩ (by unfold maxLen; show l.toArray.size ≤ _; simp; omega) w
  rw [show (term (⟨l.toArray⟩ : ByteArray).data.toList).isSome = b from h] at this
  exact this

theorem node_at (l : Bs) (T : Tm) (h : term l = some T) (w : World) :
    Calls Try.prog 39 #[str l] w fun e w' => ∃ v, e = .returned (.agg #[str T.op, v]) ∧ Below w.heap.size w w' ∧ Txs w' w.heap.size v (nodeArgs T) := by
  obtain ⟨a, b, c, d⟩ := term_some.1 h
  exact node_calls ⟨l.toArray⟩ T b (by show l.toArray.size ≤ 3000; simpa using a) d w

theorem Txs.two {w : World} {B : Nat} {v : Value} {a b : Bs} (h : Txs w B v [a, b]) :
    ∃ g off cap, v = .slice (some ⟨g, off, none⟩) 2 cap ∧ B ≤ g ∧ g < w.heap.size ∧ w.cell? ⟨g, off, none⟩ = some (str a) ∧ w.cell? ⟨g, off + 1, none⟩ = some (str b) := by
  obtain ⟨g, off, cap, e, h1, h2, h3, h4⟩ := h
  exact ⟨g, off, cap, e, h1, h2, h4 0 a rfl, h4 1 b rfl⟩

theorem fin2 {w w3 : World} {o0 : Obj} (h : Below (w.alloc o0).heap.size (w.alloc o0) w3) (a b : Value) (o : Obj) : Below w.heap.size w (((w3.setCell ⟨w.heap.size, 0, none⟩ a).setCell ⟨w.heap.size, 1, none⟩ b).alloc o) := by
  have hz := h.size
  simp at hz
  exact (((((Below.refl _ _).alloc (Nat.le_refl _) _).trans (h.mono (by simp))).setCell (by simp) _).setCell (by simp) _).alloc (by simp [World.setCell]; omega) _
theorem fin3 {w w3 : World} {o0 : Obj} (h : Below (w.alloc o0).heap.size (w.alloc o0) w3) (a b : Value) : Below w.heap.size w ((w3.setCell ⟨w.heap.size, 0, none⟩ a).setCell ⟨w.heap.size, 1, none⟩ b) :=
  ((((Below.refl _ _).alloc (Nat.le_refl _) _).trans (h.mono (by simp))).setCell (by simp) _).setCell (by simp) _

def outVal (r : Bs) (c : Int) : Value := .agg #[str r, .int .i64 c]

set_option maxHeartbeats 2000000 in
set_option maxRecDepth 100000 in
theorem open_calls (key t r : Bs) (c : Int) (h : OpenR key t r c) (hk : key.length ≤ 4000000) (ht : t.length ≤ 4000000) (w : World) :
    Calls Try.prog 28 #[str key, str t] w fun e w' => e = .returned (outVal r c) ∧ Below w.heap.size w w' := by
  unfold outVal
  cases h with
  | size h =>
    by_cases h1 : 8000 < key.length
    · have d1 : decide (8000 < (key.length : Int)) = true := by simp; omega
      go_enter Try.func28, Try.ntmps28
      go_wp2_with fail
      exact bodyPost_ret (v := .agg #[.string ⟨#[]⟩, .int .i64 2]) (by simp [results, Try.results28, go_sem]) rfl ⟨rfl, (Below.refl _ _).alloc (Nat.le_refl _) _⟩
    · have d1 : decide (8000 < (key.length : Int)) = false := by simp; omega
      have d2 : decide (8000 < (t.length : Int)) = true := by simp; omega
      go_enter Try.func28, Try.ntmps28
      go_wp2_with fail
      exact bodyPost_ret (v := .agg #[.string ⟨#[]⟩, .int .i64 2]) (by simp [results, Try.results28, go_sem]) rfl ⟨rfl, (Below.refl _ _).alloc (Nat.le_refl _) _⟩
  | form h1 h2 h =>
    have d1 : decide (8000 < (key.length : Int)) = false := by simp; omega
    have d2 : decide (8000 < (t.length : Int)) = false := by simp; omega
    by_cases hK : term key = none
    · have a1 := right_at key false (by rw [hK]; rfl) h1
      clear h hK
      go_enter Try.func28, Try.ntmps28
      go_wp2_with fail
      refine (a1 _).mono ?_
      rintro e w1 ⟨rfl, hb⟩
      have HB := Lib.hid hb
      obtain ⟨c0, c1, f0, f1, hz⟩ := two (clo.new_kept hb)
      clear hb
      go_wp2_with fail
      exact bodyPost_ret (v := .agg #[.string ⟨#[]⟩, .int .i64 1]) (by simp [results, Try.results28, go_sem, c0, c1, hz]) rfl ⟨rfl, fin3 HB.out _ _⟩
    · have hK' : (term key).isSome = true := by cases hq : term key with | none => exact absurd hq hK | some _ => rfl
      have hT : term t = none := by rcases h with h | h; exact absurd h hK; exact h
      have a1 := right_at key true hK' h1
      have a2 := right_at t false (by rw [hT]; rfl) h2
      clear h hK hK' hT
      go_enter Try.func28, Try.ntmps28
      go_wp2_with fail
      refine (a1 _).mono ?_
      rintro e w1 ⟨rfl, hb⟩
      go_wp2_with fail
      refine (a2 _).mono ?_
      rintro e w2 ⟨rfl, hb2⟩
      have HB := Lib.hid (hb.trans (hb2.mono hb.size))
      obtain ⟨c0, c1, f0, f1, hz⟩ := two (clo.new_kept HB.out)
      clear hb hb2
      go_wp2_with fail
      exact bodyPost_ret (v := .agg #[.string ⟨#[]⟩, .int .i64 1]) (by simp [results, Try.results28, go_sem, c0, c1, hz]) rfl ⟨rfl, fin3 HB.out _ _⟩
  | other h1 h2 K T hK hT h =>
    have d1 : decide (8000 < (key.length : Int)) = false := by simp; omega
    have d2 : decide (8000 < (t.length : Int)) = false := by simp; omega
    have a1 := right_at key true (by rw [hK]; rfl) h1
    have a2 := right_at t true (by rw [hT]; rfl) h2
    have a3 := node_at t T hT
    have d3 : (T.op == [115, 104, 117, 116]) = false := by rw [beq_eq_false_iff_ne]; exact h
    obtain ⟨O, hO⟩ : ∃ O, O = T.op := ⟨_, rfl⟩
    rw [← hO] at d3
    simp only [← hO] at a3
    clear h hK hT hO
    go_enter Try.func28, Try.ntmps28
    go_wp2_with fail
    refine (a1 _).mono ?_
    rintro e w1 ⟨rfl, hb⟩
    go_wp2_with fail
    refine (a2 _).mono ?_
    rintro e w2 ⟨rfl, hb2⟩
    have HB := Lib.hid (hb.trans (hb2.mono hb.size))
    clear hb hb2
    go_wp2_with fail
    refine (a3 _).mono ?_
    rintro e w3 ⟨v, rfl, hb3, hx⟩
    have HB3 := Lib.hid (HB.out.trans (hb3.mono HB.out.size))
    obtain ⟨c0, c1, f0, f1, hz⟩ := two (clo.new_kept HB3.out)
    obtain ⟨g, off, cap, rfl, _⟩ := hx
    clear hb3
    go_wp2_with fail
    exact bodyPost_ret (v := .agg #[.string ⟨#[]⟩, .int .i64 6]) (by simp [results, Try.results28, go_sem, c0, c1, hz, Nat.ne_of_lt hz]) rfl ⟨rfl, fin2 HB3.out _ _ _⟩
  | none h1 h2 K k x hK hT h =>
    have d1 : decide (8000 < (key.length : Int)) = false := by simp; omega
    have d2 : decide (8000 < (t.length : Int)) = false := by simp; omega
    have a1 := right_at key true (by rw [hK]; rfl) h1
    have a2 := right_at t true (by rw [hT]; rfl) h2
    have a3 := node_at t (.shut k x) hT
    simp only [nodeArgs, Tm.isAtom, Tm.kids, Tm.op, List.map_cons, List.map_nil] at a3
    obtain ⟨kt, hkt⟩ : ∃ l, l = k.tx := ⟨_, rfl⟩
    obtain ⟨xt, hxt⟩ : ∃ l, l = x.tx := ⟨_, rfl⟩
    simp only [← hkt, ← hxt] at a3 h ⊢
    have d3 : (kt == key) = false := by rw [beq_eq_false_iff_ne]; exact h
    have d4 : ¬ kt = key := h
    unfold oShut at a3
    clear h hK hT hkt hxt
    go_enter Try.func28, Try.ntmps28
    go_wp2_with fail
    refine (a1 _).mono ?_
    rintro e w1 ⟨rfl, hb⟩
    go_wp2_with fail
    refine (a2 _).mono ?_
    rintro e w2 ⟨rfl, hb2⟩
    have HB := Lib.hid (hb.trans (hb2.mono hb.size))
    clear hb hb2
    go_wp2_with fail
    refine (a3 _).mono ?_
    rintro e w3 ⟨v, rfl, hb3, hx⟩
    have HB3 := Lib.hid (HB.out.trans (hb3.mono HB.out.size))
    obtain ⟨c0, c1, f0, f1, hz⟩ := two (clo.new_kept HB3.out)
    obtain ⟨g, off, cap, rfl, hg, hg2, m0, m1⟩ := Txs.two hx
    have hgn : ¬ g = w.heap.size := by have := HB.out.size; simp at this; omega
    have hgn2 : ¬ g = w3.heap.size := by omega
    clear hb3 hx
    go_wp2_with fail
    exact bodyPost_ret (v := .agg #[.string ⟨#[]⟩, .int .i64 6]) (by simp [results, Try.results28, go_sem, c0, c1, hz, Nat.ne_of_lt hz]) rfl ⟨rfl, fin2 HB3.out _ _ _⟩
  | some h1 h2 K k x hK hT h =>
    have d1 : decide (8000 < (key.length : Int)) = false := by simp; omega
    have d2 : decide (8000 < (t.length : Int)) = false := by simp; omega
    have a1 := right_at key true (by rw [hK]; rfl) h1
    have a2 := right_at t true (by rw [hT]; rfl) h2
    have a3 := node_at t (.shut k x) hT
    simp only [nodeArgs, Tm.isAtom, Tm.kids, Tm.op, List.map_cons, List.map_nil] at a3
    obtain ⟨kt, hkt⟩ : ∃ l, l = k.tx := ⟨_, rfl⟩
    obtain ⟨xt, hxt⟩ : ∃ l, l = x.tx := ⟨_, rfl⟩
    simp only [← hkt, ← hxt] at a3 h ⊢
    subst h
    unfold oShut at a3
    clear hK hT hkt hxt
    go_enter Try.func28, Try.ntmps28
    go_wp2_with fail
    refine (a1 _).mono ?_
    rintro e w1 ⟨rfl, hb⟩
    go_wp2_with fail
    refine (a2 _).mono ?_
    rintro e w2 ⟨rfl, hb2⟩
    have HB := Lib.hid (hb.trans (hb2.mono hb.size))
    clear hb hb2
    go_wp2_with fail
    refine (a3 _).mono ?_
    rintro e w3 ⟨v, rfl, hb3, hx⟩
    have HB3 := Lib.hid (HB.out.trans (hb3.mono HB.out.size))
    obtain ⟨c0, c1, f0, f1, hz⟩ := two (clo.new_kept HB3.out)
    obtain ⟨g, off, cap, rfl, hg, hg2, m0, m1⟩ := Txs.two hx
    have hgn : ¬ g = w.heap.size := by have := HB.out.size; simp at this; omega
    have hgn2 : ¬ g = w3.heap.size := by omega
    clear hb3 hx
    go_wp2_with fail
    exact bodyPost_ret (v := outVal xt 0) (by simp [outVal, results, Try.results28, go_sem, c0, c1, hz, Nat.ne_of_lt hz]) rfl ⟨rfl, fin2 HB3.out _ _ _⟩
end Go.Proofs.Ytobokgdmokpboaa.sop
