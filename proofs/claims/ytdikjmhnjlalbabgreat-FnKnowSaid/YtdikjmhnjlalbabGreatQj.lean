/- Several small texts, one behind the other. -/
import Derived.Test.YtdikjmhnjlalbabGreatQg
import Derived.Test.YtdikjmhnjlalbabGreatQa
import Derived.Maps.OwnSet
import Derived.Maps.OwnOps
import Derived.Carry
import Derived.Test.YtdikjmhnjlalbabGreatQd
import Derived.Test.YtdikjmhnjlalbabGreatBldq
import Derived.Test.YtdikjmhnjlalbabGreatQh

/- A map of texts to true, as a set of texts: made, asked, put into, counted. -/
namespace Go.Proofs.YtdikjmhnjlalbabGreat.kst
open Go.RowKit Go.Maps Go.Proofs.YtdikjmhnjlalbabGreat.tm Go.Proofs.YtdikjmhnjlalbabGreat.lib Go.Proofs.YtdikjmhnjlalbabGreat.rdr Go.Proofs.YtdikjmhnjlalbabGreat.bld Go.Proofs.YtdikjmhnjlalbabGreat.app Go.Proofs.YtdikjmhnjlalbabGreat.kmp
set_option linter.unusedVariables false

theorem law : Keyed Tryz.prog 9 := string_keyed Tryz.underlying9
theorem zeroE (w : World) : (zeroValue 4).run Tryz.prog w = .ok (.bool false) w := by kernel_rfl

abbrev yes : DataW Nat := .lit (.bool true)
def setD (L : List Bs) : DataW Nat := setOf yes (L.map Lit.string)

/-- Block b is a map that has just the texts of L, each with true. -/
def Kset (w : World) (b : Nat) (L : List Bs) : Prop :=
  w.ownsMap Tryz.prog 9 (plainElem Tryz.prog 4) b L.length (setD L) ∧ L.Nodup ∧ ∀ x ∈ L, x.length ≤ maxLen

theorem isKey {L : List Bs} : ∀ x ∈ L.map Lit.string, WideAt.IsKeyLit x := by
  intro x hx
  obtain ⟨y, _, rfl⟩ := List.mem_map.1 hx
  trivial

theorem any_inn (L : List Bs) (x : Bs) : (L.map Lit.string).any (fun y => y.sameKey (.string x)) = inn L x := by
  by_cases h : x ∈ L
  · rw [inn_iff.2 h, List.any_eq_true]
    exact ⟨.string x, List.mem_map.2 ⟨x, h, rfl⟩, WideAt.sameKey_self trivial⟩
  · rw [inn_no.2 h, List.any_eq_false]
    intro y hy e
    obtain ⟨z, hz, rfl⟩ := List.mem_map.1 hy
    have := WideAt.sameKey_eq e
    cases this
    exact h hz

theorem addKeys : ∀ (xs acc : List Bs), (acc ++ xs).Nodup → (xs.map Lit.string).foldl addKey (acc.map Lit.string) = (acc ++ xs).map Lit.string
  | [], acc, _ => by simp
  | x :: xs, acc, h => by
    have hx : ¬ x ∈ acc := fun hx => (List.nodup_append.1 h).2.2 x hx x (by simp) rfl
    rw [List.map_cons, List.foldl_cons]
    have e : addKey (acc.map Lit.string) (.string x) = (acc ++ [x]).map Lit.string := by
      unfold addKey
      rw [any_inn, inn_no.2 hx]
      simp
    rw [e, addKeys xs (acc ++ [x]) (by simpa using h)]
    simp

theorem size_set {L : List Bs} (h : L.Nodup) : Maps.size (setD L) = L.length := by
  unfold setD
  rw [size_setOf yes _ isKey]
  have := addKeys L [] (by simpa using h)
  simp at this
  rw [this]
  simp

theorem atKey_fold {H : Type} (u z : DataW H) (k : Lit) : ∀ (acc : List Lit) (m : DataW H), IsMap m → (∀ x ∈ acc, WideAt.IsKeyLit x) →
    (acc.foldl (fun m x => m.put x u) m).atKey k z = if acc.any (fun x => x.sameKey k) then u else m.atKey k z
  | [], m, _, _ => by simp
  | x :: r, m, hm, h => by
    rw [List.foldl_cons, atKey_fold u z k r (m.put x u) (hm.put x u) fun y hy => h y (by simp [hy])]
    by_cases e : k = x
    · subst e
      rw [atKey_put_same hm (h k (by simp))]
      simp [WideAt.sameKey_self (h k (by simp))]
    · rw [atKey_put_other e, List.any_cons, sameKey_ne (fun e' => e e'.symm)]
      simp

theorem atKey_set (L : List Bs) (x : Bs) : (setD L).atKey (.string x) (.lit (.bool false)) = .lit (.bool (inn L x)) := by
  unfold setD setOf
  rw [atKey_fold yes _ _ _ _ isMap_empty isKey, any_inn]
  cases inn L x <;> simp [DataW.atKey]

theorem bool_inv {v : Value} {c : Bool} {ps : List MemPlace} (h : plainElem (H := Nat) Tryz.prog 4 v = some (.lit (.bool c), ps)) : v = .bool c := by
  have e := Tryz.underlying4
  generalize Tryz.prog = P at h e
  unfold plainElem at h
  rw [e] at h
  cases v <;> simp at h
  rw [h.1]

theorem key_str (x : Bs) (hx : x.length ≤ maxLen) : keyOf Tryz.prog 9 (str x) = some (.string x) :=
  Go.WideMaps.keyOf_string_mk (s := ⟨x.toArray⟩) Tryz.underlying9 (by show x.toArray.size ≤ maxLen; simpa using hx)

section
variable {w w' : World} {b : Nat} {L : List Bs}

theorem Kset.look (h : Kset w b L) (x : Bs) (hx : x.length ≤ maxLen) : (Instr.lookup 43 (.map (some b)) (str x) false).run Tryz.prog w = .ok (.bool (inn L x)) w := by
  obtain ⟨v, ps, hrun, hv⟩ := h.1.lookup law Tryz.underlying43 (zeroE w) (plainElem_bool Tryz.underlying4 false) (key_str x hx)
  rw [atKey_set] at hv
  rw [hrun, bool_inv hv]

theorem Kset.len (h : Kset w b L) (ty : TypeId) : (Builtin.len_ #[43] ty #[.map (some b)]).run Tryz.prog w = .ok (.int .i64 (L.length : Int)) w := by
  rw [← size_set h.2.1]
  exact h.1.len Tryz.underlying43 ty

theorem Kset.lt (h : Kset w b L) : b < w.heap.size := h.1.lt

theorem Kset.same (h : Kset w b L) (hb : w'.heap[b]? = w.heap[b]?) : Kset w' b L := by
  obtain ⟨⟨es, clock, h1, h2, h3, h4⟩, hn, hl⟩ := h
  exact ⟨⟨es, clock, hb.trans h1, h2, h3, h4⟩, hn, hl⟩

theorem Kset.below {B : Nat} (h : Kset w b L) (k : Below B w w') (hb : b < B) : Kset w' b L := h.same (k.block b hb)

theorem Kset.made (w : World) : Kset (w.alloc (.map #[] 0)) w.heap.size [] := ⟨World.ownsMap_made w _ _ _, by simp, by simp⟩

theorem Kset.put (h : Kset w b L) (x : Bs) (hx : x.length ≤ maxLen) (hn : ¬ x ∈ L) (hl : L.length < maxLen) :
    ∃ w', (Instr.mapUpdate 43 (.map (some b)) (str x) (.bool true)).run Tryz.prog w = .ok () w' ∧ Kset w' b (L ++ [x]) ∧ w.grownBy w' (some b) := by
  obtain ⟨w', hrun, h1, h2⟩ := h.1.update law Tryz.underlying43 hl (key_str x hx) (plainElem_bool Tryz.underlying4 true)
  refine ⟨w', hrun, ⟨?_, nodup_snoc h.2.1 hn, fun y hy => ?_⟩, h2⟩
  · have e : setD (L ++ [x]) = (setD L).put (.string x) yes := by unfold setD; rw [List.map_append, List.map_cons, List.map_nil, setOf_snoc]
    rw [e, List.length_append]
    exact h1
  · rcases List.mem_append.1 hy with hy | hy
    · exact h.2.2 y hy
    · simp only [List.mem_singleton] at hy; subst hy; exact hx

end

section
variable {w : World} {ops : Array Oper} {rest : List Oper} {o : Oper} {a : Act} {Q : Exit → Act → World → Prop}

/-- The set is asked. -/
theorem wp_look (m k : Operand) (b : Nat) (L : List Bs) (x : Bs) (hgd : o.guard = none) (ho : o.op = Op.lookup 43 m k false)
    (hm : a.eval m = .map (some b)) (hk : a.eval k = str x) (h : Kset w b L) (hx : x.length ≤ maxLen)
    (hK : wpList Tryz.prog ops Q rest (a.put o.dst (.bool (inn L x))) w) : wpList Tryz.prog ops Q (o :: rest) a w := by
  refine wpList_plain hgd fun K' hK' => ?_
  have hrun := h.look x hx
  unfold Oper.wp
  simp [execOp, ho, hm, hk, hrun, Result.andThen]
  exact hK' _ _ hK

/-- One is put into the set. -/
theorem wp_mput (m k v : Operand) (b : Nat) (L : List Bs) (x : Bs) (hgd : o.guard = none) (ho : o.op = Op.mapUpdate 43 m k v)
    (hm : a.eval m = .map (some b)) (hk : a.eval k = str x) (hv : a.eval v = .bool true) (h : Kset w b L) (hx : x.length ≤ maxLen) (hn : ¬ x ∈ L) (hl : L.length < maxLen)
    (hK : ∀ w', Kset w' b (L ++ [x]) → w.grownBy w' (some b) → wpList Tryz.prog ops Q rest (a.put o.dst undef) w') : wpList Tryz.prog ops Q (o :: rest) a w := by
  refine wpList_plain hgd fun K' hK' => ?_
  obtain ⟨w', hrun, h1, h2⟩ := h.put x hx hn hl
  unfold Oper.wp
  simp [execOp, ho, hm, hk, hv, hrun, Result.andThen]
  exact hK' _ _ (hK w' h1 h2)

end

#print axioms wp_mput
end Go.Proofs.YtdikjmhnjlalbabGreat.kst

/- Small frames; a text and a code as a value. -/
namespace Go.Proofs.YtdikjmhnjlalbabGreat.sop
open Go.RowKit Go.Proofs.YtdikjmhnjlalbabGreat.tm Go.Proofs.YtdikjmhnjlalbabGreat.lib Go.Proofs.YtdikjmhnjlalbabGreat.rdr Go.Proofs.YtdikjmhnjlalbabGreat.bld Go.Proofs.YtdikjmhnjlalbabGreat.app
set_option linter.unusedVariables false

theorem fin2 {w w3 : World} {o0 : Obj} (h : Below (w.alloc o0).heap.size (w.alloc o0) w3) (a b : Value) (o : Obj) : Below w.heap.size w (((w3.setCell ⟨w.heap.size, 0, none⟩ a).setCell ⟨w.heap.size, 1, none⟩ b).alloc o) := by
  have hz := h.size
  simp at hz
  exact (((((Below.refl _ _).alloc (Nat.le_refl _) _).trans (h.mono (by simp))).setCell (by simp) _).setCell (by simp) _).alloc (by simp [World.setCell]; omega) _
theorem fin3 {w w3 : World} {o0 : Obj} (h : Below (w.alloc o0).heap.size (w.alloc o0) w3) (a b : Value) : Below w.heap.size w ((w3.setCell ⟨w.heap.size, 0, none⟩ a).setCell ⟨w.heap.size, 1, none⟩ b) :=
  ((((Below.refl _ _).alloc (Nat.le_refl _) _).trans (h.mono (by simp))).setCell (by simp) _).setCell (by simp) _

def outVal (r : Bs) (c : Int) : Value := .agg #[str r, .int .i64 c]

end Go.Proofs.YtdikjmhnjlalbabGreat.sop

/- Contract of the model's l02Say. -/
namespace Go.Proofs.YtdikjmhnjlalbabGreat.ssy
open Go.RowKit Go.Proofs.YtdikjmhnjlalbabGreat.tm Go.Proofs.YtdikjmhnjlalbabGreat.lib Go.Proofs.YtdikjmhnjlalbabGreat.rdr Go.Proofs.YtdikjmhnjlalbabGreat.bld Go.Proofs.YtdikjmhnjlalbabGreat.app Go.Proofs.YtdikjmhnjlalbabGreat.txo Go.Proofs.YtdikjmhnjlalbabGreat.sop
set_option linter.unusedVariables false

set_option maxHeartbeats 1000000 in
set_option maxRecDepth 100000 in
theorem say_one (op x : Bs) (g : Nat) (off : Nat) (cap : Nat) (w : World) (c0 : w.cell? ⟨g, off, none⟩ = some (str x)) (hop : op.length ≤ 10000) (hx : x.length ≤ 4000000) :
    Calls Tryz.prog 54 #[str op, .slice (some ⟨g, off, none⟩) 1 cap] w fun e w' => e = .returned (str (say op [x])) ∧ Below w.heap.size w w' := by
  obtain ⟨X, hX⟩ : ∃ X, X = say op [x] := ⟨_, rfl⟩
  obtain ⟨S1, hS1⟩ : ∃ S, 91 :: op = S := ⟨_, rfl⟩
  obtain ⟨S2, hS2⟩ : ∃ S, S1 ++ [32] = S := ⟨_, rfl⟩
  obtain ⟨S3, hS3⟩ : ∃ S, S2 ++ x = S := ⟨_, rfl⟩
  have l1 : S1.length ≤ 10001 := by rw [← hS1]; simp; omega
  have l2 : S2.length ≤ 10002 := by rw [← hS2]; simp; omega
  have l3 : S3.length ≤ 5000000 := by rw [← hS3]; simp; omega
  have f1 := add_at [91] op S1 hS1 (by omega)
  have f2 := add_at S1 [32] S2 hS2 (by omega)
  have f3 := add_at S2 x S3 hS3 (by omega)
  have f4 := add_at S3 [93] X (by rw [← hS3, ← hS2, ← hS1, hX]; simp [say]) (by rw [hX]; simp [say]; omega)
  rw [← hX]
  clear hX hS1 hS2 hS3 l1 l2 l3
  go_enter Tryz.func54, Tryz.ntmps54
  go_wp2_with fail
  refine wp_loop_rounds 2 ?_
  rw [rounds_succ]
  go_wp2_with fail
  rw [rounds_succ]
  go_wp2_with fail
  go_ret
  exact ⟨rfl, Below.refl _ _⟩

set_option maxHeartbeats 1000000 in
set_option maxRecDepth 100000 in
theorem say_two (op x y : Bs) (g : Nat) (off : Nat) (cap : Nat) (w : World) (c0 : w.cell? ⟨g, off, none⟩ = some (str x)) (c1 : w.cell? ⟨g, off + 1, none⟩ = some (str y)) (hop : op.length ≤ 10000) (hx : x.length ≤ 4000000) (hy : y.length ≤ 4000000) :
    Calls Tryz.prog 54 #[str op, .slice (some ⟨g, off, none⟩) 2 cap] w fun e w' => e = .returned (str (say op [x, y])) ∧ Below w.heap.size w w' := by
  obtain ⟨X, hX⟩ : ∃ X, X = say op [x, y] := ⟨_, rfl⟩
  obtain ⟨S1, hS1⟩ : ∃ S, 91 :: op = S := ⟨_, rfl⟩
  obtain ⟨S2, hS2⟩ : ∃ S, S1 ++ [32] = S := ⟨_, rfl⟩
  obtain ⟨S3, hS3⟩ : ∃ S, S2 ++ x = S := ⟨_, rfl⟩
  obtain ⟨S4, hS4⟩ : ∃ S, S3 ++ [32] = S := ⟨_, rfl⟩
  obtain ⟨S5, hS5⟩ : ∃ S, S4 ++ y = S := ⟨_, rfl⟩
  have l1 : S1.length ≤ 10001 := by rw [← hS1]; simp; omega
  have l2 : S2.length ≤ 10002 := by rw [← hS2]; simp; omega
  have l3 : S3.length ≤ 5000000 := by rw [← hS3]; simp; omega
  have l4 : S4.length ≤ 5000001 := by rw [← hS4]; simp; omega
  have l5 : S5.length ≤ 10000000 := by rw [← hS5]; simp; omega
  have f1 := add_at [91] op S1 hS1 (by omega)
  have f2 := add_at S1 [32] S2 hS2 (by omega)
  have f3 := add_at S2 x S3 hS3 (by omega)
  have f4 := add_at S3 [32] S4 hS4 (by omega)
  have f5 := add_at S4 y S5 hS5 (by omega)
  have f6 := add_at S5 [93] X (by rw [← hS5, ← hS4, ← hS3, ← hS2, ← hS1, hX]; simp [say]) (by rw [hX]; simp [say]; omega)
  rw [← hX]
  clear hX hS1 hS2 hS3 hS4 hS5 l1 l2 l3 l4 l5
  go_enter Tryz.func54, Tryz.ntmps54
  go_wp2_with fail
  refine wp_loop_rounds 3 ?_
  rw [rounds_succ]
  go_wp2_with fail
  rw [rounds_succ]
  go_wp2_with fail
  rw [rounds_succ]
  go_wp2_with fail
  go_ret
  exact ⟨rfl, Below.refl _ _⟩

end Go.Proofs.YtdikjmhnjlalbabGreat.ssy
