/- A map of buckets by their streets: made, asked, put into, counted, ranged over, taken out of. -/
import Derived.Test.YtdikjmhnjlalbaaApp
import Derived.Test.YtdikjmhnjlalbaaGdm
import Derived.Test.YtdikjmhnjlalbaaRbk
import Derived.Maps.OwnSet
import Derived.Maps.OwnOps
import Derived.Maps.RangeWalk
import Derived.Sort.KeysCollected
import Derived.Carry
namespace Go.Proofs.Ytdikjmhnjlalbaa.gmp
open Go.RowKit Go.Maps Go.Proofs.Ytdikjmhnjlalbaa.tm Go.Proofs.Ytdikjmhnjlalbaa.lib Go.Proofs.Ytdikjmhnjlalbaa.rdr Go.Proofs.Ytdikjmhnjlalbaa.bld Go.Proofs.Ytdikjmhnjlalbaa.app Go.Proofs.Ytdikjmhnjlalbaa.gdp Go.Proofs.Ytdikjmhnjlalbaa.gdm Go.Proofs.Ytdikjmhnjlalbaa.rbk
set_option linter.unusedVariables false

theorem law : Keyed Try.prog 9 := string_keyed Try.underlying9
theorem mapT : Try.prog.underlying 76 = some (.map 9 71) := Try.underlying76
def bk0 : Bk := ⟨[], 0, 0⟩
theorem zeroE (w : World) : (zeroValue 71).run Try.prog w = .ok (bkV bk0) w := by kernel_rfl

/-- What a bucket reads as. -/
def dat (b : Bk) : DataW Nat := .agg [.lit (.string b.st), .lit (.int .i64 b.left), .lit (.int .i64 b.at_)]
def bkEl : Value → Option (DataW Nat × List MemPlace)
  | .agg ⟨[.string s, .int .i64 l, .int .i64 t]⟩ => some (.agg [.lit (.string s.data.toList), .lit (.int .i64 l), .lit (.int .i64 t)], [])
  | _ => none
theorem bkEl_mk (b : Bk) : bkEl (bkV b) = some (dat b, []) := rfl
theorem bkEl_inv {v : Value} {z : DataW Nat × List MemPlace} (h : bkEl v = some z) : ∃ b : Bk, v = bkV b ∧ z.1 = dat b := by
  unfold bkEl at h
  split at h
  · rename_i s l t
    cases h
    exact ⟨⟨s.data.toList, l, t⟩, by simp [bkV, bkA, str], rfl⟩
  · cases h
theorem dat_inj {a b : Bk} (h : dat a = dat b) : a = b := by
  obtain ⟨x1, x2, x3⟩ := a
  obtain ⟨y1, y2, y3⟩ := b
  unfold dat at h
  simp at h
  obtain ⟨rfl, rfl, rfl⟩ := h
  rfl

/-- The datum D holds just the buckets of M, each by its street. -/
structure View (D : DataW Nat) (M : List Bk) : Prop where
  at_ : ∀ x z, D.atKey (.string x) z = match gdm.look M x with | none => z | some b => dat b
  nd : (sts M).Nodup
  short : ∀ b ∈ M, b.st.length ≤ maxLen

theorem View.has {D : DataW Nat} {M : List Bk} (h : View D M) (x : Bs) : Maps.has D (.string x) = (gdm.look M x).isSome := by
  cases e : gdm.look M x with
  | none => exact has_false_of_atKey fun z => by rw [h.at_ x z, e]
  | some b => exact has_true_of_atKey (y := dat b) fun z => by rw [h.at_ x z, e]
theorem View.nil : View (.map []) [] := ⟨fun x z => rfl, by simp [sts], by simp⟩
theorem View.put {D : DataW Nat} {M : List Bk} (h : View D M) (hD : IsMap D) (b : Bk) (hb : b.st.length ≤ maxLen) : View (D.put (.string b.st) (dat b)) (set M b) := by
  refine ⟨fun x z => ?_, set_sts M b h.nd, fun c hc => ?_⟩
  · rw [look_set M b h.nd x]
    by_cases e : x = b.st
    · subst e
      rw [if_pos rfl, atKey_put_same (k := .string b.st) hD trivial]
    · rw [if_neg e, atKey_put_other (fun e' => e (by cases e'; rfl)), h.at_ x z]
  · rcases mem_set.1 hc with ⟨h1, _⟩ | rfl
    · exact h.short c h1
    · exact hb
theorem View.del {D : DataW Nat} {M : List Bk} (h : View D M) (y : Bs) : View (D.del (.string y)) (del M y) := by
  refine ⟨fun x z => ?_, del_sts M y h.nd, fun c hc => h.short c (mem_del.1 hc).1⟩
  rw [look_del M y h.nd x]
  by_cases e : x = y
  · subst e
    rw [if_pos rfl, atKey_del_same]
  · rw [if_neg e, atKey_del_other (fun e' => e (by cases e'; rfl)), h.at_ x z]

/-- Block b is a map of just the buckets of M. -/
def Kmp (w : World) (b n : Nat) (M : List Bk) : Prop := ∃ D, w.ownsMap Try.prog 9 bkEl b n D ∧ View D M
/-- .. while it is ranged over, by the iterator at r. -/
def Krg (w : World) (b r n : Nat) (M : List Bk) (left : Lit → Bool) (cnt : Nat) : Prop := ∃ D, w.ranges Try.prog 9 bkEl b r n D left cnt ∧ View D M

theorem key_str (x : Bs) (hx : x.length ≤ maxLen) : keyOf Try.prog 9 (str x) = some (.string x) :=
  Go.WideMaps.keyOf_string_mk (s := ⟨x.toArray⟩) Try.underlying9 (by show x.toArray.size ≤ maxLen; simpa using hx)

theorem strKeys_view {w : World} {b n : Nat} {D : DataW Nat} {M : List Bk} (h : w.ownsMap Try.prog 9 bkEl b n D) (v : View D M) : (sts M).Perm (strKeys D) := by
  refine Collected.perm (left := fun _ => false) ⟨v.nd, fun x => ?_⟩ h law Try.underlying9 fun _ => rfl
  rw [v.has x]
  constructor
  · intro hx
    unfold sts at hx
    obtain ⟨c, hc, rfl⟩ := List.mem_map.1 hx
    rw [look_mem v.nd hc]
    exact ⟨rfl, rfl⟩
  · rintro ⟨hx, _⟩
    cases e : gdm.look M x with
    | none => rw [e] at hx; cases hx
    | some c =>
      obtain ⟨h1, h2⟩ := look_some e
      exact List.mem_map.2 ⟨c, h1, h2⟩
theorem size_strKeys {w : World} {b n : Nat} {D : DataW Nat} (h : w.ownsMap Try.prog 9 bkEl b n D) : Maps.size D = (strKeys D).length := by
  obtain ⟨es, rfl, _⟩ := h.keysOf
  simp [strKeys, Maps.size]
theorem size_view {w : World} {b n : Nat} {D : DataW Nat} {M : List Bk} (h : w.ownsMap Try.prog 9 bkEl b n D) (v : View D M) : Maps.size D = M.length := by
  rw [size_strKeys h, ← (strKeys_view h v).length_eq]
  simp [sts]

section
variable {w w' : World} {b n : Nat} {M : List Bk}
theorem Kmp.lt (h : Kmp w b n M) : b < w.heap.size := by obtain ⟨D, h, _⟩ := h; exact h.lt
theorem Kmp.nd (h : Kmp w b n M) : (sts M).Nodup := by obtain ⟨D, _, v⟩ := h; exact v.nd
theorem Kmp.same (h : Kmp w b n M) (hb : w'.heap[b]? = w.heap[b]?) : Kmp w' b n M := by
  obtain ⟨D, ⟨es, clock, h1, h2, h3, h4⟩, v⟩ := h
  exact ⟨D, ⟨es, clock, hb.trans h1, h2, h3, h4⟩, v⟩
theorem Kmp.below {B : Nat} (h : Kmp w b n M) (k : Below B w w') (hb : b < B) : Kmp w' b n M := h.same (k.block b hb)
theorem Kmp.made (w : World) : Kmp (w.alloc (.map #[] 0)) w.heap.size 0 [] := ⟨_, World.ownsMap_made w _ _ _, View.nil⟩
theorem Kmp.mono {n' : Nat} (h : Kmp w b n M) (hn : n ≤ n') : Kmp w b n' M := by obtain ⟨D, h, v⟩ := h; exact ⟨D, h.mono hn, v⟩

theorem Kmp.len (h : Kmp w b n M) (ty : TypeId) : (Builtin.len_ #[76] ty #[.map (some b)]).run Try.prog w = .ok (.int .i64 (M.length : Int)) w := by
  obtain ⟨D, h, v⟩ := h
  rw [← size_view h v]
  exact h.len mapT ty

/-- What is there at a street, or the bucket of noughts. -/
def got (M : List Bk) (x : Bs) : Bk := (gdm.look M x).getD bk0

theorem Kmp.look (h : Kmp w b n M) (x : Bs) (hx : x.length ≤ maxLen) : (Instr.lookup 76 (.map (some b)) (str x) false).run Try.prog w = .ok (bkV (got M x)) w := by
  obtain ⟨D, h, v⟩ := h
  obtain ⟨u, ps, hrun, hv⟩ := h.lookup law mapT (zeroE w) (bkEl_mk bk0) (key_str x hx)
  rw [v.at_] at hv
  obtain ⟨c, rfl, hc⟩ := bkEl_inv hv
  have : c = got M x := by
    unfold got
    cases e : gdm.look M x with
    | none => rw [e] at hc; exact (dat_inj hc).symm
    | some d => rw [e] at hc; exact (dat_inj hc).symm
  rw [hrun, this]
theorem Kmp.look_ok (h : Kmp w b n M) (x : Bs) (hx : x.length ≤ maxLen) : (Instr.lookup 76 (.map (some b)) (str x) true).run Try.prog w = .ok (.tuple #[bkV (got M x), .bool (gdm.look M x).isSome]) w := by
  obtain ⟨D, h, v⟩ := h
  obtain ⟨u, ps, hrun, hv⟩ := h.look_ok law mapT (zeroE w) (bkEl_mk bk0) (key_str x hx)
  rw [v.at_] at hv
  obtain ⟨c, rfl, hc⟩ := bkEl_inv hv
  have : c = got M x := by
    unfold got
    cases e : gdm.look M x with
    | none => rw [e] at hc; exact (dat_inj hc).symm
    | some d => rw [e] at hc; exact (dat_inj hc).symm
  rw [hrun, this, v.has x]

theorem Kmp.put (h : Kmp w b n M) (c : Bk) (hx : c.st.length ≤ maxLen) (hl : n < maxLen) :
    ∃ w', (Instr.mapUpdate 76 (.map (some b)) (str c.st) (bkV c)).run Try.prog w = .ok () w' ∧ Kmp w' b (n + 1) (set M c) ∧ w.grownBy w' (some b) := by
  obtain ⟨D, h, v⟩ := h
  obtain ⟨w', hrun, h1, h2⟩ := h.update law mapT hl (key_str c.st hx) (bkEl_mk c)
  exact ⟨w', hrun, ⟨_, h1, v.put h.isMap c hx⟩, h2⟩
end

section
variable {w : World} {ops : Array Oper} {rest : List Oper} {o : Oper} {a : Act} {Q : Exit → Act → World → Prop}

theorem wp_look (m k : Operand) (b n : Nat) (M : List Bk) (x : Bs) (hgd : o.guard = none) (ho : o.op = Op.lookup 76 m k false)
    (hm : a.eval m = .map (some b)) (hk : a.eval k = str x) (h : Kmp w b n M) (hx : x.length ≤ maxLen)
    (hK : wpList Try.prog ops Q rest (a.put o.dst (bkV (got M x))) w) : wpList Try.prog ops Q (o :: rest) a w := by
  refine wpList_plain hgd fun K' hK' => ?_
  have hrun := h.look x hx
  unfold Oper.wp
  simp [execOp, ho, hm, hk, hrun, Result.andThen]
  exact hK' _ _ hK
theorem wp_look_ok (m k : Operand) (b n : Nat) (M : List Bk) (x : Bs) (hgd : o.guard = none) (ho : o.op = Op.lookup 76 m k true)
    (hm : a.eval m = .map (some b)) (hk : a.eval k = str x) (h : Kmp w b n M) (hx : x.length ≤ maxLen)
    (hK : wpList Try.prog ops Q rest (a.put o.dst (.tuple #[bkV (got M x), .bool (gdm.look M x).isSome])) w) : wpList Try.prog ops Q (o :: rest) a w := by
  refine wpList_plain hgd fun K' hK' => ?_
  have hrun := h.look_ok x hx
  unfold Oper.wp
  simp [execOp, ho, hm, hk, hrun, Result.andThen]
  exact hK' _ _ hK
theorem wp_put (m k v : Operand) (b n : Nat) (M : List Bk) (c : Bk) (hgd : o.guard = none) (ho : o.op = Op.mapUpdate 76 m k v)
    (hm : a.eval m = .map (some b)) (hk : a.eval k = str c.st) (hv : a.eval v = bkV c) (h : Kmp w b n M) (hx : c.st.length ≤ maxLen) (hl : n < maxLen)
    (hK : ∀ w', Kmp w' b (n + 1) (set M c) → w.grownBy w' (some b) → wpList Try.prog ops Q rest (a.put o.dst undef) w') : wpList Try.prog ops Q (o :: rest) a w := by
  refine wpList_plain hgd fun K' hK' => ?_
  obtain ⟨w', hrun, h1, h2⟩ := h.put c hx hl
  unfold Oper.wp
  simp [execOp, ho, hm, hk, hv, hrun, Result.andThen]
  exact hK' _ _ (hK w' h1 h2)
theorem wp_range (m : Operand) (b n : Nat) (M : List Bk) (hgd : o.guard = none) (ho : o.op = Op.range 76 m)
    (hm : a.eval m = .map (some b)) (h : Kmp w b n M)
    (hK : ∀ w' left, Krg w' b w.heap.size n M left M.length → (∀ x, left (.string x) = (gdm.look M x).isSome) → w.grownBy w' none → w'.heap.size = w.heap.size + 1 → wpList Try.prog ops Q rest (a.put o.dst (.pointer (some ⟨w.heap.size, 0, none⟩))) w') :
    wpList Try.prog ops Q (o :: rest) a w := by
  obtain ⟨D, h, v⟩ := h
  refine wpList_range_own w hgd m _ ho _ _ law mapT bkEl b n D hm h fun w' h1 h2 h3 => ?_
  rw [size_view h v] at h1
  exact hK w' _ ⟨D, h1, v⟩ v.has h2 h3
theorem wp_next (it : Operand) (b r n : Nat) (M : List Bk) (left : Lit → Bool) (cnt : Nat) (hgd : o.guard = none) (ho : o.op = Op.next it false)
    (hit : a.eval it = .pointer (some ⟨r, 0, none⟩)) (h : Krg w b r n M left cnt)
    (hDone : cnt = 0 → (∀ kl, left kl = false) → wpList Try.prog ops Q rest (a.put o.dst (.tuple #[.bool false])) w)
    (hMore : ∀ (c : Bk) (w' : World) (cnt' : Nat), left (.string c.st) = true → c ∈ M → Krg w' b r n M (fun z => left z && !z.sameKey (.string c.st)) cnt' → cnt' < cnt →
      w.grownBy w' (some r) → w'.heap.size = w.heap.size → (Instr.entry (.pointer (some ⟨r, 0, none⟩))).run Try.prog w' = .ok (.tuple #[str c.st, bkV c]) w' → wpList Try.prog ops Q rest (a.put o.dst (.tuple #[.bool true, str c.st, bkV c])) w')
    : wpList Try.prog ops Q (o :: rest) a w := by
  obtain ⟨D, h, v⟩ := h
  refine wpList_next_ranges w hgd it ho 9 law bkEl (fun x : Bs => str x) bkV (fun key kl hk => ?_) (fun u y hu => ?_) b r n D left cnt hit h hDone fun x c kl y w' cnt' hk hl hR hat hrg hlt hgr hsz hen => ?_
  · obtain ⟨x, hx, _⟩ := Maps.keyOf_str Try.underlying9 hk
    exact ⟨x, hx⟩
  · obtain ⟨c, hc, _⟩ := bkEl_inv hu
    exact ⟨c, hc⟩
  · obtain ⟨x', ex, rfl, _⟩ := Maps.keyOf_str Try.underlying9 hk
    have exx : x = x' := by
      have : str x = str x' := ex
      simpa [str] using this
    subst exx
    rw [bkEl_mk] at hR
    cases hR
    have hlk : gdm.look M x = some c := by
      have h1 := hat .nil
      rw [v.at_] at h1
      cases e : gdm.look M x with
      | none => rw [e] at h1; cases h1
      | some d => rw [e] at h1; rw [dat_inj h1]
    obtain ⟨hm, hs⟩ := look_some hlk
    subst hs
    exact hMore c w' cnt' hl hm ⟨D, hrg, v⟩ hlt hgr hsz hen
theorem wp_delete (m x : Operand) (b r n : Nat) (M : List Bk) (left : Lit → Bool) (cnt : Nat) (y : Bs) (hgd : o.guard = none)
    (ho : o.op = Op.call { callee := Callee.builtin Builtin.delete, args := #[m, x], argTypes := #[76, 9] })
    (hm : a.eval m = .map (some b)) (hx : a.eval x = str y) (hy : y.length ≤ maxLen) (h : Krg w b r n M left cnt)
    (hK : ∀ w' cnt', Krg w' b r n (del M y) (fun z => left z && !z.sameKey (.string y)) cnt' → cnt' ≤ cnt → w.mapTurned w' b → wpList Try.prog ops Q rest (a.put o.dst (.tuple #[])) w') :
    wpList Try.prog ops Q (o :: rest) a w := by
  obtain ⟨D, h, v⟩ := h
  exact wpList_delete_ranges w hgd m x _ _ ho _ law mapT bkEl b r n D left cnt hm h (str y) (.string y) hx (key_str y hy) fun w' cnt' h1 h2 h3 => hK w' cnt' ⟨_, h1, v.del y⟩ h2 h3
end
theorem Krg.kmp {w : World} {b r n : Nat} {M : List Bk} {left : Lit → Bool} {cnt : Nat} (h : Krg w b r n M left cnt) : Kmp w b n M := by
  obtain ⟨D, h, v⟩ := h
  exact ⟨D, h.owns, v⟩
theorem Krg.same {w w' : World} {b r n : Nat} {M : List Bk} {left : Lit → Bool} {cnt : Nat} (h : Krg w b r n M left cnt) (hb : w'.heap[b]? = w.heap[b]?) (hr : w'.heap[r]? = w.heap[r]?) : Krg w' b r n M left cnt := by
  obtain ⟨D, ⟨es, clock, since, seen, c0, h1, h2, h3, h4, h5, h6⟩, v⟩ := h
  exact ⟨D, ⟨es, clock, since, seen, c0, hb.trans h1, h2, h3, h4, hr.trans h5, h6⟩, v⟩
theorem Krg.left_eq {w : World} {b r n : Nat} {M : List Bk} {left : Lit → Bool} {cnt : Nat} (h : Krg w b r n M left cnt) : w.rangeLeft b r = cnt := by
  obtain ⟨D, h, v⟩ := h
  exact h.left_eq
theorem Krg.lt {w : World} {b r n : Nat} {M : List Bk} {left : Lit → Bool} {cnt : Nat} (h : Krg w b r n M left cnt) : r < w.heap.size ∧ b < w.heap.size := by
  have h1 := h.kmp.lt
  obtain ⟨D, h, v⟩ := h
  exact ⟨h.lt, h1⟩
theorem few {w : World} {b n : Nat} {M : List Bk} (h : Kmp w b n M) : M.length ≤ n := by
  obtain ⟨D, h, v⟩ := h
  rw [← size_view h v]
  exact h.size_le
#print axioms wp_next
end Go.Proofs.Ytdikjmhnjlalbaa.gmp
