/- Several small texts, one behind the other. -/
import Derived.Test.YtonjohlecomeoaaGreatQc
import Derived.Test.YtonjohlecomeoaaGreatQd
import Derived.WalkLawsBesides
import Derived.Test.YtonjohlecomeoaaGreatQb
import Derived.Test.YtonjohlecomeoaaGreatQa
import Derived.Defers
import Derived.Recover

/- Contracts of the methods args and op of the seven kinds of terms; how an interface value finds them. -/
namespace Go.Proofs.YtonjohlecomeoaaGreat.arg
open Go.RowKit Go.Proofs.YtonjohlecomeoaaGreat.tm Go.Proofs.YtonjohlecomeoaaGreat.lib Go.Proofs.YtonjohlecomeoaaGreat.rdr Go.Proofs.YtonjohlecomeoaaGreat.bld Go.Proofs.YtonjohlecomeoaaGreat.app
set_option linter.unusedVariables false

def ty : Tm → TypeId
  | .atom _ => 151
  | .pair _ _ => 191
  | .hash _ => 193
  | .mac _ _ => 195
  | .shut _ _ => 178
  | .pub _ => 169
  | .dh _ _ => 204

def inner : Tm → Value
  | .atom a => str a
  | .pair l r => .agg #[val l, val r]
  | .hash x => .agg #[val x]
  | .mac k x => .agg #[val k, val x]
  | .shut k x => .agg #[val k, val x]
  | .pub a => .agg #[str a]
  | .dh a b => .agg #[str a, str b]

def argsFn : Tm → FuncId
  | .atom _ => 229
  | .pair _ _ => 235
  | .hash _ => 237
  | .mac _ _ => 239
  | .shut _ _ => 233
  | .pub _ => 231
  | .dh _ _ => 241

def opFn : Tm → FuncId
  | .atom _ => 230
  | .pair _ _ => 236
  | .hash _ => 238
  | .mac _ _ => 240
  | .shut _ _ => 234
  | .pub _ => 232
  | .dh _ _ => 242

theorem val_eq (T : Tm) : val T = .iface (ty T) (inner T) := by cases T <;> rfl

theorem met_args (T : Tm) (w : World) : (method 352 (ty T) (inner T) "loop.example/g00784/impl.args").run Tryz.prog w = .ok (argsFn T, inner T) w := by
  cases T <;> kernel_rfl
theorem met_op (T : Tm) (w : World) : (method 352 (ty T) (inner T) "loop.example/g00784/impl.op").run Tryz.prog w = .ok (opFn T, inner T) w := by
  cases T <;> kernel_rfl
theorem inv_args (T : Tm) (w : World) : (callFunc (argsFn T) #[inner T]).run Tryz.prog w = .ok (.enter (argsFn T) #[inner T]) w := by
  cases T <;> kernel_rfl
theorem inv_op (T : Tm) (w : World) : (callFunc (opFn T) #[inner T]).run Tryz.prog w = .ok (.enter (opFn T) #[inner T]) w := by
  cases T <;> kernel_rfl

/-- A row just made. -/
theorem tms_new1 (w : World) (g : Nat) (hg : g = w.heap.size) (B : Nat) (hB : B ≤ w.heap.size) (x : Tm) (u : Value) (hu : u = val x) : Tms (w.alloc (.cells #[u] 122)) B (.slice (some ⟨g, 0, none⟩) 1 1) [x] := by
  subst hg
  subst hu
  exact ⟨rfl, .inr ⟨w.heap.size, 1, #[val x], rfl, hB, heap_alloc_new _ _, Nat.le_refl _, by unfold maxLen; omega, rfl, rfl⟩⟩
theorem tms_new2 (w : World) (g : Nat) (hg : g = w.heap.size) (B : Nat) (hB : B ≤ w.heap.size) (x y : Tm) (u v : Value) (hu : u = val x) (hv : v = val y) : Tms (w.alloc (.cells #[u, v] 122)) B (.slice (some ⟨g, 0, none⟩) 2 2) [x, y] := by
  subst hg
  subst hu
  subst hv
  exact ⟨rfl, .inr ⟨w.heap.size, 2, #[val x, val y], rfl, hB, heap_alloc_new _ _, Nat.le_refl _, by unfold maxLen; omega, rfl, rfl⟩⟩

def Kids (w : World) (ks : List Tm) (e : Ending) (w' : World) : Prop := ∃ v, e = .returned v ∧ Below w.heap.size w w' ∧ Tms w' w.heap.size v ks

set_option maxRecDepth 100000 in
theorem args_calls (T : Tm) (w : World) : Calls Tryz.prog (argsFn T) #[inner T] w (Kids w T.kids) := by
  cases T with
  | atom a =>
    simp only [argsFn, inner, Tm.kids]
    go_enter Tryz.func229, Tryz.ntmps229
    go_wp2_with fail
    go_ret
    exact ⟨_, rfl, Below.refl _ _, Tms.nil _ _⟩
  | pair x y =>
    simp only [argsFn, inner, Tm.kids]
    obtain ⟨tx, vx, ex⟩ := val_iface x
    obtain ⟨ty, vy, ey⟩ := val_iface y
    have EX := Lib.hid ex.symm
    have EY := Lib.hid ey.symm
    rw [ex, ey]
    clear ex ey
    go_enter Tryz.func235, Tryz.ntmps235
    go_wp2_with fail
    go_ret
    exact ⟨_, rfl, ((Below.refl _ _).alloc (Nat.le_refl _) _).alloc (by simp) _, tms_new2 (w.alloc _) _ (by simp) w.heap.size (by simp) x y _ _ EX.out EY.out⟩
  | hash x =>
    simp only [argsFn, inner, Tm.kids]
    obtain ⟨tx, vx, ex⟩ := val_iface x
    have EX := Lib.hid ex.symm
    rw [ex]
    clear ex
    go_enter Tryz.func237, Tryz.ntmps237
    go_wp2_with fail
    go_ret
    exact ⟨_, rfl, ((Below.refl _ _).alloc (Nat.le_refl _) _).alloc (by simp) _, tms_new1 (w.alloc _) _ (by simp) w.heap.size (by simp) x _ EX.out⟩
  | mac x y =>
    simp only [argsFn, inner, Tm.kids]
    obtain ⟨tx, vx, ex⟩ := val_iface x
    obtain ⟨ty, vy, ey⟩ := val_iface y
    have EX := Lib.hid ex.symm
    have EY := Lib.hid ey.symm
    rw [ex, ey]
    clear ex ey
    go_enter Tryz.func239, Tryz.ntmps239
    go_wp2_with fail
    go_ret
    exact ⟨_, rfl, ((Below.refl _ _).alloc (Nat.le_refl _) _).alloc (by simp) _, tms_new2 (w.alloc _) _ (by simp) w.heap.size (by simp) x y _ _ EX.out EY.out⟩
  | shut x y =>
    simp only [argsFn, inner, Tm.kids]
    obtain ⟨tx, vx, ex⟩ := val_iface x
    obtain ⟨ty, vy, ey⟩ := val_iface y
    have EX := Lib.hid ex.symm
    have EY := Lib.hid ey.symm
    rw [ex, ey]
    clear ex ey
    go_enter Tryz.func233, Tryz.ntmps233
    go_wp2_with fail
    go_ret
    exact ⟨_, rfl, ((Below.refl _ _).alloc (Nat.le_refl _) _).alloc (by simp) _, tms_new2 (w.alloc _) _ (by simp) w.heap.size (by simp) x y _ _ EX.out EY.out⟩
  | pub a =>
    simp only [argsFn, inner, Tm.kids]
    go_enter Tryz.func231, Tryz.ntmps231
    go_wp2_with fail
    go_ret
    exact ⟨_, rfl, ((Below.refl _ _).alloc (Nat.le_refl _) _).alloc (by simp) _, tms_new1 (w.alloc _) _ (by simp) w.heap.size (by simp) (.atom a) _ rfl⟩
  | dh a b =>
    simp only [argsFn, inner, Tm.kids]
    go_enter Tryz.func241, Tryz.ntmps241
    go_wp2_with fail
    go_ret
    exact ⟨_, rfl, ((Below.refl _ _).alloc (Nat.le_refl _) _).alloc (by simp) _, tms_new2 (w.alloc _) _ (by simp) w.heap.size (by simp) (.atom a) (.atom b) _ _ rfl rfl⟩

set_option maxRecDepth 100000 in
theorem op_calls (T : Tm) (w : World) : Calls Tryz.prog (opFn T) #[inner T] w fun e w' => e = .returned (str T.op) ∧ Below w.heap.size w w' := by
  cases T with
  | atom a =>
    simp only [opFn, inner, Tm.op]
    go_enter Tryz.func230, Tryz.ntmps230
    go_wp2_with fail
    go_ret
    first | exact ⟨rfl, Below.refl _ _⟩ | exact ⟨rfl, (Below.refl _ _).alloc (Nat.le_refl _) _⟩
  | pair x y =>
    simp only [opFn, inner, Tm.op]
    obtain ⟨tx, vx, ex⟩ := val_iface x
    rw [ex]
    clear ex
    obtain ⟨ty, vy, ey⟩ := val_iface y
    rw [ey]
    clear ey
    go_enter Tryz.func236, Tryz.ntmps236
    go_wp2_with fail
    go_ret
    first | exact ⟨rfl, Below.refl _ _⟩ | exact ⟨rfl, (Below.refl _ _).alloc (Nat.le_refl _) _⟩
  | hash x =>
    simp only [opFn, inner, Tm.op]
    obtain ⟨tx, vx, ex⟩ := val_iface x
    rw [ex]
    clear ex
    go_enter Tryz.func238, Tryz.ntmps238
    go_wp2_with fail
    go_ret
    first | exact ⟨rfl, Below.refl _ _⟩ | exact ⟨rfl, (Below.refl _ _).alloc (Nat.le_refl _) _⟩
  | mac x y =>
    simp only [opFn, inner, Tm.op]
    obtain ⟨tx, vx, ex⟩ := val_iface x
    rw [ex]
    clear ex
    obtain ⟨ty, vy, ey⟩ := val_iface y
    rw [ey]
    clear ey
    go_enter Tryz.func240, Tryz.ntmps240
    go_wp2_with fail
    go_ret
    first | exact ⟨rfl, Below.refl _ _⟩ | exact ⟨rfl, (Below.refl _ _).alloc (Nat.le_refl _) _⟩
  | shut x y =>
    simp only [opFn, inner, Tm.op]
    obtain ⟨tx, vx, ex⟩ := val_iface x
    rw [ex]
    clear ex
    obtain ⟨ty, vy, ey⟩ := val_iface y
    rw [ey]
    clear ey
    go_enter Tryz.func234, Tryz.ntmps234
    go_wp2_with fail
    go_ret
    first | exact ⟨rfl, Below.refl _ _⟩ | exact ⟨rfl, (Below.refl _ _).alloc (Nat.le_refl _) _⟩
  | pub a =>
    simp only [opFn, inner, Tm.op]
    go_enter Tryz.func232, Tryz.ntmps232
    go_wp2_with fail
    go_ret
    first | exact ⟨rfl, Below.refl _ _⟩ | exact ⟨rfl, (Below.refl _ _).alloc (Nat.le_refl _) _⟩
  | dh a b =>
    simp only [opFn, inner, Tm.op]
    go_enter Tryz.func242, Tryz.ntmps242
    go_wp2_with fail
    go_ret
    first | exact ⟨rfl, Below.refl _ _⟩ | exact ⟨rfl, (Below.refl _ _).alloc (Nat.le_refl _) _⟩
theorem Tms.one' {w : World} {B : Nat} {v : Value} {x : Tm} (h : Tms w B v [x]) : ∃ g cap, v = .slice (some ⟨g, 0, none⟩) 1 cap ∧ w.cell? ⟨g, 0, none⟩ = some (val x) ∧ g < w.heap.size := by
  obtain ⟨g, cap, e, c⟩ := Tms.one h
  exact ⟨g, cap, e, c, (World.ownsRow.lt h g (by rw [e]; rfl)).2⟩
theorem Tms.two' {w : World} {B : Nat} {v : Value} {x y : Tm} (h : Tms w B v [x, y]) : ∃ g cap, v = .slice (some ⟨g, 0, none⟩) 2 cap ∧ w.cell? ⟨g, 0, none⟩ = some (val x) ∧ w.cell? ⟨g, 1, none⟩ = some (val y) ∧ g < w.heap.size := by
  obtain ⟨g, cap, e, c, c'⟩ := Tms.two h
  exact ⟨g, cap, e, c, c', (World.ownsRow.lt h g (by rw [e]; rfl)).2⟩

end Go.Proofs.YtonjohlecomeoaaGreat.arg

/- Contracts of textOf and argTexts of the program. -/
namespace Go.Proofs.YtonjohlecomeoaaGreat.txt
open Go.RowKit Go.Proofs.YtonjohlecomeoaaGreat.tm Go.Proofs.YtonjohlecomeoaaGreat.lib Go.Proofs.YtonjohlecomeoaaGreat.rdr Go.Proofs.YtonjohlecomeoaaGreat.bld Go.Proofs.YtonjohlecomeoaaGreat.app Go.Proofs.YtonjohlecomeoaaGreat.arg
set_option linter.unusedVariables false

def TX (T : Tm) : Prop := ∀ w, Calls Tryz.prog 145 #[val T] w fun e w' => e = .returned (str T.tx) ∧ Below w.heap.size w w'
def AT (T : Tm) : Prop := ∀ w, Calls Tryz.prog 137 #[val T] w fun e w' => ∃ v, e = .returned v ∧ Below w.heap.size w w' ∧ Strs w' w.heap.size v (T.kids.map Tm.tx)

theorem kids_node (T : Tm) (h : T.isAtom = false) : (∃ x, T.kids = [x]) ∨ (∃ x y, T.kids = [x, y]) := by
  cases T with
  | atom a => cases h
  | pair x y => exact .inr ⟨x, y, rfl⟩
  | hash x => exact .inl ⟨x, rfl⟩
  | mac x y => exact .inr ⟨x, y, rfl⟩
  | shut x y => exact .inr ⟨x, y, rfl⟩
  | pub a => exact .inl ⟨.atom a, rfl⟩
  | dh a b => exact .inr ⟨.atom a, .atom b, rfl⟩

set_option maxHeartbeats 1000000 in
set_option maxRecDepth 100000 in
theorem at_node (T : Tm) (hn : T.isAtom = false) (ih : ∀ k ∈ T.kids, TX k) : AT T := by
  intro w
  have h1 := met_args T
  have h2 := inv_args T
  have h3 := args_calls T w
  rw [val_eq]
  rcases kids_node T hn with ⟨x, e1⟩ | ⟨x, y, e1⟩
  · rw [e1] at h3 ⊢
    have ix := ih x (by rw [e1]; simp)
    unfold TX at ix
    simp only [List.map_cons, List.map_nil]
    obtain ⟨X, hX⟩ : ∃ X, X = x.tx := ⟨_, rfl⟩
    rw [← hX] at ix ⊢
    clear e1 ih hn hX
    go_enter Tryz.func137, Tryz.ntmps137
    go_wp2_with fail
    refine h3.mono ?_
    rintro e w1 ⟨v, rfl, hb, hk⟩
    obtain ⟨g, cap, rfl, c0, hg⟩ := Tms.one' hk
    have HB := Lib.hid hb
    clear hb hk
    go_wp2_with fail
    refine wp_loop_rounds 2 ?_
    rw [rounds_succ]
    go_wp2_with fail
    refine (ix _).mono ?_
    rintro e w2 ⟨rfl, hb2⟩
    have HB2 := Lib.hid (HB.out.trans (hb2.mono HB.out.size))
    have hz := HB2.out.size
    clear hb2 c0
    go_wp2_with (at_builtin; refine wp_putS (.tmp 13) (.tmp 16) X w.heap.size _ [] rfl rfl rfl (Strs.nil _ _) rfl (by simp) hz ?_; intro v3 w3 t3 b3)
    have HB3 := Lib.hid (HB2.out.trans b3)
    have T3 := Lib.hid t3
    clear b3 t3
    rw [rounds_succ]
    go_wp2_with fail
    go_ret
    exact ⟨_, rfl, HB3.out, T3.out⟩
  · rw [e1] at h3 ⊢
    have ix := ih x (by rw [e1]; simp)
    have iy := ih y (by rw [e1]; simp)
    unfold TX at ix iy
    simp only [List.map_cons, List.map_nil]
    obtain ⟨X, hX⟩ : ∃ X, X = x.tx := ⟨_, rfl⟩
    obtain ⟨Y, hY⟩ : ∃ Y, Y = y.tx := ⟨_, rfl⟩
    rw [← hX] at ix ⊢
    rw [← hY] at iy ⊢
    clear e1 ih hn hX hY
    go_enter Tryz.func137, Tryz.ntmps137
    go_wp2_with fail
    refine h3.mono ?_
    rintro e w1 ⟨v, rfl, hb, hk⟩
    obtain ⟨g, cap, rfl, c0, c1, hg⟩ := Tms.two' hk
    have HB := Lib.hid hb
    clear hb hk
    go_wp2_with fail
    refine wp_loop_rounds 3 ?_
    rw [rounds_succ]
    go_wp2_with fail
    refine (ix _).mono ?_
    rintro e w2 ⟨rfl, hb2⟩
    have HB2 := Lib.hid (HB.out.trans (hb2.mono HB.out.size))
    have k1 := hb2.cell (p := ⟨g, 1, none⟩) hg
    rw [c1] at k1
    have hz := HB2.out.size
    have hg2 : g < w2.heap.size := Nat.lt_of_lt_of_le hg hb2.size
    clear hb2 c0 c1 hg
    go_wp2_with (at_builtin; refine wp_putS (.tmp 13) (.tmp 16) X w2.heap.size _ [] rfl rfl rfl (Strs.nil _ _) rfl (by simp) (Nat.le_refl _) ?_; intro v3 w3 t3 b3)
    have HB3 := Lib.hid (HB2.out.trans (b3.mono hz))
    have T3 := Lib.hid t3
    have m1 := b3.cell (p := ⟨g, 1, none⟩) hg2
    rw [k1] at m1
    have hz3 := HB3.out.size
    have hz32 := b3.size
    clear b3 t3 k1
    rw [rounds_succ]
    go_wp2_with fail
    refine (iy _).mono ?_
    rintro e w4 ⟨rfl, hb4⟩
    have HB4 := Lib.hid (HB3.out.trans (hb4.mono HB3.out.size))
    have T4 := Lib.hid (Strs.below T3.out hb4)
    have hz4 : w2.heap.size ≤ w4.heap.size := Nat.le_trans hz32 hb4.size
    clear hb4 m1
    go_wp2_with (at_builtin; refine wp_putS (.tmp 13) (.tmp 16) Y w2.heap.size _ [X] rfl rfl rfl T4.out rfl (by simp) hz4 ?_; intro v5 w5 t5 b5)
    have HB5 := Lib.hid (HB4.out.trans (b5.mono hz))
    have T5 := Lib.hid t5
    clear b5 t5
    rw [rounds_succ]
    go_wp2_with fail
    go_ret
    exact ⟨_, rfl, HB5.out, own_base T5.out hz⟩
end Go.Proofs.YtonjohlecomeoaaGreat.txt

/- Contract of textOf of the program: the text of a term. -/
namespace Go.Proofs.YtonjohlecomeoaaGreat.txo
open Go.RowKit Go.Proofs.YtonjohlecomeoaaGreat.tm Go.Proofs.YtonjohlecomeoaaGreat.lib Go.Proofs.YtonjohlecomeoaaGreat.rdr Go.Proofs.YtonjohlecomeoaaGreat.bld Go.Proofs.YtonjohlecomeoaaGreat.app Go.Proofs.YtonjohlecomeoaaGreat.arg Go.Proofs.YtonjohlecomeoaaGreat.txt
set_option linter.unusedVariables false

set_option maxRecDepth 100000 in
theorem tx_atom (a : Bs) : TX (.atom a) := by
  intro w
  have h1 := as_atom a
  simp only [val] at h1 ⊢
  go_enter Tryz.func145, Tryz.ntmps145
  go_wp2_with fail
  go_ret
  exact ⟨rfl, Below.refl _ _⟩

def joined : List Bs → Bs
  | [] => []
  | [a] => a
  | a :: l => a ++ 32 :: joined l

/-- Join by a blank. -/
theorem join_at (w : World) (B : Nat) (v : Value) (ls : List Bs) (h : Strs w B v ls) (hl : ls = [] ∨ (∃ a, ls = [a]) ∨ (∃ a b, ls = [a, b])) (hs : (joined ls).length ≤ 1000000) :
    Calls Tryz.prog 183 #[v, .string ⟨#[32]⟩] w fun e w' => e = .returned (str (joined ls)) ∧ Below w.heap.size w w' := by
  have hf : (v = .slice none 0 0 ∧ ls = []) ∨ ∃ g cap, v = .slice (some ⟨g, 0, none⟩) ls.length cap ∧ (∀ j l, ls[j]? = some l → w.cell? ⟨g, j, none⟩ = some (str l)) ∧ g < w.heap.size ∧ ls.length ≤ cap := by
    have h' := h
    obtain ⟨hl, h⟩ := h
    rcases h with ⟨rfl, h⟩ | ⟨g, cap, cur, rfl, hg, hh, hc1, hc2, hc3, hc4⟩
    · exact .inl ⟨rfl, List.eq_nil_of_length_eq_zero h⟩
    · refine .inr ⟨g, cap, rfl, fun j T hj => ?_, (World.ownsRow.lt h' g rfl).2, hc1⟩
      have := World.ownsRow.cells h' (g := g) rfl j (str T) (by rw [List.getElem?_map, hj]; rfl)
      rw [Addr.add_lit, Nat.zero_add] at this
      exact this
  rcases hf with ⟨rfl, rfl⟩ | ⟨g, cap, rfl, hc, hg, hcap⟩
  · exact (shj.join_none none 0 _ w).mono fun e w' ⟨h1, h2⟩ => ⟨h1, by rw [h2]; exact Below.refl _ _⟩
  · have ej : Lib.join ((ls.map fun l : Bs => (⟨l.toArray⟩ : ByteArray)).map (·.data.toList)) (⟨#[32]⟩ : ByteArray).data.toList = joined ls := by
      rcases hl with rfl | ⟨a, rfl⟩ | ⟨a, b, rfl⟩
      · rfl
      · simp [Lib.join, joined]
      · simp [Lib.join, joined]
    have := shj.join_some g 0 cap (ls.map fun l : Bs => ⟨l.toArray⟩) ⟨#[32]⟩ w (fun j x hx => by
      rw [List.getElem?_map] at hx
      cases hq : ls[j]? with
      | none => rw [hq] at hx; cases hx
      | some l => rw [hq] at hx; cases hx; rw [Nat.zero_add]; exact hc j l hq) hg (by rcases hl with rfl | ⟨a, rfl⟩ | ⟨a, b, rfl⟩ <;> simp) (by rw [List.length_map]; exact hcap) (by rw [ej]; omega)
    rw [ej, List.length_map] at this
    exact this

theorem joined_say (T : Tm) (h : T.isAtom = false) : 91 :: T.op ++ 32 :: joined (T.kids.map Tm.tx) ++ [93] = T.tx := by
  rw [tx_say T h]
  unfold say
  rcases kids_node T h with ⟨x, e⟩ | ⟨x, y, e⟩
  · rw [e]; simp [joined]
  · rw [e]; simp [joined]

theorem joined_len (T : Tm) (h : T.isAtom = false) : (joined (T.kids.map Tm.tx)).length ≤ T.tx.length := by
  rw [← joined_say T h]
  simp
  omega

theorem kids_three (T : Tm) (h : T.isAtom = false) : (T.kids.map Tm.tx = [] ∨ (∃ a, T.kids.map Tm.tx = [a]) ∨ (∃ a b, T.kids.map Tm.tx = [a, b])) := by
  rcases kids_node T h with ⟨x, e⟩ | ⟨x, y, e⟩
  · rw [e]; exact .inr (.inl ⟨_, rfl⟩)
  · rw [e]; exact .inr (.inr ⟨_, _, rfl⟩)

theorem add_at (a b c : Bs) (h : a ++ b = c) (hl : c.length ≤ 100000000) (w : World) : (Op.stringOp .add ⟨a.toArray⟩ ⟨b.toArray⟩).run Tryz.prog w = .ok (.string ⟨c.toArray⟩) w := by
  have hc := congrArg List.length h
  rw [List.length_append] at hc
  rw [run_string_add_sum w _ _ (by show a.toArray.size + b.toArray.size ≤ _; simp; omega), ← h, ByteArray.mk_append_mk]

theorem op_len (T : Tm) : T.op.length ≤ 4 := by cases T <;> simp [Tm.op, oPair, oHash, oMac, oShut, oPub, oDh]

theorem joined_of (op : Bs) (ls : List Bs) (h : (∃ a, ls = [a]) ∨ (∃ a b, ls = [a, b])) : 91 :: op ++ 32 :: joined ls ++ [93] = say op ls := by
  rcases h with ⟨a, rfl⟩ | ⟨a, b, rfl⟩ <;> simp [joined, say]

set_option maxHeartbeats 1000000 in
set_option maxRecDepth 100000 in
/-- opText, where its args lie in a row that strings.Join takes. -/
theorem opText_of (op : Bs) (v : Value) (ls : List Bs) (w : World) (hc : (∃ a, ls = [a]) ∨ (∃ a b, ls = [a, b])) (hop : op.length ≤ 10000) (hl : (joined ls).length ≤ 1000000)
    (HJ : Calls Tryz.prog 183 #[v, .string ⟨#[32]⟩] w fun e w' => e = .returned (str (joined ls)) ∧ Below w.heap.size w w') :
    Calls Tryz.prog 163 #[str op, v] w fun e w' => e = .returned (str (say op ls)) ∧ Below w.heap.size w w' := by
  have hsay := joined_of op ls hc
  obtain ⟨J, hJ⟩ : ∃ J, J = joined ls := ⟨_, rfl⟩
  obtain ⟨X, hX⟩ : ∃ X, X = say op ls := ⟨_, rfl⟩
  obtain ⟨S1, hS1⟩ : ∃ S, 91 :: op = S := ⟨_, rfl⟩
  obtain ⟨S2, hS2⟩ : ∃ S, S1 ++ [32] = S := ⟨_, rfl⟩
  obtain ⟨S3, hS3⟩ : ∃ S, S2 ++ J = S := ⟨_, rfl⟩
  rw [← hJ] at hsay hl HJ
  rw [← hX] at hsay ⊢
  have l1 : S1.length ≤ 10001 := by rw [← hS1]; simp; omega
  have l2 : S2.length ≤ 10002 := by rw [← hS2]; simp; omega
  have l3 : S3.length ≤ 2000000 := by rw [← hS3]; simp; omega
  have e4 : S3 ++ [93] = X := by rw [← hS3, ← hS2, ← hS1, ← hsay]; simp
  have l4 : X.length ≤ 2000001 := by rw [← e4]; simp; omega
  have f1 := add_at [91] op S1 hS1 (by omega)
  have f2 := add_at S1 [32] S2 hS2 (by omega)
  have f3 := add_at S2 J S3 hS3 (by omega)
  have f4 := add_at S3 [93] X e4 (by omega)
  have HJ2 := Lib.hid HJ
  clear HJ hc hJ hX hS1 hS2 hS3 hsay hop l1 l2 l3 l4 e4 hl
  go_enter Tryz.func163, Tryz.ntmps163
  go_wp2_with fail
  refine HJ2.out.mono ?_
  rintro e w3 ⟨rfl, hb3⟩
  have HB3 := Lib.hid hb3
  clear hb3
  go_wp2_with fail
  go_ret
  exact ⟨rfl, HB3.out⟩

/-- .. in a row of the call's own. -/
theorem opText_own (op : Bs) (B : Nat) (v : Value) (ls : List Bs) (w : World) (h : Strs w B v ls) (hc : (∃ a, ls = [a]) ∨ (∃ a b, ls = [a, b])) (hop : op.length ≤ 10000) (hl : (joined ls).length ≤ 1000000) :
    Calls Tryz.prog 163 #[str op, v] w fun e w' => e = .returned (str (say op ls)) ∧ Below w.heap.size w w' :=
  opText_of op v ls w hc hop hl (join_at w B v ls h (.inr hc) hl)

/-- .. of two texts that lie somewhere. -/
theorem opText_two (op x y : Bs) (g cap : Nat) (w : World) (c0 : w.cell? ⟨g, 0, none⟩ = some (str x)) (c1 : w.cell? ⟨g, 1, none⟩ = some (str y)) (hg : g < w.heap.size) (hcap : 2 ≤ cap) (hop : op.length ≤ 10000) (hx : x.length ≤ 400000) (hy : y.length ≤ 400000) :
    Calls Tryz.prog 163 #[str op, .slice (some ⟨g, 0, none⟩) 2 cap] w fun e w' => e = .returned (str (say op [x, y])) ∧ Below w.heap.size w w' := by
  refine opText_of op _ [x, y] w (.inr ⟨x, y, rfl⟩) hop (by simp [joined]; omega) ?_
  have ej : Lib.join (([x, y].map fun l : Bs => (⟨l.toArray⟩ : ByteArray)).map (·.data.toList)) (⟨#[32]⟩ : ByteArray).data.toList = joined [x, y] := by simp [Lib.join, joined]
  have := shj.join_some g 0 cap ([x, y].map fun l : Bs => ⟨l.toArray⟩) ⟨#[32]⟩ w (fun j z hz => by
    match j, hz with
    | 0, hz => simp at hz; subst hz; exact c0
    | 1, hz => simp at hz; subst hz; exact c1
    | j + 2, hz => simp at hz) hg (by simp) (by simpa using hcap) (by rw [ej]; simp [joined]; omega)
  rw [ej] at this
  exact this

set_option maxHeartbeats 1000000 in
set_option maxRecDepth 100000 in
theorem tx_node (T : Tm) (hn : T.isAtom = false) (hl : T.tx.length ≤ 1000000) (ih : ∀ k ∈ T.kids, TX k) : TX T := by
  intro w
  have h0 := as_atom_no T hn
  have h1 := met_op T
  have h2 := inv_op T
  have h3 := op_calls T
  have h4 := at_node T hn ih
  unfold AT at h4
  have hk2 : (∃ a, T.kids.map Tm.tx = [a]) ∨ (∃ a b, T.kids.map Tm.tx = [a, b]) := by
    rcases kids_node T hn with ⟨x, e⟩ | ⟨x, y, e⟩
    · exact .inl ⟨x.tx, by rw [e]; rfl⟩
    · exact .inr ⟨x.tx, y.tx, by rw [e]; rfl⟩
  have HO := fun w v B h => opText_own T.op B v (T.kids.map Tm.tx) w h hk2 (by have := op_len T; omega) (Nat.le_trans (joined_len T hn) hl)
  rw [← tx_say T hn] at HO
  obtain ⟨O, hO⟩ : ∃ O, O = T.op := ⟨_, rfl⟩
  obtain ⟨X, hX⟩ : ∃ X, X = T.tx := ⟨_, rfl⟩
  simp only [← hO] at h3 HO
  rw [← hX] at HO ⊢
  rw [val_eq] at h0 h4 ⊢
  have HO2 := Lib.hid HO
  clear HO hn ih hO hX hk2 hl
  go_enter Tryz.func145, Tryz.ntmps145
  go_wp2_with fail
  refine (h3 _).mono ?_
  rintro e w1 ⟨rfl, hb⟩
  have HB := Lib.hid hb
  clear hb
  go_wp2_with fail
  refine (h4 _).mono ?_
  rintro e w2 ⟨v, rfl, hb2, hs⟩
  have HB2 := Lib.hid (HB.out.trans (hb2.mono HB.out.size))
  have HS := Lib.hid hs
  clear hb2 hs
  go_wp2_with fail
  refine (HO2.out _ _ _ HS.out).mono ?_
  rintro e w3 ⟨rfl, hb3⟩
  have HB3 := Lib.hid (HB2.out.trans (hb3.mono HB2.out.size))
  clear hb3
  go_wp2_with fail
  go_ret
  exact ⟨rfl, HB3.out⟩

theorem tx_all : ∀ n (T : Tm), T.deep ≤ n → T.tx.length ≤ 1000000 → TX T
  | 0, T, h, _ => by have := deep_pos T; omega
  | n + 1, T, h, hl => by
    rcases isAtom_cases T with hn | ⟨a, rfl⟩
    · refine tx_node T hn hl fun k hk => tx_all n k (by have := kid_deep hk; omega) ?_
      have := joined_len T hn
      have : k.tx.length ≤ (joined (T.kids.map Tm.tx)).length := by
        rcases kids_node T hn with ⟨x, e⟩ | ⟨x, y, e⟩
        · rw [e] at hk ⊢; simp at hk; subst hk; simp [joined]
        · rw [e] at hk ⊢; simp at hk; rcases hk with rfl | rfl <;> simp [joined] <;> omega
      omega
    · exact tx_atom a

theorem textOf_calls (T : Tm) (h : T.tx.length ≤ 1000000) (w : World) : Calls Tryz.prog 145 #[val T] w fun e w' => e = .returned (str T.tx) ∧ Below w.heap.size w w' := tx_all T.deep T (Nat.le_refl _) h w

theorem argTexts_calls (T : Tm) (hn : T.isAtom = false) (h : T.tx.length ≤ 1000000) (w : World) : Calls Tryz.prog 137 #[val T] w fun e w' => ∃ v, e = .returned v ∧ Below w.heap.size w w' ∧ Strs w' w.heap.size v (T.kids.map Tm.tx) := by
  refine at_node T hn (fun k hk => tx_all k.deep k (Nat.le_refl _) ?_) w
  have := joined_len T hn
  have : k.tx.length ≤ (joined (T.kids.map Tm.tx)).length := by
    rcases kids_node T hn with ⟨x, e⟩ | ⟨x, y, e⟩
    · rw [e] at hk ⊢; simp at hk; subst hk; simp [joined]
    · rw [e] at hk ⊢; simp at hk; rcases hk with rfl | rfl <;> simp [joined] <;> omega
  omega
end Go.Proofs.YtonjohlecomeoaaGreat.txo

/- Contract of the model's l02Say. -/
namespace Go.Proofs.YtonjohlecomeoaaGreat.ssy
open Go.RowKit Go.Proofs.YtonjohlecomeoaaGreat.tm Go.Proofs.YtonjohlecomeoaaGreat.lib Go.Proofs.YtonjohlecomeoaaGreat.rdr Go.Proofs.YtonjohlecomeoaaGreat.bld Go.Proofs.YtonjohlecomeoaaGreat.app Go.Proofs.YtonjohlecomeoaaGreat.txo Go.Proofs.YtonjohlecomeoaaGreat.sop
set_option linter.unusedVariables false

set_option maxHeartbeats 1000000 in
set_option maxRecDepth 100000 in
theorem say_one (op x : Bs) (g : Nat) (off : Nat) (cap : Nat) (w : World) (c0 : w.cell? ⟨g, off, none⟩ = some (str x)) (hop : op.length ≤ 10000) (hx : x.length ≤ 4000000) :
    Calls Tryz.prog 42 #[str op, .slice (some ⟨g, off, none⟩) 1 cap] w fun e w' => e = .returned (str (say op [x])) ∧ Below w.heap.size w w' := by
  obtain ⟨X, hX⟩ : ∃ X, X = say op [x] := ⟨_, rfl⟩
  obtain ⟨S1, hS1⟩ : ∃ S, 91 :: op = S := ⟨_, rfl⟩
  obtain ⟨S2, hS2⟩ : ∃ S, S1 ++ [32] = S := ⟨_, rfl⟩
  obtain ⟨S3, hS3⟩ : ∃ S, S2 ++ x = S := ⟨_, rfl⟩
  have l1 : S1.length ≤ 10001 := by rw [← hS1]; simp; omega
  have l2 : S2.length ≤ 10002 := by rw [← hS2]; simp; omega
  have l3 : S3.length ≤ 5000000 := by rw [← hS3]; simp; omega
  have f1 := add_at [91] op S1 hS1 (by omega)
  have f2 := add_at S1 [32] S2 hS2 (by omega)
  have f3 := add_at S2 x S3 hS3 (by omega)
  have f4 := add_at S3 [93] X (by rw [← hS3, ← hS2, ← hS1, hX]; simp [say]) (by rw [hX]; simp [say]; omega)
  rw [← hX]
  clear hX hS1 hS2 hS3 l1 l2 l3
  go_enter Tryz.func42, Tryz.ntmps42
  go_wp2_with fail
  refine wp_loop_rounds 2 ?_
  rw [rounds_succ]
  go_wp2_with fail
  rw [rounds_succ]
  go_wp2_with fail
  go_ret
  exact ⟨rfl, Below.refl _ _⟩

set_option maxHeartbeats 1000000 in
set_option maxRecDepth 100000 in
theorem say_two (op x y : Bs) (g : Nat) (off : Nat) (cap : Nat) (w : World) (c0 : w.cell? ⟨g, off, none⟩ = some (str x)) (c1 : w.cell? ⟨g, off + 1, none⟩ = some (str y)) (hop : op.length ≤ 10000) (hx : x.length ≤ 4000000) (hy : y.length ≤ 4000000) :
    Calls Tryz.prog 42 #[str op, .slice (some ⟨g, off, none⟩) 2 cap] w fun e w' => e = .returned (str (say op [x, y])) ∧ Below w.heap.size w w' := by
  obtain ⟨X, hX⟩ : ∃ X, X = say op [x, y] := ⟨_, rfl⟩
  obtain ⟨S1, hS1⟩ : ∃ S, 91 :: op = S := ⟨_, rfl⟩
  obtain ⟨S2, hS2⟩ : ∃ S, S1 ++ [32] = S := ⟨_, rfl⟩
  obtain ⟨S3, hS3⟩ : ∃ S, S2 ++ x = S := ⟨_, rfl⟩
  obtain ⟨S4, hS4⟩ : ∃ S, S3 ++ [32] = S := ⟨_, rfl⟩
  obtain ⟨S5, hS5⟩ : ∃ S, S4 ++ y = S := ⟨_, rfl⟩
  have l1 : S1.length ≤ 10001 := by rw [← hS1]; simp; omega
  have l2 : S2.length ≤ 10002 := by rw [← hS2]; simp; omega
  have l3 : S3.length ≤ 5000000 := by rw [← hS3]; simp; omega
  have l4 : S4.length ≤ 5000001 := by rw [← hS4]; simp; omega
  have l5 : S5.length ≤ 10000000 := by rw [← hS5]; simp; omega
  have f1 := add_at [91] op S1 hS1 (by omega)
  have f2 := add_at S1 [32] S2 hS2 (by omega)
  have f3 := add_at S2 x S3 hS3 (by omega)
  have f4 := add_at S3 [32] S4 hS4 (by omega)
  have f5 := add_at S4 y S5 hS5 (by omega)
  have f6 := add_at S5 [93] X (by rw [← hS5, ← hS4, ← hS3, ← hS2, ← hS1, hX]; simp [say]) (by rw [hX]; simp [say]; omega)
  rw [← hX]
  clear hX hS1 hS2 hS3 hS4 hS5 l1 l2 l3 l4 l5
  go_enter Tryz.func42, Tryz.ntmps42
  go_wp2_with fail
  refine wp_loop_rounds 3 ?_
  rw [rounds_succ]
  go_wp2_with fail
  rw [rounds_succ]
  go_wp2_with fail
  rw [rounds_succ]
  go_wp2_with fail
  go_ret
  exact ⟨rfl, Below.refl _ _⟩

end Go.Proofs.YtonjohlecomeoaaGreat.ssy

/- Contract of the model's l02Dh. -/
namespace Go.Proofs.YtonjohlecomeoaaGreat.ssy
open Go.RowKit Go.Proofs.YtonjohlecomeoaaGreat.tm Go.Proofs.YtonjohlecomeoaaGreat.lib Go.Proofs.YtonjohlecomeoaaGreat.rdr Go.Proofs.YtonjohlecomeoaaGreat.bld Go.Proofs.YtonjohlecomeoaaGreat.app Go.Proofs.YtonjohlecomeoaaGreat.txo Go.Proofs.YtonjohlecomeoaaGreat.sop Go.Proofs.YtonjohlecomeoaaGreat.mkp
set_option linter.unusedVariables false

set_option maxRecDepth 100000 in
theorem dh_calls (x y : Bs) (hx : x.length ≤ 4000000) (hy : y.length ≤ 4000000) (w : World) :
    Calls Tryz.prog 95 #[str x, str y] w fun e w' => e = .returned (str (dhS x y)) ∧ Below w.heap.size w w' := by
  unfold dhS
  cases hg : gt x y with
  | true =>
    obtain ⟨h1, h2⟩ := gt_true hg
    have a1 := fun (w : World) c0 c1 => say_two oDh y x w.heap.size 0 2 (w.alloc (.cells #[str y, str x] 9)) c0 c1 (by decide) hy hx
    simp only [if_true]
    have A1 := Lib.hid a1
    clear hg a1
    go_enter Tryz.func95, Tryz.ntmps95
    go_wp2_with fail
    refine (A1.out _ (by simp [go_sem]) (by simp [go_sem])).mono ?_
    rintro e w1 ⟨rfl, hb⟩
    have HB := Lib.hid hb
    clear hb
    go_wp2_with fail
    go_ret
    exact ⟨rfl, ((Below.refl _ _).alloc (Nat.le_refl _) _).trans (HB.out.mono (by simp))⟩
  | false =>
    have a1 := fun (w : World) c0 c1 => say_two oDh x y w.heap.size 0 2 (w.alloc (.cells #[str x, str y] 9)) c0 c1 (by decide) hx hy
    simp only [Bool.false_eq_true, if_false]
    have A1 := Lib.hid a1
    rcases gt_false hg with h1 | ⟨h1, h2⟩
    all_goals
      clear hg a1
      go_enter Tryz.func95, Tryz.ntmps95
      go_wp2_with fail
      refine (A1.out _ (by simp [go_sem]) (by simp [go_sem])).mono ?_
      rintro e w1 ⟨rfl, hb⟩
      have HB := Lib.hid hb
      clear hb
      go_wp2_with fail
      go_ret
      exact ⟨rfl, ((Below.refl _ _).alloc (Nat.le_refl _) _).trans (HB.out.mono (by simp))⟩
end Go.Proofs.YtonjohlecomeoaaGreat.ssy

/- Contracts of readAtom, readOp, readOne: they read what the plain function rd reads, or refuse. -/
namespace Go.Proofs.YtonjohlecomeoaaGreat.prs
open Go.RowKit Go.Proofs.YtonjohlecomeoaaGreat.tm Go.Proofs.YtonjohlecomeoaaGreat.lib Go.Proofs.YtonjohlecomeoaaGreat.rdr Go.Proofs.YtonjohlecomeoaaGreat.bld Go.Proofs.YtonjohlecomeoaaGreat.app
set_option linter.unusedVariables false

theorem implAtom_at (l : Bs) (hl : l.length ≤ 4000000000) (t : Bool) (h : atomR l = t) (w : World) :
    Calls Tryz.prog 52 #[.string ⟨l.toArray⟩] w fun e w' => e = .returned (.bool t) ∧ w = w' := by
  have := atm.implAtom_calls ⟨l.toArray⟩ (by unfold maxLen; show l.toArray.size ≤ _; simp; omega) w
  rw [show atomR (⟨l.toArray⟩ : ByteArray).data.toList = t from h] at this
  exact this

theorem drop_len (s : ByteArray) (p : Nat) : (s.data.toList.drop p).length = s.size - p := by rw [List.length_drop]; rfl

theorem str_size (l : Bs) : (⟨l.toArray⟩ : ByteArray).size = l.length := by show l.toArray.size = _; simp

set_option maxRecDepth 100000 in
theorem readAtom_yes (w : World) (b : Nat) (s : ByteArray) (p : Nat) (h : Rdr w b s p) (hp : p ≤ s.size) (hs : s.size ≤ 3000) (ha : atomR (word (s.data.toList.drop p)) = true) :
    Calls Tryz.prog 178 #[.pointer (some ⟨b, 0, none⟩)] w fun e w' =>
      e = .returned (val (.atom (word (s.data.toList.drop p)))) ∧ Only b w w' ∧ Rdr w' b s (p + (word (s.data.toList.drop p)).length) := by
  have a1 := implAtom_at (word (s.data.toList.drop p)) (by have := atomR_len ha; omega) true ha
  have hn := (atomR_len ha).2
  have H := Lib.hid h
  clear h ha
  simp only [val]
  obtain ⟨W, hW⟩ : ∃ W, W = word (s.data.toList.drop p) := ⟨_, rfl⟩
  have r1 := readWord_calls w b s p H.out hp (by omega)
  rw [← hW] at a1 hn r1 ⊢
  clear hW
  go_enter Tryz.func178, Tryz.ntmps178
  go_wp2_with fail
  refine r1.mono ?_
  rintro e w1 ⟨rfl, ho, hr⟩
  have HO := Lib.hid ho
  have HR := Lib.hid hr
  clear ho hr
  go_wp2_with (first | (go_at_call 52; refine (a1 _).mono ?_; rintro e w2 ⟨rfl, rfl⟩) | (go_at_call 60; refine (clo.clone_calls _ (by rw [str_size]; omega) _).mono ?_; rintro e w2 ⟨rfl, hb2⟩))
  go_ret
  exact ⟨rfl, HO.out.trans (Only.of_below hb2), Rdr.below HR.out hb2⟩

set_option maxRecDepth 100000 in
theorem readAtom_no (w : World) (b : Nat) (s : ByteArray) (p : Nat) (h : Rdr w b s p) (hp : p ≤ s.size) (hs : s.size ≤ 3000) (ha : atomR (word (s.data.toList.drop p)) = false) :
    Calls Tryz.prog 178 #[.pointer (some ⟨b, 0, none⟩)] w fun e w' => e = fault 1 ∧ Only b w w' := by
  have a1 := implAtom_at (word (s.data.toList.drop p)) (by have := word_le (s.data.toList.drop p); have := drop_len s p; omega) false ha
  have H := Lib.hid h
  clear h ha
  go_enter Tryz.func178, Tryz.ntmps178
  go_wp2_with fail
  refine (readWord_calls w b s p H.out hp (by omega)).mono ?_
  rintro e w1 ⟨rfl, ho, hr⟩
  have HO := Lib.hid ho
  clear ho hr
  go_wp2_with (first | (go_at_call 52; refine (a1 _).mono ?_; rintro e w2 ⟨rfl, rfl⟩) | (go_at_call 103; refine (refuse_calls _ _).mono ?_; rintro e w' ⟨rfl, rfl⟩))
  exact ⟨rfl, rfl, HO.out⟩

/-- What readOne is to do with fuel n (at the depth 25 - n). -/
def RO (n : Nat) : Prop := ∀ (w : World) (b : Nat) (s : ByteArray) (p : Nat) (d : Int), Rdr w b s p → p ≤ s.size → s.size ≤ 3000 → d + n = 25 →
  (∀ T r, rd n (s.data.toList.drop p) = some (T, r) → Calls Tryz.prog 158 #[.pointer (some ⟨b, 0, none⟩), .int .i64 d] w fun e w' => e = .returned (val T) ∧ Only b w w' ∧ Rdr w' b s (p + T.tx.length)) ∧
  (rd n (s.data.toList.drop p) = none → Calls Tryz.prog 158 #[.pointer (some ⟨b, 0, none⟩), .int .i64 d] w fun e w' => e = fault 1 ∧ Only b w w')

/-- What readOp is to do, where '[' stands. -/
def RP (n : Nat) : Prop := ∀ (w : World) (b : Nat) (s : ByteArray) (p : Nat) (d : Int), Rdr w b s p → p < s.size → s.size ≤ 3000 → d + n = 24 → 0 ≤ d → nx (s.data.toList.drop p) = 91 →
  (∀ T r, rd (n + 1) (s.data.toList.drop p) = some (T, r) → Calls Tryz.prog 177 #[.pointer (some ⟨b, 0, none⟩), .int .i64 d] w fun e w' => e = .returned (val T) ∧ Only b w w' ∧ Rdr w' b s (p + T.tx.length)) ∧
  (rd (n + 1) (s.data.toList.drop p) = none → Calls Tryz.prog 177 #[.pointer (some ⟨b, 0, none⟩), .int .i64 d] w fun e w' => e = fault 1 ∧ Only b w w')

theorem nx_head (l : Bs) (h : nx l = 91) : l.head? = some 91 := by
  cases l with
  | nil => exact absurd h (by decide)
  | cons c l => simp [nx] at h; simp [h]
theorem nx_head_no (l : Bs) (h : nx l ≠ 91) : ¬ l.head? = some 91 := by
  cases l with
  | nil => simp
  | cons c l => simp [nx] at h; simpa using h

set_option maxRecDepth 100000 in
theorem ro_zero : RO 0 := by
  intro w b s p d h hp hs hd
  obtain rfl : d = 25 := by omega
  refine ⟨fun T r e => by simp [rd] at e, fun _ => ?_⟩
  go_enter Tryz.func158, Tryz.ntmps158
  go_wp2_with (go_at_call 103; refine (refuse_calls _ _).mono ?_; rintro e w' ⟨rfl, rfl⟩)
  exact ⟨rfl, rfl, Only.refl _ _⟩

set_option maxRecDepth 100000 in
theorem ro_succ (n : Nat) (hn : n ≤ 23) (hp' : RP n) : RO (n + 1) := by
  intro w b s p d h hp hs hd
  have dd : decide (24 < d) = false := by simp; omega
  by_cases h91 : nx (s.data.toList.drop p) = 91
  · have hlt : p < s.size := by
      rcases Nat.lt_or_ge p s.size with h' | h'
      · exact h'
      · rw [nx_end s p h'] at h91; exact absurd h91 (by decide)
    have K : ∀ w1, Still w w1 → _ := fun w1 k => hp' w1 b s p d (k.rdr h) hlt hs (by omega) (by omega) h91
    have H := Lib.hid h
    have HK := Lib.hid K
    have H91 := Lib.hid h91
    clear h K hp' h91 hd
    refine ⟨fun T r e => ?_, fun e => ?_⟩
    all_goals
      have HE := Lib.hid e
      clear e
      go_enter Tryz.func158, Tryz.ntmps158
      go_wp2_with fail
      refine (next_calls _ _ _ _ H.out hp (by omega)).mono ?_
      rintro e w1 ⟨rfl, h1⟩
      rw [H91.out]
      have k1 := HK.out w1 h1
      have H1 := Lib.hid h1
      have HK1 := Lib.hid k1
      clear h1 k1
      go_wp2_with fail
    · refine (HK1.out.1 T r HE.out).mono ?_
      rintro e w2 ⟨rfl, ho, hr⟩
      go_wp2_with fail
      go_ret
      exact ⟨rfl, (H1.out.only b).trans ho, hr⟩
    · refine (HK1.out.2 HE.out).mono ?_
      rintro e w2 ⟨rfl, ho⟩
      exact ⟨rfl, rfl, (H1.out.only b).trans ho⟩
  · have e1 : rd (n + 1) (s.data.toList.drop p) = if atomR (word (s.data.toList.drop p)) then some (.atom (word (s.data.toList.drop p)), past (s.data.toList.drop p)) else none := by
      rw [rd, if_neg (nx_head_no _ h91)]
    have d91 : (((nx (s.data.toList.drop p)).toNat : Int) == 91) = false := by
      rw [beq_eq_false_iff_ne]; intro e; exact h91 (UInt8.toNat_inj.1 (by show _ = 91; omega))
    have H := Lib.hid h
    clear h hp' h91 hd
    refine ⟨fun T r e => ?_, fun e => ?_⟩
    · rw [e1] at e
      split at e
      · rename_i ha
        simp only [Option.some.injEq, Prod.mk.injEq] at e
        obtain ⟨rfl, rfl⟩ := e
        have HA := Lib.hid ha
        clear ha e1
        go_enter Tryz.func158, Tryz.ntmps158
        go_wp2_with fail
        refine (next_calls _ _ _ _ H.out hp (by omega)).mono ?_
        rintro e w1 ⟨rfl, h1⟩
        have H1 := Lib.hid h1
        clear h1
        go_wp2_with fail
        refine (readAtom_yes w1 b s p (H1.out.rdr H.out) hp hs HA.out).mono ?_
        rintro e w2 ⟨rfl, ho, hr⟩
        go_wp2_with fail
        go_ret
        exact ⟨rfl, (H1.out.only b).trans ho, hr⟩
      · cases e
    · rw [e1] at e
      split at e
      · cases e
      · rename_i ha
        have HA := Lib.hid (show atomR (word (s.data.toList.drop p)) = false by simpa using ha)
        clear ha e1 e
        go_enter Tryz.func158, Tryz.ntmps158
        go_wp2_with fail
        refine (next_calls _ _ _ _ H.out hp (by omega)).mono ?_
        rintro e w1 ⟨rfl, h1⟩
        have H1 := Lib.hid h1
        clear h1
        go_wp2_with fail
        refine (readAtom_no w1 b s p (H1.out.rdr H.out) hp hs HA.out).mono ?_
        rintro e w2 ⟨rfl, ho⟩
        exact ⟨rfl, rfl, (H1.out.only b).trans ho⟩

/-- The list of the args, told from the middle on. -/
def cont (ts : List Tm) : Option (List Tm × Bs) → Option (List Tm × Bs)
  | none => none
  | some (us, r) => some (ts ++ us, r)

theorem cont_none {ts : List Tm} {o : Option (List Tm × Bs)} (h : cont ts o = none) : o = none := by cases o <;> simp [cont] at h ⊢

theorem rdArgs_stop {f : Bs → Option (Tm × Bs)} {k : Nat} {l : Bs} (h : nx l ≠ 32) : rdArgs f k l = some ([], l) := by
  cases k with
  | zero => rfl
  | succ k =>
    cases l with
    | nil => rfl
    | cons c l => simp [nx] at h; simp [rdArgs, h]

theorem rdArgs_none {f : Bs → Option (Tm × Bs)} {k : Nat} {l : Bs} (h : f l = none) : rdArgs f (k + 1) (32 :: l) = none := by simp [rdArgs, h]
theorem rdArgs_some {f : Bs → Option (Tm × Bs)} {k : Nat} {l : Bs} {T : Tm} {r : Bs} (h : f l = some (T, r)) : rdArgs f (k + 1) (32 :: l) = cont [T] (rdArgs f k r) := by
  simp only [rdArgs, if_true, h]
  cases rdArgs f k r with
  | none => rfl
  | some q => rfl
theorem cont_cont (ts us : List Tm) (o : Option (List Tm × Bs)) : cont ts (cont us o) = cont (ts ++ us) o := by
  cases o with
  | none => rfl
  | some q => simp [cont]

/-- The relation at the head of the loop. -/
structure Loop (n b B : Nat) (w : World) (s : ByteArray) (O : Option (List Tm × Bs)) (v : Value) (wr : World) (q : Nat) (ts : List Tm) (k : Nat) : Prop where
  le : q ≤ s.size
  only : Only b w wr
  rdr : Rdr wr b s q
  own : Tms wr B v ts
  fuel : (s.data.toList.drop q).length ≤ k
  told : O = cont ts (rdArgs (rd n) k (s.data.toList.drop q))
  few : ts.length ≤ q

theorem rd_next {n : Nat} {s : ByteArray} {q : Nat} {T : Tm} {r : Bs} (hq : q ≤ s.size) (h : rd n (s.data.toList.drop q) = some (T, r)) : q + T.tx.length ≤ s.size ∧ r = s.data.toList.drop (q + T.tx.length) := by
  have e := (rd_sound n _ _ _ h).1
  have hl := congrArg List.length e
  rw [List.length_append, drop_len] at hl
  refine ⟨by omega, ?_⟩
  have : (s.data.toList.drop q).drop T.tx.length = r := by rw [e]; simp
  rw [← this, List.drop_drop]

theorem nx_cons {s : ByteArray} {q : Nat} {c : UInt8} (h : nx (s.data.toList.drop q) = c) (hc : c ≠ 0) : q < s.size ∧ s.data.toList.drop q = c :: s.data.toList.drop (q + 1) := by
  have hlt : q < s.size := by
    rcases Nat.lt_or_ge q s.size with h' | h'
    · exact h'
    · rw [nx_end s q h'] at h; exact absurd h.symm hc
  refine ⟨hlt, ?_⟩
  rw [nx_lt s q hlt] at h
  rw [drop_lt s q hlt, h]

def Done (b : Nat) (s : ByteArray) (p : Nat) (w : World) (R : Option (Tm × Bs)) (e : Ending) (w' : World) : Prop :=
  (∀ T r, R = some (T, r) → e = .returned (val T) ∧ Only b w w' ∧ Rdr w' b s (p + T.tx.length)) ∧ (R = none → e = fault 1 ∧ Only b w w')

theorem Done.no {b : Nat} {s : ByteArray} {p : Nat} {w : World} {R : Option (Tm × Bs)} {w' : World} (h : R = none) (k : Only b w w') : Done b s p w R (fault 1) w' :=
  ⟨fun T r e => (by rw [h] at e; cases e), fun _ => ⟨rfl, k⟩⟩
theorem Done.yes {b : Nat} {s : ByteArray} {p : Nat} {w : World} {R : Option (Tm × Bs)} {w' : World} {T : Tm} {r : Bs} (h : R = some (T, r)) (k : Only b w w') (m : Rdr w' b s (p + T.tx.length)) : Done b s p w R (.returned (val T)) w' :=
  ⟨fun T' r' e => (by rw [h] at e; cases e; exact ⟨rfl, k, m⟩), fun e => (by rw [h] at e; cases e)⟩

theorem closed_no {op : Bs} {ts : List Tm} {l : Bs} (h : nx l ≠ 93) : closed op (some (ts, l)) = none := by
  cases l with
  | nil => rfl
  | cons c l => simp [nx] at h; simp [closed, h]
theorem closed_yes {op : Bs} {ts : List Tm} {l : Bs} : closed op (some (ts, 93 :: l)) = (build op ts).map fun t => (t, l) := by simp [closed]

theorem place_of {n : Nat} {s : ByteArray} {p q : Nat} {T : Tm} (hp : p ≤ s.size) (hq : q ≤ s.size) (h : rd n (s.data.toList.drop p) = some (T, s.data.toList.drop q)) : p + T.tx.length = q := by
  have e := congrArg List.length (rd_sound n _ _ _ h).1
  rw [List.length_append, drop_len, drop_len] at e
  omega

set_option maxHeartbeats 1000000 in
set_option maxRecDepth 100000 in
theorem rp_done (n : Nat) (ro : RO n) (w : World) (b : Nat) (s : ByteArray) (p : Nat) (d : Int) (h : Rdr w b s p) (hp : p < s.size) (hs : s.size ≤ 3000) (hd : d + n = 24) (hd0 : 0 ≤ d) (h91 : nx (s.data.toList.drop p) = 91) :
    Calls Tryz.prog 177 #[.pointer (some ⟨b, 0, none⟩), .int .i64 d] w (Done b s p w (rd (n + 1) (s.data.toList.drop p))) := by
  obtain ⟨_, e91⟩ := nx_cons h91 (by decide)
  have hb := (two h).2.2.2.2
  obtain ⟨O, hO⟩ : ∃ O, O = rdArgs (rd n) (past (s.data.toList.drop (p + 1))).length (past (s.data.toList.drop (p + 1))) := ⟨_, rfl⟩
  obtain ⟨op, hop⟩ : ∃ op, op = word (s.data.toList.drop (p + 1)) := ⟨_, rfl⟩
  have erd : rd (n + 1) (s.data.toList.drop p) = closed op O := by
    rw [rd, if_pos (nx_head _ h91), e91, hO, hop]
    rfl
  have epd := past_drop s (p + 1)
  rw [← hop] at epd
  have hle : p + 1 + op.length ≤ s.size := by
    have := word_le (s.data.toList.drop (p + 1))
    rw [← hop, drop_len] at this
    omega
  obtain ⟨R, hR⟩ : ∃ R, R = rd (n + 1) (s.data.toList.drop p) := ⟨_, rfl⟩
  rw [← hR]
  have er : R = closed op O := by rw [hR, erd]
  have rw1 : ∀ w1, Rdr w1 b s (p + 1) → _ := fun w1 k => readWord_calls w1 b s (p + 1) k (by omega) (by omega)
  rw [← hop] at rw1
  have H := Lib.hid h
  have H91 := Lib.hid h91
  have HO := Lib.hid hO
  have EPD := Lib.hid epd
  have HW := Lib.hid rw1
  have HD := Lib.hid hd
  have HR := Lib.hid hR
  have ER := Lib.hid er
  have HRO := Lib.hid ro
  have dw2 : d ≤ 24 := by omega
  clear h e91 h91 hO hop erd epd rw1 hd hR er ro
  go_enter Tryz.func177, Tryz.ntmps177
  go_wp2_with fail
  refine (skip_yes _ b s p 91 H.out hp (by omega) H91.out).mono ?_
  rintro e w1 ⟨rfl, o1, r1⟩
  have O1 := Lib.hid o1
  have R1 := Lib.hid r1
  clear o1 r1
  go_wp2_with fail
  refine (HW.out w1 R1.out).mono ?_
  rintro e w2 ⟨rfl, o2, r2⟩
  have O2 := Lib.hid (O1.out.trans o2)
  have R2 := Lib.hid r2
  clear o2 r2
  go_wp2_with fail
  go_loopw [6, 11, 12, 13, 14, 15, 16, 17, 18, 19, 20, 21, 22] (fun v _ _ _ _ _ _ _ _ _ _ _ _ wr => ∃ q ts k, Loop n b w.heap.size w s O v wr q ts k) (fun _ _ _ _ _ _ _ _ _ _ _ _ _ wr => s.size - atOf wr b)
  case atStart =>
    refine ⟨p + 1 + op.length, [], (past (s.data.toList.drop (p + 1))).length, hle, O2.out, R2.out, Tms.nil _ _, ?_, ?_, by simp⟩
    · rw [EPD.out]; exact Nat.le_refl _
    · rw [HO.out, EPD.out]
      cases rdArgs (rd n) _ _ <;> rfl
  case round =>
    obtain ⟨q, ts, k, L⟩ := hrel
    have HL := Lib.hid L
    have HAT := Lib.hid (atOf_rdr L.rdr)
    have hq := L.le
    have hfew := L.few
    by_cases h32 : nx (s.data.toList.drop q) = 32
    · obtain ⟨hq1, e32⟩ := nx_cons h32 (by decide)
      have hk : ∃ k', k = k' + 1 := by
        have := L.fuel
        rw [e32] at this
        simp at this
        exact ⟨k - 1, by omega⟩
      obtain ⟨k, rfl⟩ := hk
      have H32 := Lib.hid h32
      have E32 := Lib.hid e32
      clear L h32 e32
      cases hrd : rd n (s.data.toList.drop (q + 1)) with
      | none =>
        have HRD := Lib.hid hrd
        have hno : R = none := by
          rw [ER.out, HL.out.told, E32.out, rdArgs_none hrd]; rfl
        have HNO := Lib.hid hno
        clear hrd hno
        go_wp2_with fail
        refine (next_calls _ _ _ _ HL.out.rdr hq (by omega)).mono ?_
        rintro e w3 ⟨rfl, h3⟩
        rw [H32.out]
        have H3 := Lib.hid h3
        clear h3
        go_wp2_with fail
        refine (skip_yes _ b s q 32 (H3.out.rdr HL.out.rdr) hq1 (by omega) H32.out).mono ?_
        rintro e w4 ⟨rfl, o4, r4⟩
        have O4 := Lib.hid (((HL.out.only).trans (H3.out.only b)).trans o4)
        have R4 := Lib.hid r4
        clear o4 r4
        go_wp2_with fail
        refine ((HRO.out w4 b s (q + 1) _ R4.out (by omega) hs (by have := HD.out; omega)).2 HRD.out).mono ?_
        rintro e w5 ⟨rfl, o5⟩
        exact ⟨rfl, Done.no HNO.out (O4.out.trans o5)⟩
      | some z =>
        obtain ⟨T, r⟩ := z
        obtain ⟨hq2, rfl⟩ := rd_next (by omega) hrd
        have HRD := Lib.hid hrd
        clear hrd
        go_wp2_with fail
        refine (next_calls _ _ _ _ HL.out.rdr hq (by omega)).mono ?_
        rintro e w3 ⟨rfl, h3⟩
        rw [H32.out]
        have H3 := Lib.hid h3
        clear h3
        go_wp2_with fail
        refine (skip_yes _ b s q 32 (H3.out.rdr HL.out.rdr) hq1 (by omega) H32.out).mono ?_
        rintro e w4 ⟨rfl, o4, r4⟩
        have O4 := Lib.hid ((H3.out.only b).trans o4)
        have R4 := Lib.hid r4
        clear o4 r4
        go_wp2_with fail
        refine ((HRO.out w4 b s (q + 1) _ R4.out (by omega) hs (by have := HD.out; omega)).1 T _ HRD.out).mono ?_
        rintro e w5 ⟨rfl, o5, r5⟩
        have O5 := Lib.hid (O4.out.trans o5)
        have R5 := Lib.hid r5
        have T5 := Lib.hid (Tms.only HL.out.own O5.out hb)
        clear o5 r5
        have hz5 : w.heap.size ≤ w5.heap.size := Nat.le_trans HL.out.only.size O5.out.size
        obtain ⟨tt, vv, ev⟩ := val_iface T
        rw [ev]
        have EV := Lib.hid ev.symm
        clear ev
        go_wp2_with (at_builtin; refine wp_putT (.tmp 16) (.tmp 21) T _ EV.out w.heap.size _ ts rfl rfl rfl T5.out rfl (by omega) hz5 ?_; intro v6 w6 t6 b6)
        have T6 := Lib.hid t6
        have O6 := Lib.hid (only_below (HL.out.only.trans O5.out) b6)
        have R6 := Lib.hid (rdr_below R5.out b6 hb)
        clear t6 b6
        go_roundw
        case rel =>
          refine ⟨q + 1 + T.tx.length, ts ++ [T], k, hq2, O6.out, R6.out, T6.out, ?_, ?_, ?_⟩
          · have := HL.out.fuel
            rw [drop_len] at this ⊢
            omega
          · rw [HL.out.told, E32.out, rdArgs_some HRD.out, cont_cont]
          · have := HL.out.few
            simp
            omega
        case measure =>
          rw [HAT.out, atOf_rdr R6.out]
          omega
    · have H32 := Lib.hid h32
      have htold : O = some (ts, s.data.toList.drop q) := by rw [L.told, rdArgs_stop h32]; simp [cont]
      have d32 : (((nx (s.data.toList.drop q)).toNat : Int) == 32) = false := by
        rw [beq_eq_false_iff_ne]; intro e; exact h32 (UInt8.toNat_inj.1 (by show _ = 32; omega))
      have HT := Lib.hid htold
      clear h32 htold L
      by_cases h93 : nx (s.data.toList.drop q) = 93
      · obtain ⟨hq1, e93⟩ := nx_cons h93 (by decide)
        have H93 := Lib.hid h93
        have er2 : R = (build op ts).map fun t => (t, s.data.toList.drop (q + 1)) := by
          rw [ER.out, HT.out, e93, closed_yes]
        have ER2 := Lib.hid er2
        clear h93 e93 er2
        go_wp2_with fail
        refine (next_calls _ _ _ _ HL.out.rdr hq (by omega)).mono ?_
        rintro e w3 ⟨rfl, h3⟩
        have H3 := Lib.hid h3
        clear h3
        go_wp2_with fail
        refine (skip_yes _ b s q 93 (H3.out.rdr HL.out.rdr) hq1 (by omega) H93.out).mono ?_
        rintro e w4 ⟨rfl, o4, r4⟩
        have O4 := Lib.hid ((H3.out.only b).trans o4)
        have R4 := Lib.hid r4
        have T4 := Lib.hid (Tms.only HL.out.own O4.out hb)
        clear o4 r4
        go_wp2_with fail
        rcases hbd : build op ts with _ | T
        · have HBD := Lib.hid hbd
          clear hbd
          refine (build_no op ts HBD.out w4 w.heap.size _ T4.out).mono ?_
          rintro e w5 ⟨rfl, h5⟩
          exact ⟨rfl, Done.no (by rw [ER2.out, HBD.out]; rfl) ((HL.out.only.trans O4.out).trans (h5.only b))⟩
        · have HBD := Lib.hid hbd
          clear hbd
          refine (build_yes op ts T HBD.out w4 w.heap.size _ T4.out).mono ?_
          rintro e w5 ⟨rfl, h5⟩
          have H5 := Lib.hid h5
          clear h5
          go_wp2_with fail
          go_ret
          have e3 : R = some (T, s.data.toList.drop (q + 1)) := by rw [ER2.out, HBD.out]; rfl
          refine Done.yes e3 ((HL.out.only.trans O4.out).trans (H5.out.only b)) ?_
          rw [place_of (n := n + 1) (s := s) (q := q + 1) (by omega) (by omega) (by rw [← HR.out]; exact e3)]
          exact H5.out.rdr R4.out
      · have hno : R = none := by rw [ER.out, HT.out, closed_no h93]
        have HNO := Lib.hid hno
        have H93 := Lib.hid h93
        clear hno h93
        go_wp2_with fail
        refine (next_calls _ _ _ _ HL.out.rdr hq (by omega)).mono ?_
        rintro e w3 ⟨rfl, h3⟩
        have H3 := Lib.hid h3
        clear h3
        go_wp2_with fail
        refine (skip_no _ b s q 93 (H3.out.rdr HL.out.rdr) hq (by omega) H93.out).mono ?_
        rintro e w4 ⟨rfl, o4⟩
        exact ⟨rfl, Done.no HNO.out ((HL.out.only.trans (H3.out.only b)).trans o4)⟩

theorem rp_all (n : Nat) (ro : RO n) : RP n := fun w b s p d h hp hs hd hd0 h91 =>
  ⟨fun T r e => (rp_done n ro w b s p d h hp hs hd hd0 h91).mono fun _ _ k => k.1 T r e, fun e => (rp_done n ro w b s p d h hp hs hd hd0 h91).mono fun _ _ k => k.2 e⟩

theorem ro_all : ∀ n, n ≤ 24 → RO n
  | 0, _ => ro_zero
  | n + 1, h => ro_succ n (by omega) (rp_all n (ro_all n (by omega)))
end Go.Proofs.YtonjohlecomeoaaGreat.prs

/- Contracts of readTerm and codeOf. -/
namespace Go.Proofs.YtonjohlecomeoaaGreat.grd
open Go.RowKit Go.Proofs.YtonjohlecomeoaaGreat.tm Go.Proofs.YtonjohlecomeoaaGreat.lib Go.Proofs.YtonjohlecomeoaaGreat.rdr Go.Proofs.YtonjohlecomeoaaGreat.bld Go.Proofs.YtonjohlecomeoaaGreat.app Go.Proofs.YtonjohlecomeoaaGreat.prs
set_option linter.unusedVariables false

/-- What becomes of a reading: the term, or the fault. -/
def TEnd (R : Option Tm) (w : World) (e : Ending) (w' : World) : Prop :=
  ((∃ T, R = some T ∧ e = .returned (val T)) ∨ (R = none ∧ e = fault 1)) ∧ Below w.heap.size w w'

theorem only_new {w w' : World} {o : Obj} (h : Only w.heap.size (w.alloc o) w') : Below w.heap.size w w' :=
  ⟨h.os, h.tape, h.output, by have := h.size; simp at this; omega, fun k hk => by rw [h.block k (by simp; omega) (by omega)]; exact Below.heap_alloc _ _ _ hk⟩

set_option maxRecDepth 100000 in
theorem readTerm_calls (s : ByteArray) (hs : s.size ≤ maxLen) (w : World) :
    Calls Tryz.prog 140 #[.string s] w (TEnd (term s.data.toList) w) := by
  unfold maxLen at hs
  by_cases hbig : 3000 < s.size
  · have d0 : decide (3000 < (s.size : Int)) = true := by simp; omega
    have e0 : term s.data.toList = none := by
      unfold term
      rw [if_neg (by show ¬ s.size ≤ 3000; omega)]
    have E0 := Lib.hid e0
    clear e0
    go_enter Tryz.func140, Tryz.ntmps140
    go_wp2_with (go_at_call 103; refine (refuse_calls _ _).mono ?_; rintro e w' ⟨rfl, rfl⟩)
    exact ⟨rfl, .inr ⟨E0.out, rfl⟩, Below.refl _ _⟩
  · have d0 : decide (3000 < (s.size : Int)) = false := by simp; omega
    have hr : Rdr (w.alloc (.cells #[.string s, .int .i64 0] 184)) w.heap.size s 0 := by
      unfold Rdr
      rw [heap_alloc_new]
      rfl
    have hro := ro_all 24 (Nat.le_refl _) _ w.heap.size s 0 1 hr (by omega) (by omega) rfl
    have ht : term s.data.toList = pz 24 s.data.toList := by
      unfold term
      rw [if_pos (by show s.size ≤ 3000; omega)]
    rw [List.drop_zero] at hro
    obtain ⟨Z, hZ⟩ : ∃ Z, Z = rd 24 s.data.toList := ⟨_, rfl⟩
    rw [← hZ] at hro
    unfold pz at ht
    rw [← hZ] at ht
    have hsound := fun T r => rd_sound 24 s.data.toList T r
    rw [← hZ] at hsound
    have HS := Lib.hid hsound
    clear hZ hr hsound
    have HRO := Lib.hid hro
    have HT := Lib.hid ht
    clear hro ht
    go_enter Tryz.func140, Tryz.ntmps140
    go_wp2_with fail
    rcases Z with _ | ⟨T, r⟩
    · refine (HRO.out.2 rfl).mono ?_
      rintro e w1 ⟨rfl, ho⟩
      exact ⟨rfl, .inr ⟨HT.out, rfl⟩, only_new ho⟩
    · refine (HRO.out.1 T r rfl).mono ?_
      rintro e w1 ⟨rfl, ho, hr⟩
      obtain ⟨c0, c1, f0, f1, hb1⟩ := two hr
      rw [Nat.zero_add] at c1
      have e1 : T.tx.length + r.length = s.size := by
        have := congrArg List.length (HS.out T r rfl).1
        rw [List.length_append] at this
        exact this.symm
      have HB := Lib.hid (only_new ho)
      have HE := Lib.hid e1
      have hle : T.tx.length ≤ s.size := by omega
      clear ho hr e1
      by_cases hl : T.tx.length < s.size
      · have en : term s.data.toList = none := by
          rw [HT.out]
          cases r with
          | nil => have := HE.out; simp at this; omega
          | cons c r => rfl
        have EN := Lib.hid en
        clear en
        go_wp2_with (go_at_call 103; refine (refuse_calls _ _).mono ?_; rintro e w' ⟨rfl, rfl⟩)
        exact ⟨rfl, .inr ⟨EN.out, rfl⟩, HB.out⟩
      · have es : term s.data.toList = some T := by
          rw [HT.out]
          cases r with
          | nil => rfl
          | cons c r => have := HE.out; simp at this; omega
        have ES := Lib.hid es
        clear es
        go_wp2_with fail
        go_ret
        exact ⟨.inl ⟨T, ES.out, rfl⟩, HB.out⟩

theorem one {w : World} {b : Nat} {v : Value} {t : TypeId} (h : w.heap[b]? = some (.cells #[v] t (0, 0))) :
    w.cell? ⟨b, 0, none⟩ = some v ∧ w.frozen? ⟨b, 0, none⟩ = false ∧ b < w.heap.size := by
  have hb : b < w.heap.size := by
    rcases Nat.lt_or_ge b w.heap.size with h' | h'
    · exact h'
    · rw [Array.getElem?_eq_none h'] at h; cases h
  exact ⟨by rw [cell_of_row w b 0 _ t (0, 0) h]; rfl, by simp [World.frozen?, h], hb⟩

theorem as_fault (v : Value) (w : World) : (Instr.typeAssert (.iface 150 v) 20 150 true).run Tryz.prog w = .ok (.tuple #[v, .bool true]) w := by kernel_rfl

set_option maxRecDepth 100000 in
theorem codeOf_calls (c : Int) (w : World) : Calls Tryz.prog 133 #[.iface 150 (.agg #[.int .i64 c])] w fun e w' => e = .returned (.int .i64 c) ∧ Below w.heap.size w w' := by
  have h1 := as_fault (.agg #[.int .i64 c])
  go_enter Tryz.func133, Tryz.ntmps133
  go_wp2
  go_ret
  exact ⟨rfl, (Below.refl _ _).alloc (Nat.le_refl _) _⟩

end Go.Proofs.YtonjohlecomeoaaGreat.grd

/- Contracts of guarded at terms and its deferred closure; of termOf: a term, or none. -/
namespace Go.Proofs.YtonjohlecomeoaaGreat.grd
open Go.RowKit Go.Proofs.YtonjohlecomeoaaGreat.tm Go.Proofs.YtonjohlecomeoaaGreat.lib Go.Proofs.YtonjohlecomeoaaGreat.rdr Go.Proofs.YtonjohlecomeoaaGreat.bld Go.Proofs.YtonjohlecomeoaaGreat.app Go.Proofs.YtonjohlecomeoaaGreat.prs
set_option linter.unusedVariables false

set_option maxRecDepth 100000 in
theorem catchT_panic (p : Addr) (x c : Int) (older : List PanicEntry) (w : World) (hc : w.cell? p = some (.int .i64 x)) (hz : w.frozen? p = false) (hp : p.block < w.heap.size) :
    CallsD Tryz.prog 157 #[.pointer (some p)] (.panicking ({ v := .iface 150 (.agg #[.int .i64 c]), recovered := false } :: older)) w fun e u' w' =>
      e = .returned (.tuple #[]) ∧ u' = .panicking ({ v := .iface 150 (.agg #[.int .i64 c]), recovered := true } :: older) ∧ ∃ w1, Below w.heap.size w w1 ∧ w' = w1.setCell p (.int .i64 c) := by
  refine callsD_of_wpS Tryz.func157 rfl fun c₀ cs hu => ?_
  apply wpS_seq
  apply wpS_region
  simp [wpOpsS, go_sem, recoverD, hu, Tryz.ntmps157, Exit.thenS]
  refine wpS_of_wp ?_
  change Code.wp _ _ _ { tmps := #[.pointer (some p), .iface 150 (.agg #[.int .i64 c]), .iface 150 (.agg #[.int .i64 c]), undef, undef, undef, undef], defers := [] } _
  clear hu
  go_wp2_with (go_at_call 133; refine (codeOf_calls _ _).mono ?_; rintro e w1 ⟨rfl, hb⟩; have hc1 := hb.cell hp; rw [hc] at hc1; have hz1 := hb.frozen hp; rw [hz] at hz1; have HB := Lib.hid hb; clear hb)
  exact ⟨rfl, _, rfl, .tuple #[], by simp [results, Tryz.results157, go_sem], rfl, rfl, w1, HB.out, rfl⟩

set_option maxRecDepth 100000 in
theorem catchT_idle (p : Addr) (w : World) :
    CallsD Tryz.prog 157 #[.pointer (some p)] .returning w fun e u' w' => e = .returned (.tuple #[]) ∧ u' = .returning ∧ w' = w := by
  refine callsD_of_wpS Tryz.func157 rfl fun c₀ cs hu => ?_
  apply wpS_seq
  apply wpS_region
  simp [wpOpsS, go_sem, recoverD, hu, Tryz.ntmps157, Exit.thenS]
  refine wpS_of_wp ?_
  change Code.wp _ _ _ { tmps := #[.pointer (some p), .nilIface, .nilIface, undef, undef, undef, undef], defers := [] } _
  go_wp2
  refine ⟨rfl, .returning, ?_, .tuple #[], by simp [results, Tryz.results157, go_sem], rfl, rfl, rfl⟩
  cases c₀
  simp_all

/-- guarded of a closure that returns. -/
theorem guardedT_ret (F : FuncId) (cap : Array Value) (v : Value) (hcf : ∀ (w : World), (callFunc F cap).run Tryz.prog w = .ok (.enter F cap) w) (w : World)
    (h : ∀ w1, Below w.heap.size w w1 → Calls Tryz.prog F cap w1 fun e w' => e = .returned v ∧ Below w1.heap.size w1 w') :
    Calls Tryz.prog 138 #[.func (.func F) #[] cap] w fun e w' => e = .returned (.tuple #[v, .int .i64 0]) ∧ Below w.heap.size w w' := by
  have hmf : ∀ (fn : Fn) (first cap : Array Value) (w : World), (Instr.makeFunc fn first cap).run Tryz.prog w = .ok (.func fn first cap) w := fun _ _ _ _ => rfl
  have HH := Lib.hid h
  clear h
  go_enter_defers Tryz.func138, Tryz.ntmps138
  go_wp2_with fail
  refine (HH.out _ ((Below.refl _ _).alloc (Nat.le_refl _) _)).mono ?_
  rintro e w1 ⟨rfl, hb⟩
  obtain ⟨c0, f0, z0⟩ := one (clo.new_kept hb)
  have HB := Lib.hid (((Below.refl _ _).alloc (Nat.le_refl _) _).trans (hb.mono (by simp)))
  clear hb
  go_wp2_with fail
  refine leaves_cons (f := 157) (args := #[.pointer (some ⟨w.heap.size, 0, none⟩)]) (by simp) (by simp [go_sem]) ?_
  refine (catchT_idle ⟨w.heap.size, 0, none⟩ _).mono ?_
  rintro e u' w'' ⟨rfl, rfl, rfl⟩
  refine ⟨.tuple #[v, .int .i64 0], by simp [results, Tryz.results138, go_sem, c0], rfl, HB.out.setCell (by simp) _⟩

/-- guarded of a closure that leaves off with a code. -/
theorem guardedT_fault (F : FuncId) (cap : Array Value) (c : Int) (hcf : ∀ (w : World), (callFunc F cap).run Tryz.prog w = .ok (.enter F cap) w) (w : World)
    (h : ∀ w1, Below w.heap.size w w1 → Calls Tryz.prog F cap w1 fun e w' => e = fault c ∧ Below w1.heap.size w1 w') :
    Calls Tryz.prog 138 #[.func (.func F) #[] cap] w fun e w' => e = .returned (.tuple #[.nilIface, .int .i64 c]) ∧ Below w.heap.size w w' := by
  have hmf : ∀ (fn : Fn) (first cap : Array Value) (w : World), (Instr.makeFunc fn first cap).run Tryz.prog w = .ok (.func fn first cap) w := fun _ _ _ _ => rfl
  have HH := Lib.hid h
  clear h
  go_enter_defers Tryz.func138, Tryz.ntmps138
  go_wp2_with fail
  refine (HH.out _ ((Below.refl _ _).alloc (Nat.le_refl _) _)).mono ?_
  rintro e w1 ⟨rfl, hb⟩
  obtain ⟨c0, f0, z0⟩ := one (clo.new_kept hb)
  have HB := Lib.hid (((Below.refl _ _).alloc (Nat.le_refl _) _).trans (hb.mono (by simp)))
  clear hb
  refine leaves_cons (f := 157) (args := #[.pointer (some ⟨w.heap.size, 0, none⟩)]) (by simp) (by simp [go_sem]) ?_
  refine (catchT_panic ⟨w.heap.size, 0, none⟩ 0 c [] _ c0 f0 z0).mono ?_
  rintro e u' w'' ⟨rfl, rfl, w2, hb2, rfl⟩
  have c1 := hb2.cell (p := ⟨w.heap.size, 0, none⟩) z0
  rw [c0] at c1
  have z2 := hb2.size
  have z3 : w.heap.size < w2.heap.size := by omega
  refine ⟨.tuple #[.nilIface, .int .i64 c], by simp [results, Tryz.results138, go_sem, c1], rfl, (HB.out.trans (hb2.mono (by omega))).setCell (by simp) _⟩

/-! ### termOf -/
theorem closT (a : Value) (w : World) : (callFunc 139 #[a]).run Tryz.prog w = .ok (.enter 139 #[a]) w := by kernel_rfl

set_option maxRecDepth 100000 in
theorem clos_calls (s : ByteArray) (hs : s.size ≤ maxLen) (a : Nat) (w : World) (hc : w.cell? ⟨a, 0, none⟩ = some (.string s)) :
    Calls Tryz.prog 139 #[.pointer (some ⟨a, 0, none⟩)] w (TEnd (term s.data.toList) w) := by
  go_enter Tryz.func139, Tryz.ntmps139
  go_wp2_with fail
  refine (readTerm_calls s hs _).mono ?_
  rintro e w1 ⟨h, hb⟩
  rcases h with ⟨T, h1, rfl⟩ | ⟨h1, rfl⟩
  · have H1 := Lib.hid h1
    have HB := Lib.hid hb
    clear h1 hb
    go_wp2_with fail
    go_ret
    exact ⟨.inl ⟨T, H1.out, rfl⟩, HB.out⟩
  · exact ⟨rfl, .inr ⟨h1, rfl⟩, hb⟩

theorem Below.push {w w1 : World} {o : Obj} (h : Below w.heap.size (w.alloc o) w1) : Below w.heap.size w w1 := ((Below.refl _ _).alloc (Nat.le_refl _) _).trans h

set_option maxRecDepth 100000 in
theorem termOf_yes (s : ByteArray) (hs : s.size ≤ maxLen) (T : Tm) (h : term s.data.toList = some T) (w : World) :
    Calls Tryz.prog 106 #[.string s] w fun e w' => e = .returned (.tuple #[val T, .bool true]) ∧ Below w.heap.size w w' := by
  have hcl := guardedT_ret 139 #[.pointer (some ⟨w.heap.size, 0, none⟩)] (val T) (fun w => closT _ w) (w.alloc (.cells #[.string s] 9)) fun w1 hb =>
    (clos_calls s hs w.heap.size w1 (by rw [hb.cell (p := ⟨w.heap.size, 0, none⟩) (by simp)]; simp [go_sem])).mono fun e w' hk => by
      obtain ⟨hk, hb⟩ := hk
      rcases hk with ⟨T', h1, rfl⟩ | ⟨h1, rfl⟩
      · rw [h] at h1; cases h1; exact ⟨rfl, hb⟩
      · rw [h] at h1; cases h1
  have hmf : ∀ (fn : Fn) (first cap : Array Value) (w : World), (Instr.makeFunc fn first cap).run Tryz.prog w = .ok (.func fn first cap) w := fun _ _ _ _ => rfl
  have HC := Lib.hid hcl
  clear hcl h
  go_enter Tryz.func106, Tryz.ntmps106
  go_wp2_with fail
  refine HC.out.mono ?_
  rintro e w1 ⟨rfl, hb⟩
  go_wp2_with fail
  go_ret2
  exact ⟨rfl, Below.push (hb.mono (by simp))⟩

set_option maxRecDepth 100000 in
theorem termOf_no (s : ByteArray) (hs : s.size ≤ maxLen) (h : term s.data.toList = none) (w : World) :
    Calls Tryz.prog 106 #[.string s] w fun e w' => e = .returned (.tuple #[.nilIface, .bool false]) ∧ Below w.heap.size w w' := by
  have hcl := guardedT_fault 139 #[.pointer (some ⟨w.heap.size, 0, none⟩)] 1 (fun w => closT _ w) (w.alloc (.cells #[.string s] 9)) fun w1 hb =>
    (clos_calls s hs w.heap.size w1 (by rw [hb.cell (p := ⟨w.heap.size, 0, none⟩) (by simp)]; simp [go_sem])).mono fun e w' hk => by
      obtain ⟨hk, hb⟩ := hk
      rcases hk with ⟨T', h1, rfl⟩ | ⟨h1, rfl⟩
      · rw [h] at h1; cases h1
      · exact ⟨rfl, hb⟩
  have hmf : ∀ (fn : Fn) (first cap : Array Value) (w : World), (Instr.makeFunc fn first cap).run Tryz.prog w = .ok (.func fn first cap) w := fun _ _ _ _ => rfl
  have HC := Lib.hid hcl
  clear hcl h
  go_enter Tryz.func106, Tryz.ntmps106
  go_wp2_with fail
  refine HC.out.mono ?_
  rintro e w1 ⟨rfl, hb⟩
  go_wp2_with fail
  go_ret2
  exact ⟨rfl, Below.push (hb.mono (by simp))⟩

end Go.Proofs.YtonjohlecomeoaaGreat.grd
