/- Several small texts, one behind the other. -/
import Derived.Test.YtdikjmhnjlalbabGreatQg
import Derived.Test.YtdikjmhnjlalbabGreatQd
import Derived.WalkLawsBesides

/- Contracts of the methods args and op of the seven kinds of terms; how an interface value finds them. -/
namespace Go.Proofs.YtdikjmhnjlalbabGreat.arg
open Go.RowKit Go.Proofs.YtdikjmhnjlalbabGreat.tm Go.Proofs.YtdikjmhnjlalbabGreat.lib Go.Proofs.YtdikjmhnjlalbabGreat.rdr Go.Proofs.YtdikjmhnjlalbabGreat.bld Go.Proofs.YtdikjmhnjlalbabGreat.app
set_option linter.unusedVariables false

def ty : Tm → TypeId
  | .atom _ => 87
  | .pair _ _ => 143
  | .hash _ => 145
  | .mac _ _ => 147
  | .shut _ _ => 149
  | .pub _ => 89
  | .dh _ _ => 154

def inner : Tm → Value
  | .atom a => str a
  | .pair l r => .agg #[val l, val r]
  | .hash x => .agg #[val x]
  | .mac k x => .agg #[val k, val x]
  | .shut k x => .agg #[val k, val x]
  | .pub a => .agg #[str a]
  | .dh a b => .agg #[str a, str b]

def argsFn : Tm → FuncId
  | .atom _ => 135
  | .pair _ _ => 141
  | .hash _ => 143
  | .mac _ _ => 145
  | .shut _ _ => 147
  | .pub _ => 137
  | .dh _ _ => 149

def opFn : Tm → FuncId
  | .atom _ => 136
  | .pair _ _ => 142
  | .hash _ => 144
  | .mac _ _ => 146
  | .shut _ _ => 148
  | .pub _ => 138
  | .dh _ _ => 150

theorem val_eq (T : Tm) : val T = .iface (ty T) (inner T) := by cases T <;> rfl

theorem met_args (T : Tm) (w : World) : (method 272 (ty T) (inner T) "loop.example/g00784/impl.args").run Tryz.prog w = .ok (argsFn T, inner T) w := by
  cases T <;> kernel_rfl
theorem met_op (T : Tm) (w : World) : (method 272 (ty T) (inner T) "loop.example/g00784/impl.op").run Tryz.prog w = .ok (opFn T, inner T) w := by
  cases T <;> kernel_rfl
theorem inv_args (T : Tm) (w : World) : (callFunc (argsFn T) #[inner T]).run Tryz.prog w = .ok (.enter (argsFn T) #[inner T]) w := by
  cases T <;> kernel_rfl
theorem inv_op (T : Tm) (w : World) : (callFunc (opFn T) #[inner T]).run Tryz.prog w = .ok (.enter (opFn T) #[inner T]) w := by
  cases T <;> kernel_rfl

/-- A row just made. -/
theorem tms_new1 (w : World) (g : Nat) (hg : g = w.heap.size) (B : Nat) (hB : B ≤ w.heap.size) (x : Tm) (u : Value) (hu : u = val x) : Tms (w.alloc (.cells #[u] 58)) B (.slice (some ⟨g, 0, none⟩) 1 1) [x] := by
  subst hg
  subst hu
  exact ⟨rfl, .inr ⟨w.heap.size, 1, #[val x], rfl, hB, heap_alloc_new _ _, Nat.le_refl _, by unfold maxLen; omega, rfl, rfl⟩⟩
theorem tms_new2 (w : World) (g : Nat) (hg : g = w.heap.size) (B : Nat) (hB : B ≤ w.heap.size) (x y : Tm) (u v : Value) (hu : u = val x) (hv : v = val y) : Tms (w.alloc (.cells #[u, v] 58)) B (.slice (some ⟨g, 0, none⟩) 2 2) [x, y] := by
  subst hg
  subst hu
  subst hv
  exact ⟨rfl, .inr ⟨w.heap.size, 2, #[val x, val y], rfl, hB, heap_alloc_new _ _, Nat.le_refl _, by unfold maxLen; omega, rfl, rfl⟩⟩

def Kids (w : World) (ks : List Tm) (e : Ending) (w' : World) : Prop := ∃ v, e = .returned v ∧ Below w.heap.size w w' ∧ Tms w' w.heap.size v ks

set_option maxRecDepth 100000 in
theorem args_calls (T : Tm) (w : World) : Calls Tryz.prog (argsFn T) #[inner T] w (Kids w T.kids) := by
  cases T with
  | atom a =>
    simp only [argsFn, inner, Tm.kids]
    go_enter Tryz.func135, Tryz.ntmps135
    go_wp2_with fail
    go_ret
    exact ⟨_, rfl, Below.refl _ _, Tms.nil _ _⟩
  | pair x y =>
    simp only [argsFn, inner, Tm.kids]
    obtain ⟨tx, vx, ex⟩ := val_iface x
    obtain ⟨ty, vy, ey⟩ := val_iface y
    have EX := Lib.hid ex.symm
    have EY := Lib.hid ey.symm
    rw [ex, ey]
    clear ex ey
    go_enter Tryz.func141, Tryz.ntmps141
    go_wp2_with fail
    go_ret
    exact ⟨_, rfl, ((Below.refl _ _).alloc (Nat.le_refl _) _).alloc (by simp) _, tms_new2 (w.alloc _) _ (by simp) w.heap.size (by simp) x y _ _ EX.out EY.out⟩
  | hash x =>
    simp only [argsFn, inner, Tm.kids]
    obtain ⟨tx, vx, ex⟩ := val_iface x
    have EX := Lib.hid ex.symm
    rw [ex]
    clear ex
    go_enter Tryz.func143, Tryz.ntmps143
    go_wp2_with fail
    go_ret
    exact ⟨_, rfl, ((Below.refl _ _).alloc (Nat.le_refl _) _).alloc (by simp) _, tms_new1 (w.alloc _) _ (by simp) w.heap.size (by simp) x _ EX.out⟩
  | mac x y =>
    simp only [argsFn, inner, Tm.kids]
    obtain ⟨tx, vx, ex⟩ := val_iface x
    obtain ⟨ty, vy, ey⟩ := val_iface y
    have EX := Lib.hid ex.symm
    have EY := Lib.hid ey.symm
    rw [ex, ey]
    clear ex ey
    go_enter Tryz.func145, Tryz.ntmps145
    go_wp2_with fail
    go_ret
    exact ⟨_, rfl, ((Below.refl _ _).alloc (Nat.le_refl _) _).alloc (by simp) _, tms_new2 (w.alloc _) _ (by simp) w.heap.size (by simp) x y _ _ EX.out EY.out⟩
  | shut x y =>
    simp only [argsFn, inner, Tm.kids]
    obtain ⟨tx, vx, ex⟩ := val_iface x
    obtain ⟨ty, vy, ey⟩ := val_iface y
    have EX := Lib.hid ex.symm
    have EY := Lib.hid ey.symm
    rw [ex, ey]
    clear ex ey
    go_enter Tryz.func147, Tryz.ntmps147
    go_wp2_with fail
    go_ret
    exact ⟨_, rfl, ((Below.refl _ _).alloc (Nat.le_refl _) _).alloc (by simp) _, tms_new2 (w.alloc _) _ (by simp) w.heap.size (by simp) x y _ _ EX.out EY.out⟩
  | pub a =>
    simp only [argsFn, inner, Tm.kids]
    go_enter Tryz.func137, Tryz.ntmps137
    go_wp2_with fail
    go_ret
    exact ⟨_, rfl, ((Below.refl _ _).alloc (Nat.le_refl _) _).alloc (by simp) _, tms_new1 (w.alloc _) _ (by simp) w.heap.size (by simp) (.atom a) _ rfl⟩
  | dh a b =>
    simp only [argsFn, inner, Tm.kids]
    go_enter Tryz.func149, Tryz.ntmps149
    go_wp2_with fail
    go_ret
    exact ⟨_, rfl, ((Below.refl _ _).alloc (Nat.le_refl _) _).alloc (by simp) _, tms_new2 (w.alloc _) _ (by simp) w.heap.size (by simp) (.atom a) (.atom b) _ _ rfl rfl⟩

set_option maxRecDepth 100000 in
theorem op_calls (T : Tm) (w : World) : Calls Tryz.prog (opFn T) #[inner T] w fun e w' => e = .returned (str T.op) ∧ Below w.heap.size w w' := by
  cases T with
  | atom a =>
    simp only [opFn, inner, Tm.op]
    go_enter Tryz.func136, Tryz.ntmps136
    go_wp2_with fail
    go_ret
    first | exact ⟨rfl, Below.refl _ _⟩ | exact ⟨rfl, (Below.refl _ _).alloc (Nat.le_refl _) _⟩
  | pair x y =>
    simp only [opFn, inner, Tm.op]
    obtain ⟨tx, vx, ex⟩ := val_iface x
    rw [ex]
    clear ex
    obtain ⟨ty, vy, ey⟩ := val_iface y
    rw [ey]
    clear ey
    go_enter Tryz.func142, Tryz.ntmps142
    go_wp2_with fail
    go_ret
    first | exact ⟨rfl, Below.refl _ _⟩ | exact ⟨rfl, (Below.refl _ _).alloc (Nat.le_refl _) _⟩
  | hash x =>
    simp only [opFn, inner, Tm.op]
    obtain ⟨tx, vx, ex⟩ := val_iface x
    rw [ex]
    clear ex
    go_enter Tryz.func144, Tryz.ntmps144
    go_wp2_with fail
    go_ret
    first | exact ⟨rfl, Below.refl _ _⟩ | exact ⟨rfl, (Below.refl _ _).alloc (Nat.le_refl _) _⟩
  | mac x y =>
    simp only [opFn, inner, Tm.op]
    obtain ⟨tx, vx, ex⟩ := val_iface x
    rw [ex]
    clear ex
    obtain ⟨ty, vy, ey⟩ := val_iface y
    rw [ey]
    clear ey
    go_enter Tryz.func146, Tryz.ntmps146
    go_wp2_with fail
    go_ret
    first | exact ⟨rfl, Below.refl _ _⟩ | exact ⟨rfl, (Below.refl _ _).alloc (Nat.le_refl _) _⟩
  | shut x y =>
    simp only [opFn, inner, Tm.op]
    obtain ⟨tx, vx, ex⟩ := val_iface x
    rw [ex]
    clear ex
    obtain ⟨ty, vy, ey⟩ := val_iface y
    rw [ey]
    clear ey
    go_enter Tryz.func148, Tryz.ntmps148
    go_wp2_with fail
    go_ret
    first | exact ⟨rfl, Below.refl _ _⟩ | exact ⟨rfl, (Below.refl _ _).alloc (Nat.le_refl _) _⟩
  | pub a =>
    simp only [opFn, inner, Tm.op]
    go_enter Tryz.func138, Tryz.ntmps138
    go_wp2_with fail
    go_ret
    first | exact ⟨rfl, Below.refl _ _⟩ | exact ⟨rfl, (Below.refl _ _).alloc (Nat.le_refl _) _⟩
  | dh a b =>
    simp only [opFn, inner, Tm.op]
    go_enter Tryz.func150, Tryz.ntmps150
    go_wp2_with fail
    go_ret
    first | exact ⟨rfl, Below.refl _ _⟩ | exact ⟨rfl, (Below.refl _ _).alloc (Nat.le_refl _) _⟩
theorem Tms.one' {w : World} {B : Nat} {v : Value} {x : Tm} (h : Tms w B v [x]) : ∃ g cap, v = .slice (some ⟨g, 0, none⟩) 1 cap ∧ w.cell? ⟨g, 0, none⟩ = some (val x) ∧ g < w.heap.size := by
  obtain ⟨g, cap, e, c⟩ := Tms.one h
  exact ⟨g, cap, e, c, (World.ownsRow.lt h g (by rw [e]; rfl)).2⟩
theorem Tms.two' {w : World} {B : Nat} {v : Value} {x y : Tm} (h : Tms w B v [x, y]) : ∃ g cap, v = .slice (some ⟨g, 0, none⟩) 2 cap ∧ w.cell? ⟨g, 0, none⟩ = some (val x) ∧ w.cell? ⟨g, 1, none⟩ = some (val y) ∧ g < w.heap.size := by
  obtain ⟨g, cap, e, c, c'⟩ := Tms.two h
  exact ⟨g, cap, e, c, c', (World.ownsRow.lt h g (by rw [e]; rfl)).2⟩

end Go.Proofs.YtdikjmhnjlalbabGreat.arg

/- Contracts of textOf and argTexts of the program. -/
namespace Go.Proofs.YtdikjmhnjlalbabGreat.txt
open Go.RowKit Go.Proofs.YtdikjmhnjlalbabGreat.tm Go.Proofs.YtdikjmhnjlalbabGreat.lib Go.Proofs.YtdikjmhnjlalbabGreat.rdr Go.Proofs.YtdikjmhnjlalbabGreat.bld Go.Proofs.YtdikjmhnjlalbabGreat.app Go.Proofs.YtdikjmhnjlalbabGreat.arg
set_option linter.unusedVariables false

def TX (T : Tm) : Prop := ∀ w, Calls Tryz.prog 64 #[val T] w fun e w' => e = .returned (str T.tx) ∧ Below w.heap.size w w'
def AT (T : Tm) : Prop := ∀ w, Calls Tryz.prog 76 #[val T] w fun e w' => ∃ v, e = .returned v ∧ Below w.heap.size w w' ∧ Strs w' w.heap.size v (T.kids.map Tm.tx)

theorem kids_node (T : Tm) (h : T.isAtom = false) : (∃ x, T.kids = [x]) ∨ (∃ x y, T.kids = [x, y]) := by
  cases T with
  | atom a => cases h
  | pair x y => exact .inr ⟨x, y, rfl⟩
  | hash x => exact .inl ⟨x, rfl⟩
  | mac x y => exact .inr ⟨x, y, rfl⟩
  | shut x y => exact .inr ⟨x, y, rfl⟩
  | pub a => exact .inl ⟨.atom a, rfl⟩
  | dh a b => exact .inr ⟨.atom a, .atom b, rfl⟩

set_option maxHeartbeats 1000000 in
set_option maxRecDepth 100000 in
theorem at_node (T : Tm) (hn : T.isAtom = false) (ih : ∀ k ∈ T.kids, TX k) : AT T := by
  intro w
  have h1 := met_args T
  have h2 := inv_args T
  have h3 := args_calls T w
  rw [val_eq]
  rcases kids_node T hn with ⟨x, e1⟩ | ⟨x, y, e1⟩
  · rw [e1] at h3 ⊢
    have ix := ih x (by rw [e1]; simp)
    unfold TX at ix
    simp only [List.map_cons, List.map_nil]
    obtain ⟨X, hX⟩ : ∃ X, X = x.tx := ⟨_, rfl⟩
    rw [← hX] at ix ⊢
    clear e1 ih hn hX
    go_enter Tryz.func76, Tryz.ntmps76
    go_wp2_with fail
    refine h3.mono ?_
    rintro e w1 ⟨v, rfl, hb, hk⟩
    obtain ⟨g, cap, rfl, c0, hg⟩ := Tms.one' hk
    have HB := Lib.hid hb
    clear hb hk
    go_wp2_with fail
    refine wp_loop_rounds 2 ?_
    rw [rounds_succ]
    go_wp2_with fail
    refine (ix _).mono ?_
    rintro e w2 ⟨rfl, hb2⟩
    have HB2 := Lib.hid (HB.out.trans (hb2.mono HB.out.size))
    have hz := HB2.out.size
    clear hb2 c0
    go_wp2_with (at_builtin; refine wp_putS (.tmp 13) (.tmp 16) X w.heap.size _ [] rfl rfl rfl (Strs.nil _ _) rfl (by simp) hz ?_; intro v3 w3 t3 b3)
    have HB3 := Lib.hid (HB2.out.trans b3)
    have T3 := Lib.hid t3
    clear b3 t3
    rw [rounds_succ]
    go_wp2_with fail
    go_ret
    exact ⟨_, rfl, HB3.out, T3.out⟩
  · rw [e1] at h3 ⊢
    have ix := ih x (by rw [e1]; simp)
    have iy := ih y (by rw [e1]; simp)
    unfold TX at ix iy
    simp only [List.map_cons, List.map_nil]
    obtain ⟨X, hX⟩ : ∃ X, X = x.tx := ⟨_, rfl⟩
    obtain ⟨Y, hY⟩ : ∃ Y, Y = y.tx := ⟨_, rfl⟩
    rw [← hX] at ix ⊢
    rw [← hY] at iy ⊢
    clear e1 ih hn hX hY
    go_enter Tryz.func76, Tryz.ntmps76
    go_wp2_with fail
    refine h3.mono ?_
    rintro e w1 ⟨v, rfl, hb, hk⟩
    obtain ⟨g, cap, rfl, c0, c1, hg⟩ := Tms.two' hk
    have HB := Lib.hid hb
    clear hb hk
    go_wp2_with fail
    refine wp_loop_rounds 3 ?_
    rw [rounds_succ]
    go_wp2_with fail
    refine (ix _).mono ?_
    rintro e w2 ⟨rfl, hb2⟩
    have HB2 := Lib.hid (HB.out.trans (hb2.mono HB.out.size))
    have k1 := hb2.cell (p := ⟨g, 1, none⟩) hg
    rw [c1] at k1
    have hz := HB2.out.size
    have hg2 : g < w2.heap.size := Nat.lt_of_lt_of_le hg hb2.size
    clear hb2 c0 c1 hg
    go_wp2_with (at_builtin; refine wp_putS (.tmp 13) (.tmp 16) X w2.heap.size _ [] rfl rfl rfl (Strs.nil _ _) rfl (by simp) (Nat.le_refl _) ?_; intro v3 w3 t3 b3)
    have HB3 := Lib.hid (HB2.out.trans (b3.mono hz))
    have T3 := Lib.hid t3
    have m1 := b3.cell (p := ⟨g, 1, none⟩) hg2
    rw [k1] at m1
    have hz3 := HB3.out.size
    have hz32 := b3.size
    clear b3 t3 k1
    rw [rounds_succ]
    go_wp2_with fail
    refine (iy _).mono ?_
    rintro e w4 ⟨rfl, hb4⟩
    have HB4 := Lib.hid (HB3.out.trans (hb4.mono HB3.out.size))
    have T4 := Lib.hid (Strs.below T3.out hb4)
    have hz4 : w2.heap.size ≤ w4.heap.size := Nat.le_trans hz32 hb4.size
    clear hb4 m1
    go_wp2_with (at_builtin; refine wp_putS (.tmp 13) (.tmp 16) Y w2.heap.size _ [X] rfl rfl rfl T4.out rfl (by simp) hz4 ?_; intro v5 w5 t5 b5)
    have HB5 := Lib.hid (HB4.out.trans (b5.mono hz))
    have T5 := Lib.hid t5
    clear b5 t5
    rw [rounds_succ]
    go_wp2_with fail
    go_ret
    exact ⟨_, rfl, HB5.out, own_base T5.out hz⟩
end Go.Proofs.YtdikjmhnjlalbabGreat.txt

/- Contract of textOf of the program: the text of a term. -/
namespace Go.Proofs.YtdikjmhnjlalbabGreat.txo
open Go.RowKit Go.Proofs.YtdikjmhnjlalbabGreat.tm Go.Proofs.YtdikjmhnjlalbabGreat.lib Go.Proofs.YtdikjmhnjlalbabGreat.rdr Go.Proofs.YtdikjmhnjlalbabGreat.bld Go.Proofs.YtdikjmhnjlalbabGreat.app Go.Proofs.YtdikjmhnjlalbabGreat.arg Go.Proofs.YtdikjmhnjlalbabGreat.txt
set_option linter.unusedVariables false

set_option maxRecDepth 100000 in
theorem tx_atom (a : Bs) : TX (.atom a) := by
  intro w
  have h1 := as_atom a
  simp only [val] at h1 ⊢
  go_enter Tryz.func64, Tryz.ntmps64
  go_wp2_with fail
  go_ret
  exact ⟨rfl, Below.refl _ _⟩

def joined : List Bs → Bs
  | [] => []
  | [a] => a
  | a :: l => a ++ 32 :: joined l

/-- Join by a blank. -/
theorem join_at (w : World) (B : Nat) (v : Value) (ls : List Bs) (h : Strs w B v ls) (hl : ls = [] ∨ (∃ a, ls = [a]) ∨ (∃ a b, ls = [a, b])) (hs : (joined ls).length ≤ 1000000) :
    Calls Tryz.prog 93 #[v, .string ⟨#[32]⟩] w fun e w' => e = .returned (str (joined ls)) ∧ Below w.heap.size w w' := by
  have hf : (v = .slice none 0 0 ∧ ls = []) ∨ ∃ g cap, v = .slice (some ⟨g, 0, none⟩) ls.length cap ∧ (∀ j l, ls[j]? = some l → w.cell? ⟨g, j, none⟩ = some (str l)) ∧ g < w.heap.size ∧ ls.length ≤ cap := by
    have h' := h
    obtain ⟨hl, h⟩ := h
    rcases h with ⟨rfl, h⟩ | ⟨g, cap, cur, rfl, hg, hh, hc1, hc2, hc3, hc4⟩
    · exact .inl ⟨rfl, List.eq_nil_of_length_eq_zero h⟩
    · refine .inr ⟨g, cap, rfl, fun j T hj => ?_, (World.ownsRow.lt h' g rfl).2, hc1⟩
      have := World.ownsRow.cells h' (g := g) rfl j (str T) (by rw [List.getElem?_map, hj]; rfl)
      rw [Addr.add_lit, Nat.zero_add] at this
      exact this
  rcases hf with ⟨rfl, rfl⟩ | ⟨g, cap, rfl, hc, hg, hcap⟩
  · exact (shj.join_none none 0 _ w).mono fun e w' ⟨h1, h2⟩ => ⟨h1, by rw [h2]; exact Below.refl _ _⟩
  · have ej : Lib.join ((ls.map fun l : Bs => (⟨l.toArray⟩ : ByteArray)).map (·.data.toList)) (⟨#[32]⟩ : ByteArray).data.toList = joined ls := by
      rcases hl with rfl | ⟨a, rfl⟩ | ⟨a, b, rfl⟩
      · rfl
      · simp [Lib.join, joined]
      · simp [Lib.join, joined]
    have := shj.join_some g 0 cap (ls.map fun l : Bs => ⟨l.toArray⟩) ⟨#[32]⟩ w (fun j x hx => by
      rw [List.getElem?_map] at hx
      cases hq : ls[j]? with
      | none => rw [hq] at hx; cases hx
      | some l => rw [hq] at hx; cases hx; rw [Nat.zero_add]; exact hc j l hq) hg (by rcases hl with rfl | ⟨a, rfl⟩ | ⟨a, b, rfl⟩ <;> simp) (by rw [List.length_map]; exact hcap) (by rw [ej]; omega)
    rw [ej, List.length_map] at this
    exact this

theorem joined_say (T : Tm) (h : T.isAtom = false) : 91 :: T.op ++ 32 :: joined (T.kids.map Tm.tx) ++ [93] = T.tx := by
  rw [tx_say T h]
  unfold say
  rcases kids_node T h with ⟨x, e⟩ | ⟨x, y, e⟩
  · rw [e]; simp [joined]
  · rw [e]; simp [joined]

theorem joined_len (T : Tm) (h : T.isAtom = false) : (joined (T.kids.map Tm.tx)).length ≤ T.tx.length := by
  rw [← joined_say T h]
  simp
  omega

theorem kids_three (T : Tm) (h : T.isAtom = false) : (T.kids.map Tm.tx = [] ∨ (∃ a, T.kids.map Tm.tx = [a]) ∨ (∃ a b, T.kids.map Tm.tx = [a, b])) := by
  rcases kids_node T h with ⟨x, e⟩ | ⟨x, y, e⟩
  · rw [e]; exact .inr (.inl ⟨_, rfl⟩)
  · rw [e]; exact .inr (.inr ⟨_, _, rfl⟩)

theorem add_at (a b c : Bs) (h : a ++ b = c) (hl : c.length ≤ 100000000) (w : World) : (Op.stringOp .add ⟨a.toArray⟩ ⟨b.toArray⟩).run Tryz.prog w = .ok (.string ⟨c.toArray⟩) w := by
  have hc := congrArg List.length h
  rw [List.length_append] at hc
  rw [run_string_add_sum w _ _ (by show a.toArray.size + b.toArray.size ≤ _; simp; omega), ← h, ByteArray.mk_append_mk]

theorem op_len (T : Tm) : T.op.length ≤ 4 := by cases T <;> simp [Tm.op, oPair, oHash, oMac, oShut, oPub, oDh]

theorem joined_of (op : Bs) (ls : List Bs) (h : (∃ a, ls = [a]) ∨ (∃ a b, ls = [a, b])) : 91 :: op ++ 32 :: joined ls ++ [93] = say op ls := by
  rcases h with ⟨a, rfl⟩ | ⟨a, b, rfl⟩ <;> simp [joined, say]

set_option maxHeartbeats 1000000 in
set_option maxRecDepth 100000 in
/-- opText, where its args lie in a row that strings.Join takes. -/
theorem opText_of (op : Bs) (v : Value) (ls : List Bs) (w : World) (hc : (∃ a, ls = [a]) ∨ (∃ a b, ls = [a, b])) (hop : op.length ≤ 10000) (hl : (joined ls).length ≤ 1000000)
    (HJ : Calls Tryz.prog 93 #[v, .string ⟨#[32]⟩] w fun e w' => e = .returned (str (joined ls)) ∧ Below w.heap.size w w') :
    Calls Tryz.prog 75 #[str op, v] w fun e w' => e = .returned (str (say op ls)) ∧ Below w.heap.size w w' := by
  have hsay := joined_of op ls hc
  obtain ⟨J, hJ⟩ : ∃ J, J = joined ls := ⟨_, rfl⟩
  obtain ⟨X, hX⟩ : ∃ X, X = say op ls := ⟨_, rfl⟩
  obtain ⟨S1, hS1⟩ : ∃ S, 91 :: op = S := ⟨_, rfl⟩
  obtain ⟨S2, hS2⟩ : ∃ S, S1 ++ [32] = S := ⟨_, rfl⟩
  obtain ⟨S3, hS3⟩ : ∃ S, S2 ++ J = S := ⟨_, rfl⟩
  rw [← hJ] at hsay hl HJ
  rw [← hX] at hsay ⊢
  have l1 : S1.length ≤ 10001 := by rw [← hS1]; simp; omega
  have l2 : S2.length ≤ 10002 := by rw [← hS2]; simp; omega
  have l3 : S3.length ≤ 2000000 := by rw [← hS3]; simp; omega
  have e4 : S3 ++ [93] = X := by rw [← hS3, ← hS2, ← hS1, ← hsay]; simp
  have l4 : X.length ≤ 2000001 := by rw [← e4]; simp; omega
  have f1 := add_at [91] op S1 hS1 (by omega)
  have f2 := add_at S1 [32] S2 hS2 (by omega)
  have f3 := add_at S2 J S3 hS3 (by omega)
  have f4 := add_at S3 [93] X e4 (by omega)
  have HJ2 := Lib.hid HJ
  clear HJ hc hJ hX hS1 hS2 hS3 hsay hop l1 l2 l3 l4 e4 hl
  go_enter Tryz.func75, Tryz.ntmps75
  go_wp2_with fail
  refine HJ2.out.mono ?_
  rintro e w3 ⟨rfl, hb3⟩
  have HB3 := Lib.hid hb3
  clear hb3
  go_wp2_with fail
  go_ret
  exact ⟨rfl, HB3.out⟩

/-- .. in a row of the call's own. -/
theorem opText_own (op : Bs) (B : Nat) (v : Value) (ls : List Bs) (w : World) (h : Strs w B v ls) (hc : (∃ a, ls = [a]) ∨ (∃ a b, ls = [a, b])) (hop : op.length ≤ 10000) (hl : (joined ls).length ≤ 1000000) :
    Calls Tryz.prog 75 #[str op, v] w fun e w' => e = .returned (str (say op ls)) ∧ Below w.heap.size w w' :=
  opText_of op v ls w hc hop hl (join_at w B v ls h (.inr hc) hl)

/-- .. of two texts that lie somewhere. -/
theorem opText_two (op x y : Bs) (g cap : Nat) (w : World) (c0 : w.cell? ⟨g, 0, none⟩ = some (str x)) (c1 : w.cell? ⟨g, 1, none⟩ = some (str y)) (hg : g < w.heap.size) (hcap : 2 ≤ cap) (hop : op.length ≤ 10000) (hx : x.length ≤ 400000) (hy : y.length ≤ 400000) :
    Calls Tryz.prog 75 #[str op, .slice (some ⟨g, 0, none⟩) 2 cap] w fun e w' => e = .returned (str (say op [x, y])) ∧ Below w.heap.size w w' := by
  refine opText_of op _ [x, y] w (.inr ⟨x, y, rfl⟩) hop (by simp [joined]; omega) ?_
  have ej : Lib.join (([x, y].map fun l : Bs => (⟨l.toArray⟩ : ByteArray)).map (·.data.toList)) (⟨#[32]⟩ : ByteArray).data.toList = joined [x, y] := by simp [Lib.join, joined]
  have := shj.join_some g 0 cap ([x, y].map fun l : Bs => ⟨l.toArray⟩) ⟨#[32]⟩ w (fun j z hz => by
    match j, hz with
    | 0, hz => simp at hz; subst hz; exact c0
    | 1, hz => simp at hz; subst hz; exact c1
    | j + 2, hz => simp at hz) hg (by simp) (by simpa using hcap) (by rw [ej]; simp [joined]; omega)
  rw [ej] at this
  exact this

set_option maxHeartbeats 1000000 in
set_option maxRecDepth 100000 in
theorem tx_node (T : Tm) (hn : T.isAtom = false) (hl : T.tx.length ≤ 1000000) (ih : ∀ k ∈ T.kids, TX k) : TX T := by
  intro w
  have h0 := as_atom_no T hn
  have h1 := met_op T
  have h2 := inv_op T
  have h3 := op_calls T
  have h4 := at_node T hn ih
  unfold AT at h4
  have hk2 : (∃ a, T.kids.map Tm.tx = [a]) ∨ (∃ a b, T.kids.map Tm.tx = [a, b]) := by
    rcases kids_node T hn with ⟨x, e⟩ | ⟨x, y, e⟩
    · exact .inl ⟨x.tx, by rw [e]; rfl⟩
    · exact .inr ⟨x.tx, y.tx, by rw [e]; rfl⟩
  have HO := fun w v B h => opText_own T.op B v (T.kids.map Tm.tx) w h hk2 (by have := op_len T; omega) (Nat.le_trans (joined_len T hn) hl)
  rw [← tx_say T hn] at HO
  obtain ⟨O, hO⟩ : ∃ O, O = T.op := ⟨_, rfl⟩
  obtain ⟨X, hX⟩ : ∃ X, X = T.tx := ⟨_, rfl⟩
  simp only [← hO] at h3 HO
  rw [← hX] at HO ⊢
  rw [val_eq] at h0 h4 ⊢
  have HO2 := Lib.hid HO
  clear HO hn ih hO hX hk2 hl
  go_enter Tryz.func64, Tryz.ntmps64
  go_wp2_with fail
  refine (h3 _).mono ?_
  rintro e w1 ⟨rfl, hb⟩
  have HB := Lib.hid hb
  clear hb
  go_wp2_with fail
  refine (h4 _).mono ?_
  rintro e w2 ⟨v, rfl, hb2, hs⟩
  have HB2 := Lib.hid (HB.out.trans (hb2.mono HB.out.size))
  have HS := Lib.hid hs
  clear hb2 hs
  go_wp2_with fail
  refine (HO2.out _ _ _ HS.out).mono ?_
  rintro e w3 ⟨rfl, hb3⟩
  have HB3 := Lib.hid (HB2.out.trans (hb3.mono HB2.out.size))
  clear hb3
  go_wp2_with fail
  go_ret
  exact ⟨rfl, HB3.out⟩

theorem tx_all : ∀ n (T : Tm), T.deep ≤ n → T.tx.length ≤ 1000000 → TX T
  | 0, T, h, _ => by have := deep_pos T; omega
  | n + 1, T, h, hl => by
    rcases isAtom_cases T with hn | ⟨a, rfl⟩
    · refine tx_node T hn hl fun k hk => tx_all n k (by have := kid_deep hk; omega) ?_
      have := joined_len T hn
      have : k.tx.length ≤ (joined (T.kids.map Tm.tx)).length := by
        rcases kids_node T hn with ⟨x, e⟩ | ⟨x, y, e⟩
        · rw [e] at hk ⊢; simp at hk; subst hk; simp [joined]
        · rw [e] at hk ⊢; simp at hk; rcases hk with rfl | rfl <;> simp [joined] <;> omega
      omega
    · exact tx_atom a

theorem textOf_calls (T : Tm) (h : T.tx.length ≤ 1000000) (w : World) : Calls Tryz.prog 64 #[val T] w fun e w' => e = .returned (str T.tx) ∧ Below w.heap.size w w' := tx_all T.deep T (Nat.le_refl _) h w

theorem argTexts_calls (T : Tm) (hn : T.isAtom = false) (h : T.tx.length ≤ 1000000) (w : World) : Calls Tryz.prog 76 #[val T] w fun e w' => ∃ v, e = .returned v ∧ Below w.heap.size w w' ∧ Strs w' w.heap.size v (T.kids.map Tm.tx) := by
  refine at_node T hn (fun k hk => tx_all k.deep k (Nat.le_refl _) ?_) w
  have := joined_len T hn
  have : k.tx.length ≤ (joined (T.kids.map Tm.tx)).length := by
    rcases kids_node T hn with ⟨x, e⟩ | ⟨x, y, e⟩
    · rw [e] at hk ⊢; simp at hk; subst hk; simp [joined]
    · rw [e] at hk ⊢; simp at hk; rcases hk with rfl | rfl <;> simp [joined] <;> omega
  omega
end Go.Proofs.YtdikjmhnjlalbabGreat.txo
