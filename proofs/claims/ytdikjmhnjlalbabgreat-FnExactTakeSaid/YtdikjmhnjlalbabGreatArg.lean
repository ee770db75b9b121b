/- Contracts of the methods args and op of the seven kinds of terms; how an interface value finds them. -/
import Derived.Test.YtdikjmhnjlalbabGreatApp
import Derived.Test.YtdikjmhnjlalbabGreatClo
import Derived.WalkLawsBesides
namespace Go.Proofs.YtdikjmhnjlalbabGreat.arg
open Go.RowKit Go.Proofs.YtdikjmhnjlalbabGreat.tm Go.Proofs.YtdikjmhnjlalbabGreat.lib Go.Proofs.YtdikjmhnjlalbabGreat.rdr Go.Proofs.YtdikjmhnjlalbabGreat.bld Go.Proofs.YtdikjmhnjlalbabGreat.app
set_option linter.unusedVariables false

def ty : Tm → TypeId
  | .atom _ => 87
  | .pair _ _ => 143
  | .hash _ => 145
  | .mac _ _ => 147
  | .shut _ _ => 149
  | .pub _ => 89
  | .dh _ _ => 154

def inner : Tm → Value
  | .atom a => str a
  | .pair l r => .agg #[val l, val r]
  | .hash x => .agg #[val x]
  | .mac k x => .agg #[val k, val x]
  | .shut k x => .agg #[val k, val x]
  | .pub a => .agg #[str a]
  | .dh a b => .agg #[str a, str b]

def argsFn : Tm → FuncId
  | .atom _ => 135
  | .pair _ _ => 141
  | .hash _ => 143
  | .mac _ _ => 145
  | .shut _ _ => 147
  | .pub _ => 137
  | .dh _ _ => 149

def opFn : Tm → FuncId
  | .atom _ => 136
  | .pair _ _ => 142
  | .hash _ => 144
  | .mac _ _ => 146
  | .shut _ _ => 148
  | .pub _ => 138
  | .dh _ _ => 150

theorem val_eq (T : Tm) : val T = .iface (ty T) (inner T) := by cases T <;> rfl

theorem met_args (T : Tm) (w : World) : (method 272 (ty T) (inner T) "loop.example/g00784/impl.args").run Tryz.prog w = .ok (argsFn T, inner T) w := by
  cases T <;> kernel_rfl
theorem met_op (T : Tm) (w : World) : (method 272 (ty T) (inner T) "loop.example/g00784/impl.op").run Tryz.prog w = .ok (opFn T, inner T) w := by
  cases T <;> kernel_rfl
theorem inv_args (T : Tm) (w : World) : (callFunc (argsFn T) #[inner T]).run Tryz.prog w = .ok (.enter (argsFn T) #[inner T]) w := by
  cases T <;> kernel_rfl
theorem inv_op (T : Tm) (w : World) : (callFunc (opFn T) #[inner T]).run Tryz.prog w = .ok (.enter (opFn T) #[inner T]) w := by
  cases T <;> kernel_rfl

/-- A row just made. -/
theorem tms_new1 (w : World) (g : Nat) (hg : g = w.heap.size) (B : Nat) (hB : B ≤ w.heap.size) (x : Tm) (u : Value) (hu : u = val x) : Tms (w.alloc (.cells #[u] 58)) B (.slice (some ⟨g, 0, none⟩) 1 1) [x] := by
  subst hg
  subst hu
  exact ⟨rfl, .inr ⟨w.heap.size, 1, #[val x], rfl, hB, heap_alloc_new _ _, Nat.le_refl _, by unfold maxLen; omega, rfl, rfl⟩⟩
theorem tms_new2 (w : World) (g : Nat) (hg : g = w.heap.size) (B : Nat) (hB : B ≤ w.heap.size) (x y : Tm) (u v : Value) (hu : u = val x) (hv : v = val y) : Tms (w.alloc (.cells #[u, v] 58)) B (.slice (some ⟨g, 0, none⟩) 2 2) [x, y] := by
  subst hg
  subst hu
  subst hv
  exact ⟨rfl, .inr ⟨w.heap.size, 2, #[val x, val y], rfl, hB, heap_alloc_new _ _, Nat.le_refl _, by unfold maxLen; omega, rfl, rfl⟩⟩

def Kids (w : World) (ks : List Tm) (e : Ending) (w' : World) : Prop := ∃ v, e = .returned v ∧ Below w.heap.size w w' ∧ Tms w' w.heap.size v ks

set_option maxRecDepth 100000 in
theorem args_calls (T : Tm) (w : World) : Calls Tryz.prog (argsFn T) #[inner T] w (Kids w T.kids) := by
  cases T with
  | atom a =>
    simp only [argsFn, inner, Tm.kids]
    go_enter Tryz.func135, Tryz.ntmps135
    go_wp2_with fail
    go_ret
    exact ⟨_, rfl, Below.refl _ _, Tms.nil _ _⟩
  | pair x y =>
    simp only [argsFn, inner, Tm.kids]
    obtain ⟨tx, vx, ex⟩ := val_iface x
    obtain ⟨ty, vy, ey⟩ := val_iface y
    have EX := Lib.hid ex.symm
    have EY := Lib.hid ey.symm
    rw [ex, ey]
    clear ex ey
    go_enter Tryz.func141, Tryz.ntmps141
    go_wp2_with fail
    go_ret
    exact ⟨_, rfl, ((Below.refl _ _).alloc (Nat.le_refl _) _).alloc (by simp) _, tms_new2 (w.alloc _) _ (by simp) w.heap.size (by simp) x y _ _ EX.out EY.out⟩
  | hash x =>
    simp only [argsFn, inner, Tm.kids]
    obtain ⟨tx, vx, ex⟩ := val_iface x
    have EX := Lib.hid ex.symm
    rw [ex]
    clear ex
    go_enter Tryz.func143, Tryz.ntmps143
    go_wp2_with fail
    go_ret
    exact ⟨_, rfl, ((Below.refl _ _).alloc (Nat.le_refl _) _).alloc (by simp) _, tms_new1 (w.alloc _) _ (by simp) w.heap.size (by simp) x _ EX.out⟩
  | mac x y =>
    simp only [argsFn, inner, Tm.kids]
    obtain ⟨tx, vx, ex⟩ := val_iface x
    obtain ⟨ty, vy, ey⟩ := val_iface y
    have EX := Lib.hid ex.symm
    have EY := Lib.hid ey.symm
    rw [ex, ey]
    clear ex ey
    go_enter Tryz.func145, Tryz.ntmps145
    go_wp2_with fail
    go_ret
    exact ⟨_, rfl, ((Below.refl _ _).alloc (Nat.le_refl _) _).alloc (by simp) _, tms_new2 (w.alloc _) _ (by simp) w.heap.size (by simp) x y _ _ EX.out EY.out⟩
  | shut x y =>
    simp only [argsFn, inner, Tm.kids]
    obtain ⟨tx, vx, ex⟩ := val_iface x
    obtain ⟨ty, vy, ey⟩ := val_iface y
    have EX := Lib.hid ex.symm
    have EY := Lib.hid ey.symm
    rw [ex, ey]
    clear ex ey
    go_enter Tryz.func147, Tryz.ntmps147
    go_wp2_with fail
    go_ret
    exact ⟨_, rfl, ((Below.refl _ _).alloc (Nat.le_refl _) _).alloc (by simp) _, tms_new2 (w.alloc _) _ (by simp) w.heap.size (by simp) x y _ _ EX.out EY.out⟩
  | pub a =>
    simp only [argsFn, inner, Tm.kids]
    go_enter Tryz.func137, Tryz.ntmps137
    go_wp2_with fail
    go_ret
    exact ⟨_, rfl, ((Below.refl _ _).alloc (Nat.le_refl _) _).alloc (by simp) _, tms_new1 (w.alloc _) _ (by simp) w.heap.size (by simp) (.atom a) _ rfl⟩
  | dh a b =>
    simp only [argsFn, inner, Tm.kids]
    go_enter Tryz.func149, Tryz.ntmps149
    go_wp2_with fail
    go_ret
    exact ⟨_, rfl, ((Below.refl _ _).alloc (Nat.le_refl _) _).alloc (by simp) _, tms_new2 (w.alloc _) _ (by simp) w.heap.size (by simp) (.atom a) (.atom b) _ _ rfl rfl⟩

set_option maxRecDepth 100000 in
theorem op_calls (T : Tm) (w : World) : Calls Tryz.prog (opFn T) #[inner T] w fun e w' => e = .returned (str T.op) ∧ Below w.heap.size w w' := by
  cases T with
  | atom a =>
    simp only [opFn, inner, Tm.op]
    go_enter Tryz.func136, Tryz.ntmps136
    go_wp2_with fail
    go_ret
    first | exact ⟨rfl, Below.refl _ _⟩ | exact ⟨rfl, (Below.refl _ _).alloc (Nat.le_refl _) _⟩
  | pair x y =>
    simp only [opFn, inner, Tm.op]
    obtain ⟨tx, vx, ex⟩ := val_iface x
    rw [ex]
    clear ex
    obtain ⟨ty, vy, ey⟩ := val_iface y
    rw [ey]
    clear ey
    go_enter Tryz.func142, Tryz.ntmps142
    go_wp2_with fail
    go_ret
    first | exact ⟨rfl, Below.refl _ _⟩ | exact ⟨rfl, (Below.refl _ _).alloc (Nat.le_refl _) _⟩
  | hash x =>
    simp only [opFn, inner, Tm.op]
    obtain ⟨tx, vx, ex⟩ := val_iface x
    rw [ex]
    clear ex
    go_enter Tryz.func144, Tryz.ntmps144
    go_wp2_with fail
    go_ret
    first | exact ⟨rfl, Below.refl _ _⟩ | exact ⟨rfl, (Below.refl _ _).alloc (Nat.le_refl _) _⟩
  | mac x y =>
    simp only [opFn, inner, Tm.op]
    obtain ⟨tx, vx, ex⟩ := val_iface x
    rw [ex]
    clear ex
    obtain ⟨ty, vy, ey⟩ := val_iface y
    rw [ey]
    clear ey
    go_enter Tryz.func146, Tryz.ntmps146
    go_wp2_with fail
    go_ret
    first | exact ⟨rfl, Below.refl _ _⟩ | exact ⟨rfl, (Below.refl _ _).alloc (Nat.le_refl _) _⟩
  | shut x y =>
    simp only [opFn, inner, Tm.op]
    obtain ⟨tx, vx, ex⟩ := val_iface x
    rw [ex]
    clear ex
    obtain ⟨ty, vy, ey⟩ := val_iface y
    rw [ey]
    clear ey
    go_enter Tryz.func148, Tryz.ntmps148
    go_wp2_with fail
    go_ret
    first | exact ⟨rfl, Below.refl _ _⟩ | exact ⟨rfl, (Below.refl _ _).alloc (Nat.le_refl _) _⟩
  | pub a =>
    simp only [opFn, inner, Tm.op]
    go_enter Tryz.func138, Tryz.ntmps138
    go_wp2_with fail
    go_ret
    first | exact ⟨rfl, Below.refl _ _⟩ | exact ⟨rfl, (Below.refl _ _).alloc (Nat.le_refl _) _⟩
  | dh a b =>
    simp only [opFn, inner, Tm.op]
    go_enter Tryz.func150, Tryz.ntmps150
    go_wp2_with fail
    go_ret
    first | exact ⟨rfl, Below.refl _ _⟩ | exact ⟨rfl, (Below.refl _ _).alloc (Nat.le_refl _) _⟩
theorem Tms.one' {w : World} {B : Nat} {v : Value} {x : Tm} (h : Tms w B v [x]) : ∃ g cap, v = .slice (some ⟨g, 0, none⟩) 1 cap ∧ w.cell? ⟨g, 0, none⟩ = some (val x) ∧ g < w.heap.size := by
  obtain ⟨g, cap, e, c⟩ := Tms.one h
  exact ⟨g, cap, e, c, (World.ownsRow.lt h g (by rw [e]; rfl)).2⟩
theorem Tms.two' {w : World} {B : Nat} {v : Value} {x y : Tm} (h : Tms w B v [x, y]) : ∃ g cap, v = .slice (some ⟨g, 0, none⟩) 2 cap ∧ w.cell? ⟨g, 0, none⟩ = some (val x) ∧ w.cell? ⟨g, 1, none⟩ = some (val y) ∧ g < w.heap.size := by
  obtain ⟨g, cap, e, c, c'⟩ := Tms.two h
  exact ⟨g, cap, e, c, c', (World.ownsRow.lt h g (by rw [e]; rfl)).2⟩

end Go.Proofs.YtdikjmhnjlalbabGreat.arg
