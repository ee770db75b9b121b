/- Contracts of the methods args and op of the seven kinds of terms; how an interface value finds them. -/
import Derived.Test.YtonjohlecomeoaaApp
import Derived.Test.YtonjohlecomeoaaClo
import Derived.WalkLawsBesides
namespace Go.Proofs.Ytonjohlecomeoaa.arg
open Go.RowKit Go.Proofs.Ytonjohlecomeoaa.tm Go.Proofs.Ytonjohlecomeoaa.lib Go.Proofs.Ytonjohlecomeoaa.rdr Go.Proofs.Ytonjohlecomeoaa.bld Go.Proofs.Ytonjohlecomeoaa.app
set_option linter.unusedVariables false

def ty : Tm → TypeId
  | .atom _ => 99
  | .pair _ _ => 105
  | .hash _ => 107
  | .mac _ _ => 109
  | .shut _ _ => 111
  | .pub _ => 114
  | .dh _ _ => 126

def inner : Tm → Value
  | .atom a => str a
  | .pair l r => .agg #[val l, val r]
  | .hash x => .agg #[val x]
  | .mac k x => .agg #[val k, val x]
  | .shut k x => .agg #[val k, val x]
  | .pub a => .agg #[str a]
  | .dh a b => .agg #[str a, str b]

def argsFn : Tm → FuncId
  | .atom _ => 130
  | .pair _ _ => 132
  | .hash _ => 134
  | .mac _ _ => 136
  | .shut _ _ => 138
  | .pub _ => 140
  | .dh _ _ => 143

def opFn : Tm → FuncId
  | .atom _ => 131
  | .pair _ _ => 133
  | .hash _ => 135
  | .mac _ _ => 137
  | .shut _ _ => 139
  | .pub _ => 141
  | .dh _ _ => 144

theorem val_eq (T : Tm) : val T = .iface (ty T) (inner T) := by cases T <;> rfl

theorem met_args (T : Tm) (w : World) : (method 279 (ty T) (inner T) "loop.example/g00784/impl.args").run Try.prog w = .ok (argsFn T, inner T) w := by
  cases T <;> kernel_rfl
theorem met_op (T : Tm) (w : World) : (method 279 (ty T) (inner T) "loop.example/g00784/impl.op").run Try.prog w = .ok (opFn T, inner T) w := by
  cases T <;> kernel_rfl
theorem inv_args (T : Tm) (w : World) : (callFunc (argsFn T) #[inner T]).run Try.prog w = .ok (.enter (argsFn T) #[inner T]) w := by
  cases T <;> kernel_rfl
theorem inv_op (T : Tm) (w : World) : (callFunc (opFn T) #[inner T]).run Try.prog w = .ok (.enter (opFn T) #[inner T]) w := by
  cases T <;> kernel_rfl

/-- A row just made. -/
theorem tms_new1 (w : World) (g : Nat) (hg : g = w.heap.size) (B : Nat) (hB : B ≤ w.heap.size) (x : Tm) (u : Value) (hu : u = val x) : Tms (w.alloc (.cells #[u] 89)) B (.slice (some ⟨g, 0, none⟩) 1 1) [x] := by
  subst hg
  subst hu
  exact ⟨rfl, .inr ⟨w.heap.size, 1, #[val x], rfl, hB, heap_alloc_new _ _, Nat.le_refl _, by unfold maxLen; omega, rfl, rfl⟩⟩
theorem tms_new2 (w : World) (g : Nat) (hg : g = w.heap.size) (B : Nat) (hB : B ≤ w.heap.size) (x y : Tm) (u v : Value) (hu : u = val x) (hv : v = val y) : Tms (w.alloc (.cells #[u, v] 89)) B (.slice (some ⟨g, 0, none⟩) 2 2) [x, y] := by
  subst hg
  subst hu
  subst hv
  exact ⟨rfl, .inr ⟨w.heap.size, 2, #[val x, val y], rfl, hB, heap_alloc_new _ _, Nat.le_refl _, by unfold maxLen; omega, rfl, rfl⟩⟩

def Kids (w : World) (ks : List Tm) (e : Ending) (w' : World) : Prop := ∃ v, e = .returned v ∧ Below w.heap.size w w' ∧ Tms w' w.heap.size v ks

set_option maxRecDepth 100000 in
theorem args_calls (T : Tm) (w : World) : Calls Try.prog (argsFn T) #[inner T] w (Kids w T.kids) := by
  cases T with
  | atom a =>
    simp only [argsFn, inner, Tm.kids]
    go_enter Try.func130, Try.ntmps130
    go_wp2_with fail
    go_ret
    exact ⟨_, rfl, Below.refl _ _, Tms.nil _ _⟩
  | pair x y =>
    simp only [argsFn, inner, Tm.kids]
    obtain ⟨tx, vx, ex⟩ := val_iface x
    obtain ⟨ty, vy, ey⟩ := val_iface y
    have EX := Lib.hid ex.symm
    have EY := Lib.hid ey.symm
    rw [ex, ey]
    clear ex ey
    go_enter Try.func132, Try.ntmps132
    go_wp2_with fail
    go_ret
    exact ⟨_, rfl, ((Below.refl _ _).alloc (Nat.le_refl _) _).alloc (by simp) _, tms_new2 (w.alloc _) _ (by simp) w.heap.size (by simp) x y _ _ EX.out EY.out⟩
  | hash x =>
    simp only [argsFn, inner, Tm.kids]
    obtain ⟨tx, vx, ex⟩ := val_iface x
    have EX := Lib.hid ex.symm
    rw [ex]
    clear ex
    go_enter Try.func134, Try.ntmps134
    go_wp2_with fail
    go_ret
    exact ⟨_, rfl, ((Below.refl _ _).alloc (Nat.le_refl _) _).alloc (by simp) _, tms_new1 (w.alloc _) _ (by simp) w.heap.size (by simp) x _ EX.out⟩
  | mac x y =>
    simp only [argsFn, inner, Tm.kids]
    obtain ⟨tx, vx, ex⟩ := val_iface x
    obtain ⟨ty, vy, ey⟩ := val_iface y
    have EX := Lib.hid ex.symm
    have EY := Lib.hid ey.symm
    rw [ex, ey]
    clear ex ey
    go_enter Try.func136, Try.ntmps136
    go_wp2_with fail
    go_ret
    exact ⟨_, rfl, ((Below.refl _ _).alloc (Nat.le_refl _) _).alloc (by simp) _, tms_new2 (w.alloc _) _ (by simp) w.heap.size (by simp) x y _ _ EX.out EY.out⟩
  | shut x y =>
    simp only [argsFn, inner, Tm.kids]
    obtain ⟨tx, vx, ex⟩ := val_iface x
    obtain ⟨ty, vy, ey⟩ := val_iface y
    have EX := Lib.hid ex.symm
    have EY := Lib.hid ey.symm
    rw [ex, ey]
    clear ex ey
    go_enter Try.func138, Try.ntmps138
    go_wp2_with fail
    go_ret
    exact ⟨_, rfl, ((Below.refl _ _).alloc (Nat.le_refl _) _).alloc (by simp) _, tms_new2 (w.alloc _) _ (by simp) w.heap.size (by simp) x y _ _ EX.out EY.out⟩
  | pub a =>
    simp only [argsFn, inner, Tm.kids]
    go_enter Try.func140, Try.ntmps140
    go_wp2_with fail
    go_ret
    exact ⟨_, rfl, ((Below.refl _ _).alloc (Nat.le_refl _) _).alloc (by simp) _, tms_new1 (w.alloc _) _ (by simp) w.heap.size (by simp) (.atom a) _ rfl⟩
  | dh a b =>
    simp only [argsFn, inner, Tm.kids]
    go_enter Try.func143, Try.ntmps143
    go_wp2_with fail
    go_ret
    exact ⟨_, rfl, ((Below.refl _ _).alloc (Nat.le_refl _) _).alloc (by simp) _, tms_new2 (w.alloc _) _ (by simp) w.heap.size (by simp) (.atom a) (.atom b) _ _ rfl rfl⟩

set_option maxRecDepth 100000 in
theorem op_calls (T : Tm) (w : World) : Calls Try.prog (opFn T) #[inner T] w fun e w' => e = .returned (str T.op) ∧ Below w.heap.size w w' := by
  cases T with
  | atom a =>
    simp only [opFn, inner, Tm.op]
    go_enter Try.func131, Try.ntmps131
    go_wp2_with fail
    go_ret
    first | exact ⟨rfl, Below.refl _ _⟩ | exact ⟨rfl, (Below.refl _ _).alloc (Nat.le_refl _) _⟩
  | pair x y =>
    simp only [opFn, inner, Tm.op]
    obtain ⟨tx, vx, ex⟩ := val_iface x
    rw [ex]
    clear ex
    obtain ⟨ty, vy, ey⟩ := val_iface y
    rw [ey]
    clear ey
    go_enter Try.func133, Try.ntmps133
    go_wp2_with fail
    go_ret
    first | exact ⟨rfl, Below.refl _ _⟩ | exact ⟨rfl, (Below.refl _ _).alloc (Nat.le_refl _) _⟩
  | hash x =>
    simp only [opFn, inner, Tm.op]
    obtain ⟨tx, vx, ex⟩ := val_iface x
    rw [ex]
    clear ex
    go_enter Try.func135, Try.ntmps135
    go_wp2_with fail
    go_ret
    first | exact ⟨rfl, Below.refl _ _⟩ | exact ⟨rfl, (Below.refl _ _).alloc (Nat.le_refl _) _⟩
  | mac x y =>
    simp only [opFn, inner, Tm.op]
    obtain ⟨tx, vx, ex⟩ := val_iface x
    rw [ex]
    clear ex
    obtain ⟨ty, vy, ey⟩ := val_iface y
    rw [ey]
    clear ey
    go_enter Try.func137, Try.ntmps137
    go_wp2_with fail
    go_ret
    first | exact ⟨rfl, Below.refl _ _⟩ | exact ⟨rfl, (Below.refl _ _).alloc (Nat.le_refl _) _⟩
  | shut x y =>
    simp only [opFn, inner, Tm.op]
    obtain ⟨tx, vx, ex⟩ := val_iface x
    rw [ex]
    clear ex
    obtain ⟨ty, vy, ey⟩ := val_iface y
    rw [ey]
    clear ey
    go_enter Try.func139, Try.ntmps139
    go_wp2_with fail
    go_ret
    first | exact ⟨rfl, Below.refl _ _⟩ | exact ⟨rfl, (Below.refl _ _).alloc (Nat.le_refl _) _⟩
  | pub a =>
    simp only [opFn, inner, Tm.op]
    go_enter Try.func141, Try.ntmps141
    go_wp2_with fail
    go_ret
    first | exact ⟨rfl, Below.refl _ _⟩ | exact ⟨rfl, (Below.refl _ _).alloc (Nat.le_refl _) _⟩
  | dh a b =>
    simp only [opFn, inner, Tm.op]
    go_enter Try.func144, Try.ntmps144
    go_wp2_with fail
    go_ret
    first | exact ⟨rfl, Below.refl _ _⟩ | exact ⟨rfl, (Below.refl _ _).alloc (Nat.le_refl _) _⟩
theorem Tms.one' {w : World} {B : Nat} {v : Value} {x : Tm} (h : Tms w B v [x]) : ∃ g cap, v = .slice (some ⟨g, 0, none⟩) 1 cap ∧ w.cell? ⟨g, 0, none⟩ = some (val x) ∧ g < w.heap.size := by
  obtain ⟨g, cap, e, c⟩ := Tms.one h
  exact ⟨g, cap, e, c, (World.ownsRow.lt h g (by rw [e]; rfl)).2⟩
theorem Tms.two' {w : World} {B : Nat} {v : Value} {x y : Tm} (h : Tms w B v [x, y]) : ∃ g cap, v = .slice (some ⟨g, 0, none⟩) 2 cap ∧ w.cell? ⟨g, 0, none⟩ = some (val x) ∧ w.cell? ⟨g, 1, none⟩ = some (val y) ∧ g < w.heap.size := by
  obtain ⟨g, cap, e, c, c'⟩ := Tms.two h
  exact ⟨g, cap, e, c, c', (World.ownsRow.lt h g (by rw [e]; rfl)).2⟩

end Go.Proofs.Ytonjohlecomeoaa.arg
