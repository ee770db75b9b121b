/- Contracts of the methods args and op of the seven kinds of terms; how an interface value finds them. -/
import Derived.Test.YtdikjmhnjlalbaaApp
import Derived.Test.YtdikjmhnjlalbaaClo
import Derived.WalkLawsBesides
namespace Go.Proofs.Ytdikjmhnjlalbaa.arg
open Go.RowKit Go.Proofs.Ytdikjmhnjlalbaa.tm Go.Proofs.Ytdikjmhnjlalbaa.lib Go.Proofs.Ytdikjmhnjlalbaa.rdr Go.Proofs.Ytdikjmhnjlalbaa.bld Go.Proofs.Ytdikjmhnjlalbaa.app
set_option linter.unusedVariables false

def ty : Tm → TypeId
  | .atom _ => 131
  | .pair _ _ => 137
  | .hash _ => 139
  | .mac _ _ => 141
  | .shut _ _ => 143
  | .pub _ => 146
  | .dh _ _ => 167

def inner : Tm → Value
  | .atom a => str a
  | .pair l r => .agg #[val l, val r]
  | .hash x => .agg #[val x]
  | .mac k x => .agg #[val k, val x]
  | .shut k x => .agg #[val k, val x]
  | .pub a => .agg #[str a]
  | .dh a b => .agg #[str a, str b]

def argsFn : Tm → FuncId
  | .atom _ => 154
  | .pair _ _ => 156
  | .hash _ => 158
  | .mac _ _ => 160
  | .shut _ _ => 162
  | .pub _ => 164
  | .dh _ _ => 167

def opFn : Tm → FuncId
  | .atom _ => 155
  | .pair _ _ => 157
  | .hash _ => 159
  | .mac _ _ => 161
  | .shut _ _ => 163
  | .pub _ => 165
  | .dh _ _ => 168

theorem val_eq (T : Tm) : val T = .iface (ty T) (inner T) := by cases T <;> rfl

theorem met_args (T : Tm) (w : World) : (method 309 (ty T) (inner T) "loop.example/g00784/impl.args").run Try.prog w = .ok (argsFn T, inner T) w := by
  cases T <;> kernel_rfl
theorem met_op (T : Tm) (w : World) : (method 309 (ty T) (inner T) "loop.example/g00784/impl.op").run Try.prog w = .ok (opFn T, inner T) w := by
  cases T <;> kernel_rfl
theorem inv_args (T : Tm) (w : World) : (callFunc (argsFn T) #[inner T]).run Try.prog w = .ok (.enter (argsFn T) #[inner T]) w := by
  cases T <;> kernel_rfl
theorem inv_op (T : Tm) (w : World) : (callFunc (opFn T) #[inner T]).run Try.prog w = .ok (.enter (opFn T) #[inner T]) w := by
  cases T <;> kernel_rfl

/-- A row just made. -/
theorem tms_new1 (w : World) (g : Nat) (hg : g = w.heap.size) (B : Nat) (hB : B ≤ w.heap.size) (x : Tm) (u : Value) (hu : u = val x) : Tms (w.alloc (.cells #[u] 120)) B (.slice (some ⟨g, 0, none⟩) 1 1) [x] := by
  subst hg
  subst hu
  exact ⟨rfl, .inr ⟨w.heap.size, 1, #[val x], rfl, hB, heap_alloc_new _ _, Nat.le_refl _, by unfold maxLen; omega, rfl, rfl⟩⟩
theorem tms_new2 (w : World) (g : Nat) (hg : g = w.heap.size) (B : Nat) (hB : B ≤ w.heap.size) (x y : Tm) (u v : Value) (hu : u = val x) (hv : v = val y) : Tms (w.alloc (.cells #[u, v] 120)) B (.slice (some ⟨g, 0, none⟩) 2 2) [x, y] := by
  subst hg
  subst hu
  subst hv
  exact ⟨rfl, .inr ⟨w.heap.size, 2, #[val x, val y], rfl, hB, heap_alloc_new _ _, Nat.le_refl _, by unfold maxLen; omega, rfl, rfl⟩⟩

def Kids (w : World) (ks : List Tm) (e : Ending) (w' : World) : Prop := ∃ v, e = .returned v ∧ Below w.heap.size w w' ∧ Tms w' w.heap.size v ks

set_option maxRecDepth 100000 in
theorem args_calls (T : Tm) (w : World) : Calls Try.prog (argsFn T) #[inner T] w (Kids w T.kids) := by
  cases T with
  | atom a =>
    simp only [argsFn, inner, Tm.kids]
    go_enter Try.func154, Try.ntmps154
    go_wp2_with fail
    go_ret
    exact ⟨_, rfl, Below.refl _ _, Tms.nil _ _⟩
  | pair x y =>
    simp only [argsFn, inner, Tm.kids]
    obtain ⟨tx, vx, ex⟩ := val_iface x
    obtain ⟨ty, vy, ey⟩ := val_iface y
    have EX := Lib.hid ex.symm
    have EY := Lib.hid ey.symm
    rw [ex, ey]
    clear ex ey
    go_enter Try.func156, Try.ntmps156
    go_wp2_with fail
    go_ret
    exact ⟨_, rfl, ((Below.refl _ _).alloc (Nat.le_refl _) _).alloc (by simp) _, tms_new2 (w.alloc _) _ (by simp) w.heap.size (by simp) x y _ _ EX.out EY.out⟩
  | hash x =>
    simp only [argsFn, inner, Tm.kids]
    obtain ⟨tx, vx, ex⟩ := val_iface x
    have EX := Lib.hid ex.symm
    rw [ex]
    clear ex
    go_enter Try.func158, Try.ntmps158
    go_wp2_with fail
    go_ret
    exact ⟨_, rfl, ((Below.refl _ _).alloc (Nat.le_refl _) _).alloc (by simp) _, tms_new1 (w.alloc _) _ (by simp) w.heap.size (by simp) x _ EX.out⟩
  | mac x y =>
    simp only [argsFn, inner, Tm.kids]
    obtain ⟨tx, vx, ex⟩ := val_iface x
    obtain ⟨ty, vy, ey⟩ := val_iface y
    have EX := Lib.hid ex.symm
    have EY := Lib.hid ey.symm
    rw [ex, ey]
    clear ex ey
    go_enter Try.func160, Try.ntmps160
    go_wp2_with fail
    go_ret
    exact ⟨_, rfl, ((Below.refl _ _).alloc (Nat.le_refl _) _).alloc (by simp) _, tms_new2 (w.alloc _) _ (by simp) w.heap.size (by simp) x y _ _ EX.out EY.out⟩
  | shut x y =>
    simp only [argsFn, inner, Tm.kids]
    obtain ⟨tx, vx, ex⟩ := val_iface x
    obtain ⟨ty, vy, ey⟩ := val_iface y
    have EX := Lib.hid ex.symm
    have EY := Lib.hid ey.symm
    rw [ex, ey]
    clear ex ey
    go_enter Try.func162, Try.ntmps162
    go_wp2_with fail
    go_ret
    exact ⟨_, rfl, ((Below.refl _ _).alloc (Nat.le_refl _) _).alloc (by simp) _, tms_new2 (w.alloc _) _ (by simp) w.heap.size (by simp) x y _ _ EX.out EY.out⟩
  | pub a =>
    simp only [argsFn, inner, Tm.kids]
    go_enter Try.func164, Try.ntmps164
    go_wp2_with fail
    go_ret
    exact ⟨_, rfl, ((Below.refl _ _).alloc (Nat.le_refl _) _).alloc (by simp) _, tms_new1 (w.alloc _) _ (by simp) w.heap.size (by simp) (.atom a) _ rfl⟩
  | dh a b =>
    simp only [argsFn, inner, Tm.kids]
    go_enter Try.func167, Try.ntmps167
    go_wp2_with fail
    go_ret
    exact ⟨_, rfl, ((Below.refl _ _).alloc (Nat.le_refl _) _).alloc (by simp) _, tms_new2 (w.alloc _) _ (by simp) w.heap.size (by simp) (.atom a) (.atom b) _ _ rfl rfl⟩

set_option maxRecDepth 100000 in
theorem op_calls (T : Tm) (w : World) : Calls Try.prog (opFn T) #[inner T] w fun e w' => e = .returned (str T.op) ∧ Below w.heap.size w w' := by
  cases T with
  | atom a =>
    simp only [opFn, inner, Tm.op]
    go_enter Try.func155, Try.ntmps155
    go_wp2_with fail
    go_ret
    first | exact ⟨rfl, Below.refl _ _⟩ | exact ⟨rfl, (Below.refl _ _).alloc (Nat.le_refl _) _⟩
  | pair x y =>
    simp only [opFn, inner, Tm.op]
    obtain ⟨tx, vx, ex⟩ := val_iface x
    rw [ex]
    clear ex
    obtain ⟨ty, vy, ey⟩ := val_iface y
    rw [ey]
    clear ey
    go_enter Try.func157, Try.ntmps157
    go_wp2_with fail
    go_ret
    first | exact ⟨rfl, Below.refl _ _⟩ | exact ⟨rfl, (Below.refl _ _).alloc (Nat.le_refl _) _⟩
  | hash x =>
    simp only [opFn, inner, Tm.op]
    obtain ⟨tx, vx, ex⟩ := val_iface x
    rw [ex]
    clear ex
    go_enter Try.func159, Try.ntmps159
    go_wp2_with fail
    go_ret
    first | exact ⟨rfl, Below.refl _ _⟩ | exact ⟨rfl, (Below.refl _ _).alloc (Nat.le_refl _) _⟩
  | mac x y =>
    simp only [opFn, inner, Tm.op]
    obtain ⟨tx, vx, ex⟩ := val_iface x
    rw [ex]
    clear ex
    obtain ⟨ty, vy, ey⟩ := val_iface y
    rw [ey]
    clear ey
    go_enter Try.func161, Try.ntmps161
    go_wp2_with fail
    go_ret
    first | exact ⟨rfl, Below.refl _ _⟩ | exact ⟨rfl, (Below.refl _ _).alloc (Nat.le_refl _) _⟩
  | shut x y =>
    simp only [opFn, inner, Tm.op]
    obtain ⟨tx, vx, ex⟩ := val_iface x
    rw [ex]
    clear ex
    obtain ⟨ty, vy, ey⟩ := val_iface y
    rw [ey]
    clear ey
    go_enter Try.func163, Try.ntmps163
    go_wp2_with fail
    go_ret
    first | exact ⟨rfl, Below.refl _ _⟩ | exact ⟨rfl, (Below.refl _ _).alloc (Nat.le_refl _) _⟩
  | pub a =>
    simp only [opFn, inner, Tm.op]
    go_enter Try.func165, Try.ntmps165
    go_wp2_with fail
    go_ret
    first | exact ⟨rfl, Below.refl _ _⟩ | exact ⟨rfl, (Below.refl _ _).alloc (Nat.le_refl _) _⟩
  | dh a b =>
    simp only [opFn, inner, Tm.op]
    go_enter Try.func168, Try.ntmps168
    go_wp2_with fail
    go_ret
    first | exact ⟨rfl, Below.refl _ _⟩ | exact ⟨rfl, (Below.refl _ _).alloc (Nat.le_refl _) _⟩
theorem Tms.one' {w : World} {B : Nat} {v : Value} {x : Tm} (h : Tms w B v [x]) : ∃ g cap, v = .slice (some ⟨g, 0, none⟩) 1 cap ∧ w.cell? ⟨g, 0, none⟩ = some (val x) ∧ g < w.heap.size := by
  obtain ⟨g, cap, e, c⟩ := Tms.one h
  exact ⟨g, cap, e, c, (World.ownsRow.lt h g (by rw [e]; rfl)).2⟩
theorem Tms.two' {w : World} {B : Nat} {v : Value} {x y : Tm} (h : Tms w B v [x, y]) : ∃ g cap, v = .slice (some ⟨g, 0, none⟩) 2 cap ∧ w.cell? ⟨g, 0, none⟩ = some (val x) ∧ w.cell? ⟨g, 1, none⟩ = some (val y) ∧ g < w.heap.size := by
  obtain ⟨g, cap, e, c, c'⟩ := Tms.two h
  exact ⟨g, cap, e, c, c', (World.ownsRow.lt h g (by rw [e]; rfl)).2⟩

end Go.Proofs.Ytdikjmhnjlalbaa.arg
