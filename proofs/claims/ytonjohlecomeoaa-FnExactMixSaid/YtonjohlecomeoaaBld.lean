/- Terms as values of the program; what build of the program makes of an op and its args. -/
import Derived.Test.YtonjohlecomeoaaRdr
import Derived.Test.YtonjohlecomeoaaSt0
import Derived.Deep.RegionWith
namespace Go.Proofs.Ytonjohlecomeoaa.bld
open Go.RowKit Go.Proofs.Ytonjohlecomeoaa.tm Go.Proofs.Ytonjohlecomeoaa.lib Go.Proofs.Ytonjohlecomeoaa.rdr
set_option linter.unusedVariables false


def val : Tm → Value
  | .atom a => .iface 99 (str a)
  | .pair l r => .iface 105 (.agg #[val l, val r])
  | .hash x => .iface 107 (.agg #[val x])
  | .mac k x => .iface 109 (.agg #[val k, val x])
  | .shut k x => .iface 111 (.agg #[val k, val x])
  | .pub a => .iface 114 (.agg #[str a])
  | .dh a b => .iface 126 (.agg #[str a, str b])

/-- A slice of terms that the call itself made. -/
def Tms (w : World) (B : Nat) (v : Value) (ts : List Tm) : Prop := w.ownsRow B 89 1 v ts.length (ts.map val)


theorem Tms.form {w : World} {B : Nat} {v : Value} {ts : List Tm} (h : Tms w B v ts) :
    (v = .slice none 0 0 ∧ ts = []) ∨ ∃ g cap, v = .slice (some ⟨g, 0, none⟩) ts.length cap ∧ ∀ j T, ts[j]? = some T → w.cell? ⟨g, j, none⟩ = some (val T) := by
  have h' := h
  obtain ⟨hl, h⟩ := h
  rcases h with ⟨rfl, h⟩ | ⟨g, cap, cur, rfl, hg, hh, hc1, hc2, hc3, hc4⟩
  · exact .inl ⟨rfl, List.eq_nil_of_length_eq_zero h⟩
  · refine .inr ⟨g, cap, rfl, fun j T hj => ?_⟩
    have := World.ownsRow.cells h' (g := g) rfl j (val T) (by rw [List.getElem?_map, hj]; rfl)
    rw [Addr.add_lit, Nat.zero_add] at this
    exact this

theorem Tms.one {w : World} {B : Nat} {v : Value} {x : Tm} (h : Tms w B v [x]) : ∃ g cap, v = .slice (some ⟨g, 0, none⟩) 1 cap ∧ w.cell? ⟨g, 0, none⟩ = some (val x) := by
  rcases h.form with ⟨_, h⟩ | ⟨g, cap, e, h⟩
  · cases h
  · exact ⟨g, cap, e, h 0 x rfl⟩
theorem Tms.two {w : World} {B : Nat} {v : Value} {x y : Tm} (h : Tms w B v [x, y]) : ∃ g cap, v = .slice (some ⟨g, 0, none⟩) 2 cap ∧ w.cell? ⟨g, 0, none⟩ = some (val x) ∧ w.cell? ⟨g, 1, none⟩ = some (val y) := by
  rcases h.form with ⟨_, h⟩ | ⟨g, cap, e, h⟩
  · cases h
  · exact ⟨g, cap, e, h 0 x rfl, h 1 y rfl⟩

theorem as_atom (a : Bs) (w : World) : (Instr.typeAssert (val (.atom a)) 89 99 true).run Try.prog w = .ok (.tuple #[str a, .bool true]) w := by kernel_rfl
theorem as_atom_no (T : Tm) (h : T.isAtom = false) (w : World) : (Instr.typeAssert (val T) 89 99 true).run Try.prog w = .ok (.tuple #[.string ⟨#[]⟩, .bool false]) w := by
  cases T <;> first | (simp [Tm.isAtom] at h; done) | kernel_rfl

set_option maxRecDepth 100000 in
theorem secret_atom (a : Bs) (w : World) : Calls Try.prog 75 #[val (.atom a)] w fun e w' => e = .returned (str a) ∧ w = w' := by
  have h1 := as_atom a
  go_enter Try.func75, Try.ntmps75
  go_wp2
  go_ret
  exact ⟨rfl, rfl⟩

set_option maxRecDepth 100000 in
theorem secret_no (T : Tm) (h : T.isAtom = false) (w : World) : Calls Try.prog 75 #[val T] w fun e w' => e = fault 1 ∧ w = w' := by
  have h1 := as_atom_no T h
  clear h
  go_enter Try.func75, Try.ntmps75
  go_wp2_with (go_at_call 74; refine (refuse_calls _ _).mono ?_; rintro e w' ⟨rfl, rfl⟩)
  exact ⟨rfl, rfl, rfl⟩

theorem gt_false {a b : Bs} (h : gt a b = false) : Op.bytesLess a b = true ∨ (Op.bytesLess a b = false ∧ (a == b) = true) := by
  unfold gt at h
  cases h1 : Op.bytesLess a b
  · right; rw [h1] at h; simpa using h
  · left; rfl
theorem gt_true {a b : Bs} (h : gt a b = true) : Op.bytesLess a b = false ∧ (a == b) = false := by
  unfold gt at h
  cases h1 : Op.bytesLess a b
  · rw [h1] at h; simpa using h
  · rw [h1] at h; simp at h

set_option maxRecDepth 100000 in
theorem shared_yes (a b : Bs) (h : gt a b = false) (w : World) : Calls Try.prog 76 #[str a, str b] w fun e w' => e = .returned (val (.dh a b)) ∧ w = w' := by
  simp only [val]
  unfold str
  rcases gt_false h with h1 | ⟨h1, h2⟩
  all_goals
    clear h
    go_enter Try.func76, Try.ntmps76
    go_wp2_with fail
    go_ret
    exact ⟨rfl, rfl⟩

set_option maxRecDepth 100000 in
theorem shared_no (a b : Bs) (h : gt a b = true) (w : World) : Calls Try.prog 76 #[str a, str b] w fun e w' => e = fault 1 ∧ w = w' := by
  unfold str
  obtain ⟨h1, h2⟩ := gt_true h
  clear h
  go_enter Try.func76, Try.ntmps76
  go_wp2_with (go_at_call 74; refine (refuse_calls _ _).mono ?_; rintro e w' ⟨rfl, rfl⟩)
  exact ⟨rfl, rfl, rfl⟩

theorem val_iface (T : Tm) : ∃ t v, val T = .iface t v := by cases T <;> exact ⟨_, _, rfl⟩

set_option maxRecDepth 100000 in
theorem build_pair (x y : Tm) (w : World) (B : Nat) (v : Value) (hv : Tms w B v [x, y]) :
    Calls Try.prog 62 #[str oPair, v] w fun e w' => e = .returned (val (.pair x y)) ∧ Still w w' := by
  obtain ⟨g, cap, rfl, c0, c1⟩ := hv.two
  clear hv
  simp only [val]
  obtain ⟨tx, vx, ex⟩ := val_iface x
  obtain ⟨ty, vy, ey⟩ := val_iface y
  rw [ex, ey]
  rw [ex] at c0
  rw [ey] at c1
  clear ex ey
  unfold str oPair
  go_enter Try.func62, Try.ntmps62
  go_wp2_with fail
  go_quiet (fail)
  go_wp2
  go_ret
  exact ⟨rfl, Still.drewN _ _⟩

set_option maxRecDepth 100000 in
theorem build_hash (x : Tm) (w : World) (B : Nat) (v : Value) (hv : Tms w B v [x]) :
    Calls Try.prog 62 #[str oHash, v] w fun e w' => e = .returned (val (.hash x)) ∧ Still w w' := by
  obtain ⟨g, cap, rfl, c0⟩ := hv.one
  clear hv
  simp only [val]
  obtain ⟨tx, vx, ex⟩ := val_iface x
  rw [ex]
  rw [ex] at c0
  clear ex
  unfold str oHash
  go_enter Try.func62, Try.ntmps62
  go_wp2_with fail
  go_ret
  exact ⟨rfl, Still.refl _⟩

set_option maxRecDepth 100000 in
theorem build_mac (x y : Tm) (w : World) (B : Nat) (v : Value) (hv : Tms w B v [x, y]) :
    Calls Try.prog 62 #[str oMac, v] w fun e w' => e = .returned (val (.mac x y)) ∧ Still w w' := by
  obtain ⟨g, cap, rfl, c0, c1⟩ := hv.two
  clear hv
  simp only [val]
  obtain ⟨tx, vx, ex⟩ := val_iface x
  obtain ⟨ty, vy, ey⟩ := val_iface y
  rw [ex, ey]
  rw [ex] at c0
  rw [ey] at c1
  clear ex ey
  unfold str oMac
  go_enter Try.func62, Try.ntmps62
  go_wp2_with fail
  go_quiet (fail)
  go_wp2
  go_ret
  exact ⟨rfl, Still.drewN _ _⟩

set_option maxRecDepth 100000 in
theorem build_shut (x y : Tm) (w : World) (B : Nat) (v : Value) (hv : Tms w B v [x, y]) :
    Calls Try.prog 62 #[str oShut, v] w fun e w' => e = .returned (val (.shut x y)) ∧ Still w w' := by
  obtain ⟨g, cap, rfl, c0, c1⟩ := hv.two
  clear hv
  simp only [val]
  obtain ⟨tx, vx, ex⟩ := val_iface x
  obtain ⟨ty, vy, ey⟩ := val_iface y
  rw [ex, ey]
  rw [ex] at c0
  rw [ey] at c1
  clear ex ey
  unfold str oShut
  go_enter Try.func62, Try.ntmps62
  go_wp2_with fail
  go_quiet (fail)
  go_wp2
  go_ret
  exact ⟨rfl, Still.drewN _ _⟩

set_option maxRecDepth 100000 in
theorem build_pub (a : Bs) (w : World) (B : Nat) (v : Value) (hv : Tms w B v [.atom a]) :
    Calls Try.prog 62 #[str oPub, v] w fun e w' => e = .returned (val (.pub a)) ∧ Still w w' := by
  obtain ⟨g, cap, rfl, c0⟩ := hv.one
  clear hv
  unfold oPub
  have e0 : str [112, 117, 98] = .string ⟨#[112, 117, 98]⟩ := rfl
  rw [e0]
  clear e0
  go_enter Try.func62, Try.ntmps62
  go_wp2_with (go_at_call 75; refine (secret_atom _ _).mono ?_; rintro e w' ⟨rfl, rfl⟩)
  go_ret
  exact ⟨rfl, Still.refl _⟩

set_option maxRecDepth 100000 in
theorem build_pub_no (T : Tm) (h : T.isAtom = false) (w : World) (B : Nat) (v : Value) (hv : Tms w B v [T]) :
    Calls Try.prog 62 #[str oPub, v] w fun e w' => e = fault 1 ∧ Still w w' := by
  obtain ⟨g, cap, rfl, c0⟩ := hv.one
  have H := Lib.hid h
  clear hv h
  unfold oPub
  have e0 : str [112, 117, 98] = .string ⟨#[112, 117, 98]⟩ := rfl
  rw [e0]
  clear e0
  go_enter Try.func62, Try.ntmps62
  go_wp2_with (go_at_call 75; refine (secret_no _ H.out _).mono ?_; rintro e w' ⟨rfl, rfl⟩)
  exact ⟨rfl, rfl, Still.refl _⟩

set_option maxRecDepth 100000 in
theorem build_dh (a b : Bs) (hgt : gt a b = false) (w : World) (B : Nat) (v : Value) (hv : Tms w B v [.atom a, .atom b]) :
    Calls Try.prog 62 #[str oDh, v] w fun e w' => e = .returned (val (.dh a b)) ∧ Still w w' := by
  obtain ⟨g, cap, rfl, c0, c1⟩ := hv.two
  have H := Lib.hid hgt
  clear hv hgt
  unfold oDh
  have e0 : str [100, 104] = .string ⟨#[100, 104]⟩ := rfl
  rw [e0]
  clear e0
  go_enter Try.func62, Try.ntmps62
  go_wp2_with fail
  go_quiet ((first | (go_at_call 75; exact Calls.quiet_of_same ((secret_atom _ _).mono fun e w' ⟨h1, h2⟩ => ⟨h1, h2.symm⟩)) | (go_at_call 76; exact Calls.quiet_of_same ((shared_yes _ _ H.out _).mono fun e w' ⟨h1, h2⟩ => ⟨h1, h2.symm⟩))))
  go_wp2
  go_ret
  exact ⟨rfl, Still.drewN _ _⟩

theorem Tms.len {w : World} {B : Nat} {v : Value} {ts : List Tm} (h : Tms w B v ts) : v = .slice none 0 0 ∧ ts = [] ∨ ∃ g cap, v = .slice (some ⟨g, 0, none⟩) ts.length cap := by
  rcases h.form with h | ⟨g, cap, e, _⟩
  · exact .inl h
  · exact .inr ⟨g, cap, e⟩

set_option maxRecDepth 100000 in
theorem build_len2 (op : Bs) (hop : op = oPair ∨ op = oMac ∨ op = oShut ∨ op = oDh) (ts : List Tm) (hn : ts.length ≠ 2) (w : World) (B : Nat) (v : Value) (hv : Tms w B v ts) :
    Calls Try.prog 62 #[str op, v] w fun e w' => e = fault 1 ∧ Still w w' := by
  have d2 : ((ts.length : Int) == 2) = false := by rw [beq_eq_false_iff_ne]; omega
  rcases hv.len with ⟨rfl, rfl⟩ | ⟨g, cap, rfl⟩
  all_goals
    clear hv hn
    rcases hop with rfl | rfl | rfl | rfl
  all_goals
    first | unfold oPair | unfold oMac | unfold oShut | unfold oDh
    go_enter Try.func62, Try.ntmps62
    go_wp2_with fail
    exact ⟨rfl, rfl, Still.refl _⟩

set_option maxRecDepth 100000 in
theorem build_len1 (op : Bs) (hop : op = oHash ∨ op = oPub) (ts : List Tm) (hn : ts.length ≠ 1) (w : World) (B : Nat) (v : Value) (hv : Tms w B v ts) :
    Calls Try.prog 62 #[str op, v] w fun e w' => e = fault 1 ∧ Still w w' := by
  have d2 : ((ts.length : Int) == 1) = false := by rw [beq_eq_false_iff_ne]; omega
  rcases hv.len with ⟨rfl, rfl⟩ | ⟨g, cap, rfl⟩
  all_goals
    clear hv hn
    rcases hop with rfl | rfl
  all_goals
    first | unfold oHash | unfold oPub
    go_enter Try.func62, Try.ntmps62
    go_wp2_with fail
    exact ⟨rfl, rfl, Still.refl _⟩

set_option maxRecDepth 100000 in
theorem build_op (op : Bs) (h1 : op ≠ oPair) (h2 : op ≠ oHash) (h3 : op ≠ oMac) (h4 : op ≠ oShut) (h5 : op ≠ oPub) (h6 : op ≠ oDh) (w : World) (v : Value) :
    Calls Try.prog 62 #[str op, v] w fun e w' => e = fault 1 ∧ Still w w' := by
  have e1 : (op == [112, 97, 105, 114]) = false := by rw [beq_eq_false_iff_ne]; exact h1
  have e2 : (op == [104, 97, 115, 104]) = false := by rw [beq_eq_false_iff_ne]; exact h2
  have e3 : (op == [109, 97, 99]) = false := by rw [beq_eq_false_iff_ne]; exact h3
  have e4 : (op == [115, 104, 117, 116]) = false := by rw [beq_eq_false_iff_ne]; exact h4
  have e5 : (op == [112, 117, 98]) = false := by rw [beq_eq_false_iff_ne]; exact h5
  have e6 : (op == [100, 104]) = false := by rw [beq_eq_false_iff_ne]; exact h6
  clear h1 h2 h3 h4 h5 h6
  go_enter Try.func62, Try.ntmps62
  go_wp2_with fail
  exact ⟨rfl, rfl, Still.refl _⟩

set_option maxHeartbeats 1000000 in
set_option maxRecDepth 100000 in
theorem build_dh_nn (x y : Tm) (hx : x.isAtom = false) (hy : y.isAtom = false) (w : World) (B : Nat) (v : Value) (hv : Tms w B v [x, y]) :
    Calls Try.prog 62 #[str oDh, v] w fun e w' => e = fault 1 ∧ Still w w' := by
  obtain ⟨g, cap, rfl, c0, c1⟩ := hv.two
  have HX := Lib.hid hx
  have HY := Lib.hid hy
  clear hv hx hy
  unfold oDh
  have e0 : str [100, 104] = .string ⟨#[100, 104]⟩ := rfl
  rw [e0]
  clear e0
  go_enter Try.func62, Try.ntmps62
  go_wp2_with fail
  refine wp_region_any (by kernel_rfl) ?_
  change wpAny _ _ _ _ _ _ _ (World.drew _)
  refine wpAny_take (i := 0) (v := ?_) rfl (by kernel_rfl) (by kernel_rfl) (by kernel_rfl) (fun _ _ _ h => h) (Or.inl ⟨by rfl, ?_⟩) ?_
  rotate_left
  · intro w; go_simp; first | done | with_reducible rfl
  refine wpAny_take (i := 1) (v := ?_) rfl (by kernel_rfl) (by kernel_rfl) (by kernel_rfl) (fun _ _ _ h => h) (Or.inl ⟨by rfl, ?_⟩) ?_
  rotate_left
  · intro w; go_simp; first | done | with_reducible rfl
  refine wpAny_take (i := 4) (v := ?_) rfl (by kernel_rfl) (by kernel_rfl) (by kernel_rfl) (fun _ _ _ h => h) (Or.inl ⟨by rfl, ?_⟩) ?_
  rotate_left
  · intro w; go_simp; first | done | with_reducible rfl
  refine wpAny_take (i := 5) (v := ?_) rfl (by kernel_rfl) (by kernel_rfl) (by kernel_rfl) (fun _ _ _ h => h) (Or.inl ⟨by rfl, ?_⟩) ?_
  rotate_left
  · intro w; go_simp; first | done | with_reducible rfl
  refine wpAny_ready (rs := [2, 6]) (by kernel_rfl) (by simp) ?_
  refine AllReady.cons rfl (fun K hK => ?_) ?_
  · go_simp
    refine hK _ _ ?_
    clear hK K
    refine wpAny_ready (rs := [3, 6]) (by kernel_rfl) (by simp) ?_
    refine AllReady.cons rfl (fun K hK => ?_) ?_
    · go_simp
      refine (secret_no x HX.out _).mono ?_
      rintro e w' ⟨rfl, rfl⟩
      exact ⟨rfl, rfl, rfl, rfl, rfl, rfl⟩
    refine AllReady.cons rfl (fun K hK => ?_) ?_
    · go_simp
      refine hK _ _ ?_
      clear hK K
      refine wpAny_ready (rs := [3]) (by kernel_rfl) (by simp) ?_
      refine AllReady.cons rfl (fun K hK => ?_) ?_
      · go_simp
        refine (secret_no x HX.out _).mono ?_
        rintro e w' ⟨rfl, rfl⟩
        exact ⟨rfl, rfl, rfl, rfl, rfl, rfl⟩
      exact AllReady.nil
    exact AllReady.nil
  refine AllReady.cons rfl (fun K hK => ?_) ?_
  · go_simp
    refine hK _ _ ?_
    clear hK K
    refine wpAny_ready (rs := [2]) (by kernel_rfl) (by simp) ?_
    refine AllReady.cons rfl (fun K hK => ?_) ?_
    · go_simp
      refine hK _ _ ?_
      clear hK K
      refine wpAny_ready (rs := [3]) (by kernel_rfl) (by simp) ?_
      refine AllReady.cons rfl (fun K hK => ?_) ?_
      · go_simp
        refine (secret_no x HX.out _).mono ?_
        rintro e w' ⟨rfl, rfl⟩
        exact ⟨rfl, rfl, rfl, rfl, rfl, rfl⟩
      exact AllReady.nil
    exact AllReady.nil
  exact AllReady.nil

set_option maxHeartbeats 1000000 in
set_option maxRecDepth 100000 in
theorem build_dh_na (x : Tm) (b : Bs) (hx : x.isAtom = false) (w : World) (B : Nat) (v : Value) (hv : Tms w B v [x, .atom b]) :
    Calls Try.prog 62 #[str oDh, v] w fun e w' => e = fault 1 ∧ Still w w' := by
  obtain ⟨g, cap, rfl, c0, c1⟩ := hv.two
  have HX := Lib.hid hx
  clear hv hx
  unfold oDh
  have e0 : str [100, 104] = .string ⟨#[100, 104]⟩ := rfl
  rw [e0]
  clear e0
  go_enter Try.func62, Try.ntmps62
  go_wp2_with fail
  refine wp_region_any (by kernel_rfl) ?_
  change wpAny _ _ _ _ _ _ _ (World.drew _)
  refine wpAny_take (i := 0) (v := ?_) rfl (by kernel_rfl) (by kernel_rfl) (by kernel_rfl) (fun _ _ _ h => h) (Or.inl ⟨by rfl, ?_⟩) ?_
  rotate_left
  · intro w; go_simp; first | done | with_reducible rfl
  refine wpAny_take (i := 1) (v := ?_) rfl (by kernel_rfl) (by kernel_rfl) (by kernel_rfl) (fun _ _ _ h => h) (Or.inl ⟨by rfl, ?_⟩) ?_
  rotate_left
  · intro w; go_simp; first | done | with_reducible rfl
  refine wpAny_take (i := 4) (v := ?_) rfl (by kernel_rfl) (by kernel_rfl) (by kernel_rfl) (fun _ _ _ h => h) (Or.inl ⟨by rfl, ?_⟩) ?_
  rotate_left
  · intro w; go_simp; first | done | with_reducible rfl
  refine wpAny_take (i := 5) (v := ?_) rfl (by kernel_rfl) (by kernel_rfl) (by kernel_rfl) (fun _ _ _ h => h) (Or.inl ⟨by rfl, ?_⟩) ?_
  rotate_left
  · intro w; go_simp; first | done | with_reducible rfl
  refine wpAny_ready (rs := [2, 6]) (by kernel_rfl) (by simp) ?_
  refine AllReady.cons rfl (fun K hK => ?_) ?_
  · go_simp
    refine hK _ _ ?_
    clear hK K
    refine wpAny_ready (rs := [3, 6]) (by kernel_rfl) (by simp) ?_
    refine AllReady.cons rfl (fun K hK => ?_) ?_
    · go_simp
      refine (secret_no x HX.out _).mono ?_
      rintro e w' ⟨rfl, rfl⟩
      exact ⟨rfl, rfl, rfl, rfl, rfl, rfl⟩
    refine AllReady.cons rfl (fun K hK => ?_) ?_
    · go_simp
      refine hK _ _ ?_
      clear hK K
      refine wpAny_ready (rs := [3]) (by kernel_rfl) (by simp) ?_
      refine AllReady.cons rfl (fun K hK => ?_) ?_
      · go_simp
        refine (secret_no x HX.out _).mono ?_
        rintro e w' ⟨rfl, rfl⟩
        exact ⟨rfl, rfl, rfl, rfl, rfl, rfl⟩
      exact AllReady.nil
    exact AllReady.nil
  refine AllReady.cons rfl (fun K hK => ?_) ?_
  · go_simp
    refine hK _ _ ?_
    clear hK K
    refine wpAny_ready (rs := [2]) (by kernel_rfl) (by simp) ?_
    refine AllReady.cons rfl (fun K hK => ?_) ?_
    · go_simp
      refine hK _ _ ?_
      clear hK K
      refine wpAny_ready (rs := [3]) (by kernel_rfl) (by simp) ?_
      refine AllReady.cons rfl (fun K hK => ?_) ?_
      · go_simp
        refine (secret_no x HX.out _).mono ?_
        rintro e w' ⟨rfl, rfl⟩
        exact ⟨rfl, rfl, rfl, rfl, rfl, rfl⟩
      exact AllReady.nil
    exact AllReady.nil
  exact AllReady.nil

set_option maxHeartbeats 1000000 in
set_option maxRecDepth 100000 in
theorem build_dh_an (a : Bs) (y : Tm) (hy : y.isAtom = false) (w : World) (B : Nat) (v : Value) (hv : Tms w B v [.atom a, y]) :
    Calls Try.prog 62 #[str oDh, v] w fun e w' => e = fault 1 ∧ Still w w' := by
  obtain ⟨g, cap, rfl, c0, c1⟩ := hv.two
  have HY := Lib.hid hy
  clear hv hy
  unfold oDh
  have e0 : str [100, 104] = .string ⟨#[100, 104]⟩ := rfl
  rw [e0]
  clear e0
  go_enter Try.func62, Try.ntmps62
  go_wp2_with fail
  refine wp_region_any (by kernel_rfl) ?_
  change wpAny _ _ _ _ _ _ _ (World.drew _)
  refine wpAny_take (i := 0) (v := ?_) rfl (by kernel_rfl) (by kernel_rfl) (by kernel_rfl) (fun _ _ _ h => h) (Or.inl ⟨by rfl, ?_⟩) ?_
  rotate_left
  · intro w; go_simp; first | done | with_reducible rfl
  refine wpAny_take (i := 1) (v := ?_) rfl (by kernel_rfl) (by kernel_rfl) (by kernel_rfl) (fun _ _ _ h => h) (Or.inl ⟨by rfl, ?_⟩) ?_
  rotate_left
  · intro w; go_simp; first | done | with_reducible rfl
  refine wpAny_take (i := 4) (v := ?_) rfl (by kernel_rfl) (by kernel_rfl) (by kernel_rfl) (fun _ _ _ h => h) (Or.inl ⟨by rfl, ?_⟩) ?_
  rotate_left
  · intro w; go_simp; first | done | with_reducible rfl
  refine wpAny_take (i := 5) (v := ?_) rfl (by kernel_rfl) (by kernel_rfl) (by kernel_rfl) (fun _ _ _ h => h) (Or.inl ⟨by rfl, ?_⟩) ?_
  rotate_left
  · intro w; go_simp; first | done | with_reducible rfl
  refine wpAny_ready (rs := [2, 6]) (by kernel_rfl) (by simp) ?_
  refine AllReady.cons rfl (fun K hK => ?_) ?_
  · go_simp
    refine hK _ _ ?_
    clear hK K
    refine wpAny_ready (rs := [3, 6]) (by kernel_rfl) (by simp) ?_
    refine AllReady.cons rfl (fun K hK => ?_) ?_
    · go_simp
      refine (secret_atom a _).mono ?_
      rintro e w' ⟨rfl, rfl⟩
      refine hK _ _ ?_
      clear hK K
      refine wpAny_ready (rs := [6]) (by kernel_rfl) (by simp) ?_
      refine AllReady.cons rfl (fun K hK => ?_) ?_
      · go_simp
        refine hK _ _ ?_
        clear hK K
        refine wpAny_ready (rs := [7]) (by kernel_rfl) (by simp) ?_
        refine AllReady.cons rfl (fun K hK => ?_) ?_
        · go_simp
          refine (secret_no y HY.out _).mono ?_
          rintro e w' ⟨rfl, rfl⟩
          exact ⟨rfl, rfl, rfl, rfl, rfl, rfl⟩
        exact AllReady.nil
      exact AllReady.nil
    refine AllReady.cons rfl (fun K hK => ?_) ?_
    · go_simp
      refine hK _ _ ?_
      clear hK K
      refine wpAny_ready (rs := [3]) (by kernel_rfl) (by simp) ?_
      refine AllReady.cons rfl (fun K hK => ?_) ?_
      · go_simp
        refine (secret_atom a _).mono ?_
        rintro e w' ⟨rfl, rfl⟩
        refine hK _ _ ?_
        clear hK K
        refine wpAny_ready (rs := [7]) (by kernel_rfl) (by simp) ?_
        refine AllReady.cons rfl (fun K hK => ?_) ?_
        · go_simp
          refine (secret_no y HY.out _).mono ?_
          rintro e w' ⟨rfl, rfl⟩
          exact ⟨rfl, rfl, rfl, rfl, rfl, rfl⟩
        exact AllReady.nil
      exact AllReady.nil
    exact AllReady.nil
  refine AllReady.cons rfl (fun K hK => ?_) ?_
  · go_simp
    refine hK _ _ ?_
    clear hK K
    refine wpAny_ready (rs := [2]) (by kernel_rfl) (by simp) ?_
    refine AllReady.cons rfl (fun K hK => ?_) ?_
    · go_simp
      refine hK _ _ ?_
      clear hK K
      refine wpAny_ready (rs := [3]) (by kernel_rfl) (by simp) ?_
      refine AllReady.cons rfl (fun K hK => ?_) ?_
      · go_simp
        refine (secret_atom a _).mono ?_
        rintro e w' ⟨rfl, rfl⟩
        refine hK _ _ ?_
        clear hK K
        refine wpAny_ready (rs := [7]) (by kernel_rfl) (by simp) ?_
        refine AllReady.cons rfl (fun K hK => ?_) ?_
        · go_simp
          refine (secret_no y HY.out _).mono ?_
          rintro e w' ⟨rfl, rfl⟩
          exact ⟨rfl, rfl, rfl, rfl, rfl, rfl⟩
        exact AllReady.nil
      exact AllReady.nil
    exact AllReady.nil
  exact AllReady.nil

set_option maxHeartbeats 1000000 in
set_option maxRecDepth 100000 in
theorem build_dh_gt (a b : Bs) (hgt : gt a b = true) (w : World) (B : Nat) (v : Value) (hv : Tms w B v [.atom a, .atom b]) :
    Calls Try.prog 62 #[str oDh, v] w fun e w' => e = fault 1 ∧ Still w w' := by
  obtain ⟨g, cap, rfl, c0, c1⟩ := hv.two
  have HGT := Lib.hid hgt
  clear hv hgt
  unfold oDh
  have e0 : str [100, 104] = .string ⟨#[100, 104]⟩ := rfl
  rw [e0]
  clear e0
  go_enter Try.func62, Try.ntmps62
  go_wp2_with fail
  refine wp_region_any (by kernel_rfl) ?_
  change wpAny _ _ _ _ _ _ _ (World.drew _)
  refine wpAny_take (i := 0) (v := ?_) rfl (by kernel_rfl) (by kernel_rfl) (by kernel_rfl) (fun _ _ _ h => h) (Or.inl ⟨by rfl, ?_⟩) ?_
  rotate_left
  · intro w; go_simp; first | done | with_reducible rfl
  refine wpAny_take (i := 1) (v := ?_) rfl (by kernel_rfl) (by kernel_rfl) (by kernel_rfl) (fun _ _ _ h => h) (Or.inl ⟨by rfl, ?_⟩) ?_
  rotate_left
  · intro w; go_simp; first | done | with_reducible rfl
  refine wpAny_take (i := 4) (v := ?_) rfl (by kernel_rfl) (by kernel_rfl) (by kernel_rfl) (fun _ _ _ h => h) (Or.inl ⟨by rfl, ?_⟩) ?_
  rotate_left
  · intro w; go_simp; first | done | with_reducible rfl
  refine wpAny_take (i := 5) (v := ?_) rfl (by kernel_rfl) (by kernel_rfl) (by kernel_rfl) (fun _ _ _ h => h) (Or.inl ⟨by rfl, ?_⟩) ?_
  rotate_left
  · intro w; go_simp; first | done | with_reducible rfl
  refine wpAny_ready (rs := [2, 6]) (by kernel_rfl) (by simp) ?_
  refine AllReady.cons rfl (fun K hK => ?_) ?_
  · go_simp
    refine hK _ _ ?_
    clear hK K
    refine wpAny_ready (rs := [3, 6]) (by kernel_rfl) (by simp) ?_
    refine AllReady.cons rfl (fun K hK => ?_) ?_
    · go_simp
      refine (secret_atom a _).mono ?_
      rintro e w' ⟨rfl, rfl⟩
      refine hK _ _ ?_
      clear hK K
      refine wpAny_ready (rs := [6]) (by kernel_rfl) (by simp) ?_
      refine AllReady.cons rfl (fun K hK => ?_) ?_
      · go_simp
        refine hK _ _ ?_
        clear hK K
        refine wpAny_ready (rs := [7]) (by kernel_rfl) (by simp) ?_
        refine AllReady.cons rfl (fun K hK => ?_) ?_
        · go_simp
          refine (secret_atom b _).mono ?_
          rintro e w' ⟨rfl, rfl⟩
          refine hK _ _ ?_
          clear hK K
          refine wpAny_ready (rs := [8]) (by kernel_rfl) (by simp) ?_
          refine AllReady.cons rfl (fun K hK => ?_) ?_
          · go_simp
            refine (shared_no a b HGT.out _).mono ?_
            rintro e w' ⟨rfl, rfl⟩
            exact ⟨rfl, rfl, rfl, rfl, rfl, rfl⟩
          exact AllReady.nil
        exact AllReady.nil
      exact AllReady.nil
    refine AllReady.cons rfl (fun K hK => ?_) ?_
    · go_simp
      refine hK _ _ ?_
      clear hK K
      refine wpAny_ready (rs := [3]) (by kernel_rfl) (by simp) ?_
      refine AllReady.cons rfl (fun K hK => ?_) ?_
      · go_simp
        refine (secret_atom a _).mono ?_
        rintro e w' ⟨rfl, rfl⟩
        refine hK _ _ ?_
        clear hK K
        refine wpAny_ready (rs := [7]) (by kernel_rfl) (by simp) ?_
        refine AllReady.cons rfl (fun K hK => ?_) ?_
        · go_simp
          refine (secret_atom b _).mono ?_
          rintro e w' ⟨rfl, rfl⟩
          refine hK _ _ ?_
          clear hK K
          refine wpAny_ready (rs := [8]) (by kernel_rfl) (by simp) ?_
          refine AllReady.cons rfl (fun K hK => ?_) ?_
          · go_simp
            refine (shared_no a b HGT.out _).mono ?_
            rintro e w' ⟨rfl, rfl⟩
            exact ⟨rfl, rfl, rfl, rfl, rfl, rfl⟩
          exact AllReady.nil
        exact AllReady.nil
      exact AllReady.nil
    exact AllReady.nil
  refine AllReady.cons rfl (fun K hK => ?_) ?_
  · go_simp
    refine hK _ _ ?_
    clear hK K
    refine wpAny_ready (rs := [2]) (by kernel_rfl) (by simp) ?_
    refine AllReady.cons rfl (fun K hK => ?_) ?_
    · go_simp
      refine hK _ _ ?_
      clear hK K
      refine wpAny_ready (rs := [3]) (by kernel_rfl) (by simp) ?_
      refine AllReady.cons rfl (fun K hK => ?_) ?_
      · go_simp
        refine (secret_atom a _).mono ?_
        rintro e w' ⟨rfl, rfl⟩
        refine hK _ _ ?_
        clear hK K
        refine wpAny_ready (rs := [7]) (by kernel_rfl) (by simp) ?_
        refine AllReady.cons rfl (fun K hK => ?_) ?_
        · go_simp
          refine (secret_atom b _).mono ?_
          rintro e w' ⟨rfl, rfl⟩
          refine hK _ _ ?_
          clear hK K
          refine wpAny_ready (rs := [8]) (by kernel_rfl) (by simp) ?_
          refine AllReady.cons rfl (fun K hK => ?_) ?_
          · go_simp
            refine (shared_no a b HGT.out _).mono ?_
            rintro e w' ⟨rfl, rfl⟩
            exact ⟨rfl, rfl, rfl, rfl, rfl, rfl⟩
          exact AllReady.nil
        exact AllReady.nil
      exact AllReady.nil
    exact AllReady.nil
  exact AllReady.nil

/-- What build makes: the term, if there is one. -/
theorem build_yes (op : Bs) (ts : List Tm) (T : Tm) (h : build op ts = some T) (w : World) (B : Nat) (v : Value) (hv : Tms w B v ts) :
    Calls Try.prog 62 #[str op, v] w fun e w' => e = .returned (val T) ∧ Still w w' := by
  obtain ⟨h1, h2, h3, h4⟩ := build_some h
  subst h2
  subst h3
  cases T with
  | atom a => cases h1
  | pair x y => exact build_pair x y w B v hv
  | hash x => exact build_hash x w B v hv
  | mac x y => exact build_mac x y w B v hv
  | shut x y => exact build_shut x y w B v hv
  | pub a => exact build_pub a w B v hv
  | dh a b => exact build_dh a b h4 w B v hv

theorem isAtom_cases (x : Tm) : x.isAtom = false ∨ ∃ a, x = .atom a := by
  cases x <;> first | exact .inl rfl | exact .inr ⟨_, rfl⟩

theorem build_no (op : Bs) (ts : List Tm) (h : build op ts = none) (w : World) (B : Nat) (v : Value) (hv : Tms w B v ts) :
    Calls Try.prog 62 #[str op, v] w fun e w' => e = fault 1 ∧ Still w w' := by
  by_cases h1 : op = oPair
  · subst h1
    refine build_len2 _ (.inl rfl) ts (fun e => ?_) w B v hv
    match ts, e with
    | [x, y], _ => simp [build] at h
  by_cases h2 : op = oHash
  · subst h2
    refine build_len1 _ (.inl rfl) ts (fun e => ?_) w B v hv
    match ts, e with
    | [x], _ => simp [build, oHash, oPair] at h
  by_cases h3 : op = oMac
  · subst h3
    refine build_len2 _ (.inr (.inl rfl)) ts (fun e => ?_) w B v hv
    match ts, e with
    | [x, y], _ => simp [build, oMac, oHash, oPair] at h
  by_cases h4 : op = oShut
  · subst h4
    refine build_len2 _ (.inr (.inr (.inl rfl))) ts (fun e => ?_) w B v hv
    match ts, e with
    | [x, y], _ => simp [build, oShut, oMac, oHash, oPair] at h
  by_cases h5 : op = oPub
  · subst h5
    by_cases hl : ts.length = 1
    · match ts, hl with
      | [x], _ =>
        rcases isAtom_cases x with hx | ⟨a, rfl⟩
        · exact build_pub_no x hx w B v hv
        · simp [build, oPub, oShut, oMac, oHash, oPair] at h
    · exact build_len1 _ (.inr rfl) ts hl w B v hv
  by_cases h6 : op = oDh
  · subst h6
    by_cases hl : ts.length = 2
    · match ts, hl with
      | [x, y], _ =>
        rcases isAtom_cases x with hx | ⟨a, rfl⟩
        · rcases isAtom_cases y with hy | ⟨b, rfl⟩
          · exact build_dh_nn x y hx hy w B v hv
          · exact build_dh_na x b hx w B v hv
        · rcases isAtom_cases y with hy | ⟨b, rfl⟩
          · exact build_dh_an a y hy w B v hv
          · refine build_dh_gt a b ?_ w B v hv
            cases hg : gt a b
            · simp [build, oDh, oPub, oShut, oMac, oHash, oPair, hg] at h
            · rfl
    · exact build_len2 _ (.inr (.inr (.inr rfl))) ts hl w B v hv
  · exact build_op op h1 h2 h3 h4 h5 h6 w v
end Go.Proofs.Ytonjohlecomeoaa.bld
