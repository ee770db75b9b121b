/- Several small texts, one behind the other. -/
import Derived.Test.YtdikjmhnjlalbaaGreatQb
import Derived.Deep.Fields
import Derived.Deep.Slices
import Derived.Test.YtdikjmhnjlalbaaGreatQa
import Derived.Laws.CopyOwn
import Derived.Laws.MakeOwn
import Derived.Laws.OwnMore
import Derived.Lib.BufferWrite

/- Numbers and texts that came in, read: for the frames of laws. -/
namespace Go.Proofs.YtdikjmhnjlalbaaGreat.fmg
open Go.ChangeShapes Go.WideShapes Go.ChangeAt Go.RowKit
open Go.Proofs.YtdikjmhnjlalbaaGreat.tm Go.Proofs.YtdikjmhnjlalbaaGreat.bld Go.Proofs.YtdikjmhnjlalbaaGreat.gdp Go.Proofs.YtdikjmhnjlalbaaGreat.rbk
set_option linter.unusedVariables false

theorem cellsI : Tryz.prog.cellsOf 2 = 1 := by kernel_rfl
theorem bs_of (s : ByteArray) : Value.string s = str s.data.toList := by simp [str]
theorem bounds {n : Int} (h : (Lit.int .i64 n).wf = true) : -9223372036854775808 ≤ n ∧ n ≤ 9223372036854775807 := by
  simpa [Lit.wf, IntKind.min, IntKind.max, IntKind.signed, IntKind.bits] using h
end Go.Proofs.YtdikjmhnjlalbaaGreat.fmg

/- An address that came in by value, read: for the frames of laws. -/
namespace Go.Proofs.YtdikjmhnjlalbaaGreat.fmg
open Go.ChangeShapes Go.WideShapes Go.ChangeAt Go.RowKit
open Go.Proofs.YtdikjmhnjlalbaaGreat.tm Go.Proofs.YtdikjmhnjlalbaaGreat.bld Go.Proofs.YtdikjmhnjlalbaaGreat.gdp Go.Proofs.YtdikjmhnjlalbaaGreat.rbk
set_option linter.unusedVariables false

theorem cellsA : Tryz.prog.cellsOf 28 = 2 := by kernel_rfl
structure AdIn (a : Ad) : Prop where
  st : a.st.length ≤ maxLen
  hs : a.hs.length ≤ maxLen
set_option maxRecDepth 100000 in
theorem open_addr {H : Type} {enc : TypeId × Value → H} {W : World} {base : Nat} {v : Value} {d : DataW H} {p : List MemPlace}
    (hv : Value.okWide Tryz.prog W .any base 28 v) (h : DataW.Trod enc Tryz.prog W 0 (fun _ => true) true 28 v d p) :
    ∃ a : Ad, v = .agg (adA a) ∧ AdIn a := by
  obtain ⟨cs, rfl, hsz⟩ := okWide_struct Tryz.underlying28 hv
  obtain ⟨l⟩ := cs
  have hl : l.length = 2 := hsz.trans cellsA
  obtain ⟨fuel, hf⟩ := h
  obtain ⟨xs, n, _, hx, _, hlen, hg⟩ := DataW.trod_struct Tryz.underlying28 hf
  match l, hl with
  | [c0, c1], _ =>
    match xs, hlen with
    | [y0, y1], _ =>
      have h0 : DataW.trod enc Tryz.prog W 0 (fun _ => true) true n 9 [c0] = some y0 := by simpa [Value.cells, frm.cellsS] using hg 0 _ rfl
      have h1 : DataW.trod enc Tryz.prog W 0 (fun _ => true) true n 9 [c1] = some y1 := by simpa [Value.cells, frm.cellsS] using hg 1 _ rfl
      obtain ⟨s0, e0, _, w0⟩ := DataW.trod_string Tryz.underlying9 h0
      obtain ⟨s1, e1, _, w1⟩ := DataW.trod_string Tryz.underlying9 h1
      simp only [List.cons.injEq, and_true] at e0 e1
      refine ⟨⟨s0.data.toList, s1.data.toList⟩, ?_, w0, w1⟩
      rw [e0, e1, bs_of s0, bs_of s1]
      rfl
end Go.Proofs.YtdikjmhnjlalbaaGreat.fmg

/- A jar that came in by value, read: for the frames of laws. -/
namespace Go.Proofs.YtdikjmhnjlalbaaGreat.fmg
open Go.ChangeShapes Go.WideShapes Go.ChangeAt Go.RowKit
open Go.Proofs.YtdikjmhnjlalbaaGreat.tm Go.Proofs.YtdikjmhnjlalbaaGreat.bld Go.Proofs.YtdikjmhnjlalbaaGreat.gdp Go.Proofs.YtdikjmhnjlalbaaGreat.rbk
set_option linter.unusedVariables false

theorem cellsJ : Tryz.prog.cellsOf 23 = 4 := by kernel_rfl
structure JrIn (j : Jr) : Prop where
  now : j.now.length ≤ maxLen
  was : j.was.length ≤ maxLen
  a1 : -9223372036854775808 ≤ j.at_
  a2 : j.at_ ≤ 9223372036854775807
  n1 : -9223372036854775808 ≤ j.next
  n2 : j.next ≤ 9223372036854775807
set_option maxRecDepth 100000 in
theorem open_jar {H : Type} {enc : TypeId × Value → H} {W : World} {base : Nat} {v : Value} {d : DataW H} {p : List MemPlace}
    (hv : Value.okWide Tryz.prog W .any base 23 v) (h : DataW.Trod enc Tryz.prog W 0 (fun _ => true) true 23 v d p) :
    ∃ j : Jr, v = .agg (jrA j) ∧ JrIn j := by
  obtain ⟨cs, rfl, hsz⟩ := okWide_struct Tryz.underlying23 hv
  obtain ⟨l⟩ := cs
  have hl : l.length = 4 := hsz.trans cellsJ
  obtain ⟨fuel, hf⟩ := h
  obtain ⟨xs, n, _, hx, _, hlen, hg⟩ := DataW.trod_struct Tryz.underlying23 hf
  match l, hl with
  | [c0, c1, c2, c3], _ =>
    match xs, hlen with
    | [y0, y1, y2, y3], _ =>
      have h0 : DataW.trod enc Tryz.prog W 0 (fun _ => true) true n 9 [c0] = some y0 := by simpa [Value.cells, frm.cellsS] using hg 0 _ rfl
      have h1 : DataW.trod enc Tryz.prog W 0 (fun _ => true) true n 9 [c1] = some y1 := by simpa [Value.cells, frm.cellsS] using hg 1 _ rfl
      have h2 : DataW.trod enc Tryz.prog W 0 (fun _ => true) true n 2 [c2] = some y2 := by simpa [Value.cells, cellsI] using hg 2 _ rfl
      have h3 : DataW.trod enc Tryz.prog W 0 (fun _ => true) true n 2 [c3] = some y3 := by simpa [Value.cells, cellsI] using hg 3 _ rfl
      obtain ⟨s0, e0, _, w0⟩ := DataW.trod_string Tryz.underlying9 h0
      obtain ⟨s1, e1, _, w1⟩ := DataW.trod_string Tryz.underlying9 h1
      obtain ⟨n2, e2, _, i2⟩ := DataW.trod_int Tryz.underlying2 h2
      obtain ⟨n3, e3, _, i3⟩ := DataW.trod_int Tryz.underlying2 h3
      simp only [List.cons.injEq, and_true] at e0 e1 e2 e3
      have j2 := bounds i2
      have j3 := bounds i3
      refine ⟨⟨s0.data.toList, s1.data.toList, n2, n3⟩, ?_, w0, w1, j2.1, j2.2, j3.1, j3.2⟩
      rw [e0, e1, e2, e3, bs_of s0, bs_of s1]
      rfl
end Go.Proofs.YtdikjmhnjlalbaaGreat.fmg

/- AtomRight, of the program and of the model: each returns what the plain function atomR says. -/
namespace Go.Proofs.YtdikjmhnjlalbaaGreat.atm
open Go.RowKit Go.Proofs.YtdikjmhnjlalbaaGreat.tm Go.Proofs.YtdikjmhnjlalbaaGreat.lib Go.Proofs.YtdikjmhnjlalbaaGreat.rdr
set_option linter.unusedVariables false

/-! ### AtomRight, of the program and of the model; a term's atom -/

theorem atom_no {s : ByteArray} {k : Nat} (h : k < s.size) (hk : isAt s[k] = false) : atomR s.data.toList = false := by
  have hm : s[k] ∈ s.data.toList := by
    have h' : k < s.data.toList.length := by simpa using h
    have : s[k] = s.data.toList[k] := rfl
    rw [this]
    exact List.getElem_mem h'
  cases e : atomR s.data.toList with
  | false => rfl
  | true => have := List.all_eq_true.1 (atomR_all e) _ hm; rw [hk] at this; cases this

theorem atom_yes {s : ByteArray} (h1 : 1 ≤ s.size) (h2 : s.size ≤ 8) (h : ∀ j (hj : j < s.size), isAt s[j] = true) : atomR s.data.toList = true := by
  unfold atomR
  simp only [Bool.and_eq_true, decide_eq_true_eq, List.all_eq_true]
  have e : s.data.toList.length = s.size := rfl
  refine ⟨⟨by omega, by omega⟩, ?_⟩
  intro c hc
  obtain ⟨i, hi, rfl⟩ := List.mem_iff_getElem.1 hc
  exact h i hi

theorem atom_size {s : ByteArray} (h : s.size < 1 ∨ 8 < s.size) : atomR s.data.toList = false := by
  cases e : atomR s.data.toList with
  | false => rfl
  | true => have := atomR_len e; have e' : s.data.toList.length = s.size := rfl; omega

set_option maxRecDepth 100000 in
theorem implAtom_calls (s : ByteArray) (hs : s.size ≤ maxLen) (w : World) :
    Calls Tryz.prog 35 #[.string s] w fun e w' => e = .returned (.bool (atomR s.data.toList)) ∧ w = w' := by
  unfold maxLen at hs
  by_cases h0 : s.size < 1
  · have HE := Lib.hid (atom_size (s := s) (.inl h0))
    have ne : s.toList.isEmpty = true := by rw [isEmpty_eq]; simpa using h0
    go_enter Tryz.func35, Tryz.ntmps35
    go_wp2
    all_goals go_ret
    all_goals exact ⟨ret_bool HE.out.symm, rfl⟩
  have ne : s.toList.isEmpty = false := by rw [isEmpty_eq]; simpa using h0
  by_cases h1 : 8 < s.size
  · have HE := Lib.hid (atom_size (s := s) (.inr h1))
    have d1 : decide (8 < (s.size : Int)) = true := by simp; omega
    go_enter Tryz.func35, Tryz.ntmps35
    go_wp2
    all_goals go_ret
    all_goals exact ⟨ret_bool HE.out.symm, rfl⟩
  have d1 : decide (8 < (s.size : Int)) = false := by simp; omega
  go_enter Tryz.func35, Tryz.ntmps35
  go_wp2
  go_loop [3, 13, 14, 15, 16, 17, 18, 19, 20, 21] (fun _ i _ _ _ _ _ _ _ _ => ∃ k : Nat, k ≤ s.size ∧ i = .int .i64 k ∧ ∀ j (hj : j < s.size), j < k → isAt s[j] = true) (fun _ i _ _ _ _ _ _ _ _ => s.size - (intOf i).toNat)
  case atStart => exact ⟨0, Nat.zero_le _, rfl, fun j _ hj => by omega⟩
  case round =>
    obtain ⟨k, hk, rfl, hall⟩ := hrel
    have HA := Lib.hid hall
    clear hall
    by_cases hlt : k < s.size
    · cases hx : isAt s[k]
      all_goals
        have HX := Lib.hid hx
        have a1 := isAtomByte_calls s[k]
        rw [hx] at a1
        clear hx
        go_wp2_with (go_at_call 45; refine (a1 _).mono ?_; rintro e w2 ⟨rfl, rfl⟩)
      · go_ret
        exact ⟨ret_bool (atom_no hlt HX.out).symm, rfl⟩
      · go_round
        case rel =>
          refine ⟨k + 1, by omega, by go_num, fun j hj hj' => ?_⟩
          by_cases e : j = k
          · subst e; exact HX.out
          · exact HA.out j hj (by omega)
        case measure => simp [intOf]; omega
    · go_wp2
      go_ret
      exact ⟨ret_bool (atom_yes (by omega) (by omega) fun j hj => HA.out j hj (by omega)).symm, rfl⟩

theorem isAt_no {c : UInt8} (h1 : (c.toNat : Int) < 97 ∨ 122 < (c.toNat : Int)) (h2 : (c.toNat : Int) < 48 ∨ 57 < (c.toNat : Int)) : isAt c = false := by
  unfold isAt
  rw [let_eq, dig_eq]
  simp only [Bool.or_eq_false_iff, Bool.and_eq_false_iff, decide_eq_false_iff_not]
  omega
theorem isAt_yes {c : UInt8} (h : (97 ≤ (c.toNat : Int) ∧ (c.toNat : Int) ≤ 122) ∨ (48 ≤ (c.toNat : Int) ∧ (c.toNat : Int) ≤ 57)) : isAt c = true := by
  unfold isAt
  rw [let_eq, dig_eq]
  simp only [Bool.or_eq_true, Bool.and_eq_true, decide_eq_true_eq]
  omega

set_option maxRecDepth 100000 in
theorem specAtom_calls (s : ByteArray) (hs : s.size ≤ maxLen) (w : World) :
    Calls Tryz.prog 26 #[.string s] w fun e w' => e = .returned (.bool (atomR s.data.toList)) ∧ w = w' := by
  unfold maxLen at hs
  go_enter Tryz.func26, Tryz.ntmps26
  go_wp2
  go_loop [3] (fun i => ∃ k : Nat, k ≤ s.size ∧ i = .int .i64 k ∧ ∀ j (hj : j < s.size), j < k → isAt s[j] = true) (fun i => s.size - (intOf i).toNat)
  case atStart => exact ⟨0, Nat.zero_le _, rfl, fun j _ hj => by omega⟩
  case round =>
    obtain ⟨k, hk, rfl, hall⟩ := hrel
    have HA := Lib.hid hall
    clear hall
    by_cases hlt : k < s.size
    · go_wp2
      all_goals first
        | (go_ret
           refine ⟨ret_bool (atom_no hlt (isAt_no ?_ ?_)).symm, rfl⟩
           all_goals omega)
        | (go_round
           case rel =>
             refine ⟨k + 1, by omega, by go_num, fun j hj hj' => ?_⟩
             by_cases e : j = k
             · subst e; exact isAt_yes (by omega)
             · exact HA.out j hj (by omega)
           case measure => simp [intOf]; omega)
    · have e : k = s.size := by omega
      subst e
      by_cases h1 : s.size < 1
      · have HE := Lib.hid (atom_size (s := s) (.inl h1))
        go_wp2
        all_goals go_ret
        all_goals exact ⟨ret_bool (by first | exact HE.out.symm | (rw [HE.out]; simp; done) | (rw [HE.out]; simp; omega)), rfl⟩
      · by_cases h8 : 8 < s.size
        · have HE := Lib.hid (atom_size (s := s) (.inr h8))
          go_wp2
          all_goals go_ret
          all_goals exact ⟨ret_bool (by first | exact HE.out.symm | (rw [HE.out]; simp; done) | (rw [HE.out]; simp; omega)), rfl⟩
        · have HE := Lib.hid (atom_yes (s := s) (by omega) (by omega) fun j hj => HA.out j hj hj)
          go_wp2
          all_goals go_ret
          all_goals exact ⟨ret_bool (by first | exact HE.out.symm | (rw [HE.out]; simp; done) | (rw [HE.out]; simp; omega)), rfl⟩
end Go.Proofs.YtdikjmhnjlalbaaGreat.atm

/- Small laws of my own: a block of bytes that the call makes by make and fills by copy; join. -/
namespace Go.Proofs.YtdikjmhnjlalbaaGreat.row
open Go.RowKit Go.Proofs.YtdikjmhnjlalbaaGreat.lib
set_option linter.unusedVariables false

def u8s (l : List UInt8) : List Value := l.map fun b => Value.int .u8 b.toNat
/-- Block g holds the bytes l, and no more. -/
def Row (w : World) (g : Nat) (l : List UInt8) : Prop := w.heap[g]? = some (.cells (u8s l).toArray 5 (0, 0))

theorem Row.own {w : World} {g B : Nat} {l : List UInt8} (h : Row w g l) (hB : B ≤ g) (hl : l.length ≤ maxLen) : B8 w B (.slice (some ⟨g, 0, none⟩) l.length l.length) l := by
  refine ⟨by simp, .inr ⟨g, l.length, (u8s l).toArray, rfl, hB, h, Nat.le_refl _, hl, by simp [u8s], ?_⟩⟩
  rw [List.toList_toArray, List.take_of_length_le (by simp [u8s])]
  rfl

section
variable {w : World} {ops : Array Oper} {rest : List Oper} {o : Oper} {a : Act} {Q : Exit → Act → World → Prop}

set_option maxRecDepth 100000 in
theorem wp_make (l c : Operand) (n : Nat) (kl kc : IntKind) (L C : Int) (hgd : o.guard = none) (ho : o.op = Op.makeSlice 101 l c)
    (hl : a.eval l = .int kl L) (hc : a.eval c = .int kc C) (hL : L = (n : Int)) (hC : C = (n : Int)) (hn : n ≤ 281474976710656)
    (h : ∀ w', Row w' w.heap.size (List.replicate n 0) → Below w.heap.size w w' → w'.heap.size = w.heap.size + 1 →
      wpList Tryz.prog ops Q rest (a.put o.dst (.slice (some ⟨w.heap.size, 0, none⟩) n n)) w') : wpList Tryz.prog ops Q (o :: rest) a w := by
  obtain ⟨i0, hi, hz0, hz1, hz2⟩ := info_parts infoE
  refine wpList_plain hgd fun K hK => ?_
  subst hL
  subst hC
  have hrun := run_make (P := Tryz.prog) w 101 5 i0 (.int .u8 0) Tryz.underlying101 hi hz0 kl kc n n (by omega) (by omega) (by rw [hz2]; omega) (by omega)
  simp only [Int.toNat_natCast, hz1, Nat.mul_one] at hrun
  unfold Oper.wp
  simp [execOp, ho, hl, hc, hrun, Result.andThen]
  refine hK _ _ (h _ ?_ ((Below.refl _ _).alloc (Nat.le_refl _) _) (by simp))
  unfold Row
  rw [heap_alloc_new]
  have e : madeCells (Value.int .u8 0).cells n = (u8s (List.replicate n 0)).toArray := by
    apply Array.toList_inj.1
    show (madeCells #[Value.int .u8 0] n).toList = _
    rw [toList_madeCells_one]
    simp [u8s]
  rw [e]

set_option maxRecDepth 100000 in
theorem wp_copyS (d s : Operand) (g off dLen dCap : Nat) (ao : Option Addr) (l : List UInt8) (b : ByteArray) (B : Nat) (hgd : o.guard = none)
    (ho : o.op = .call { callee := .builtin .copy, args := #[d, s], argTypes := #[101, 9] })
    (hd : a.eval d = .slice ao dLen dCap) (hs : a.eval s = .string b) (hao : 0 < b.size → ao = some ⟨g, off, none⟩) (hrow : Row w g l) (hle : b.size ≤ dLen) (hfit : off + b.size ≤ l.length) (hB : B ≤ g)
    (h : ∀ w', Row w' g (l.take off ++ (b.data.toList ++ l.drop (off + b.size))) → Below B w w' → w'.heap.size = w.heap.size → wpList Tryz.prog ops Q rest (a.put o.dst (goInt b.size)) w') :
    wpList Tryz.prog ops Q (o :: rest) a w := by
  have hsz : (Tryz.prog.info? 5).map (·.size) = some 1 := by
    obtain ⟨i0, hi, hz0, hz1, hz2⟩ := info_parts infoE
    rw [hi]
    simpa using hz1
  refine wpList_plain hgd fun K hK => ?_
  by_cases h0 : b.size = 0
  · have hrun := Lib.run_copy_empty_string (P := Tryz.prog) w 101 9 o.type 5 ao dLen dCap b Tryz.underlying101 (by simp [hsz]) h0
    unfold Oper.wp execOp
    simp only [ho, resolve, invoke, builtin, Sem.run_bind, Sem.run_pure, Result.andThen_ok, List.map_toArray, List.map_cons, List.map_nil, hd, hs, hrun]
    have e : b.data.toList = [] := List.eq_nil_of_length_eq_zero (by simpa using h0)
    have := h w (by rw [e, h0]; simpa using hrow) (Below.refl _ _) rfl
    rw [h0] at this
    exact hK _ _ this
  · obtain rfl := hao (by omega)
    have hrun := Lib.run_copy_row_string (P := Tryz.prog) w 101 9 o.type 5 g off dLen dCap b (u8s l).toArray 5 Tryz.underlying101 hsz hrow hle (by simpa [u8s] using hfit)
    unfold Oper.wp execOp
    simp only [ho, resolve, invoke, builtin, Sem.run_bind, Sem.run_pure, Result.andThen_ok, List.map_toArray, List.map_cons, List.map_nil, hd, hs, hrun]
    refine hK _ _ (h _ ?_ (below_setRow (Below.refl _ _) hB _) (by simp))
    unfold Row
    rw [setRow_heap w g _ _ _ _ hrow]
    congr 3
    simp [u8s, Lib.byteCells, List.map_take, List.map_drop]
end

set_option maxRecDepth 100000 in
theorem wp_strRow {w : World} {ops : Array Oper} {rest : List Oper} {o : Oper} {a : Act} {Q : Exit → Act → World → Prop} (x : Operand) (g n : Nat) (l : List UInt8) (hgd : o.guard = none) (ho : o.op = .convert 101 9 x)
    (hs : a.eval x = .slice (some ⟨g, 0, none⟩) n n) (hrow : Row w g l) (hn : l.length = n) (hm : n ≤ 1000000000)
    (h : wpList Tryz.prog ops Q rest (a.put o.dst (.string ⟨l.toArray⟩)) w) : wpList Tryz.prog ops Q (o :: rest) a w := by
  subst hn
  exact wp_str x g _ l hgd ho hs (hrow.own (Nat.le_refl _) (by unfold maxLen; omega)) h

theorem append_data (x y : ByteArray) : (⟨(x.data.toList ++ y.data.toList).toArray⟩ : ByteArray) = x ++ y := by
  apply ByteArray.ext
  apply Array.toList_inj.1
  simp

theorem empty_list : ByteArray.empty.data.toList = [] := rfl

theorem join_one (n : Nat) (x : List UInt8) (k : Nat) (hx : x.length = k) (hn : n = k) :
    (List.replicate n (0 : UInt8)).take 0 ++ (x ++ (List.replicate n (0 : UInt8)).drop (0 + k)) = x := by
  subst hn
  simp

theorem join_two (x y : List UInt8) (k m : Nat) (hx : x.length = k) (hy : y.length = m) :
    ((List.replicate (k + m) (0 : UInt8)).take 0 ++ (x ++ (List.replicate (k + m) (0 : UInt8)).drop (0 + k))).take k ++
      (y ++ ((List.replicate (k + m) (0 : UInt8)).take 0 ++ (x ++ (List.replicate (k + m) (0 : UInt8)).drop (0 + k))).drop (k + m)) = x ++ y := by
  subst hx
  subst hy
  simp

end Go.Proofs.YtdikjmhnjlalbaaGreat.row
