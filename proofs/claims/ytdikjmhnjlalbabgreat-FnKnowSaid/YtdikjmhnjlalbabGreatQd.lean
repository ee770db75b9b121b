/- Several small texts, one behind the other. -/
import Derived.Test.YtdikjmhnjlalbabGreatQc
import Derived.Lib.UnsafeStr
import Derived.Lib.QuietBelow
import Derived.Shelf.Strings.OnBuilder
import Derived.Test.YtdikjmhnjlalbabGreatProg
import Derived.Test.YtdikjmhnjlalbabGreatQa

/- Contracts: strings.Clone. -/
namespace Go.Proofs.YtdikjmhnjlalbabGreat.clo
open Go.RowKit Go.Proofs.YtdikjmhnjlalbabGreat.lib Go.Proofs.YtdikjmhnjlalbabGreat.row
set_option linter.unusedVariables false

theorem clone0 (s : ByteArray) (h : s.size = 0) : s = ByteArray.empty := by
  apply ByteArray.ext
  exact Array.eq_empty_of_size_eq_zero h

set_option maxRecDepth 100000 in
theorem wp_unsafeStr {w : World} {ops : Array Oper} {rest : List Oper} {o : Oper} {a : Act} {Q : Exit → Act → World → Prop} (p n : Operand) (g : Nat) (l : List UInt8) (N : Int) (B : Nat) (hgd : o.guard = none)
    (ho : o.op = .call { callee := .builtin .unsafeString, args := #[p, n], argTypes := #[152, 3] })
    (hp : a.eval p = .pointer (some ⟨g, 0, none⟩)) (hn : a.eval n = .int .i64 N) (hN : N = (l.length : Int)) (h0 : l ≠ []) (hrow : Row w g l) (hm : l.length ≤ 1000000000) (hB : B ≤ g)
    (h : ∀ w', Below B w w' → wpList Tryz.prog ops Q rest (a.put o.dst (.string ⟨l.toArray⟩)) w') : wpList Tryz.prog ops Q (o :: rest) a w := by
  refine wpList_plain hgd fun K hK => ?_
  subst hN
  have hco : Tryz.prog.cellsOf 5 = 1 := by kernel_rfl
  have hrun := Lib.run_unsafeString_row (P := Tryz.prog) w 152 3 o.type 5 Tryz.underlying152 hco g (u8s l).toArray.size (by unfold World.shape?; rw [hrow]) l h0 (by simp [u8s]) (by omega)
    (fun j x hx => by
      have hj : j < l.length := (List.getElem?_eq_some_iff.1 hx).1
      rw [Addr.add_lit, Nat.zero_add, cell_of_row _ g j _ 5 (0, 0) hrow]
      simp [u8s, hx])
  unfold Oper.wp execOp
  simp only [ho, resolve, invoke, builtin, Sem.run_bind, Sem.run_pure, Result.andThen_ok, List.map_toArray, List.map_cons, List.map_nil, hp, hn, hrun]
  exact hK _ _ (h _ (Lib.below_freeze (Below.refl _ _) (p := ⟨g, 0, none⟩) hB _))

set_option maxRecDepth 100000 in
theorem sliteClone_calls (s : ByteArray) (hs : s.size ≤ 1000000) (w : World) :
    Calls Tryz.prog 112 #[.string s] w fun e w' => e = .returned (.string s) ∧ Below w.heap.size w w' := by
  by_cases h0 : s.size = 0
  · obtain rfl := clone0 s h0
    go_enter Tryz.func112, Tryz.ntmps112
    go_wp2
    go_ret
    exact ⟨rfl, Below.refl _ _⟩
  · have hb0 : ((s.size : Int) == 0) = false := by rw [beq_eq_false_iff_ne]; omega
    have hp : 0 < s.size := by omega
    have hne := Lib.hid (show s.data.toList ≠ [] from fun e => h0 (by have := congrArg List.length e; simpa using this))
    clear h0
    go_enter Tryz.func112, Tryz.ntmps112
    go_wp2_with (first
      | (at_make; refine wp_make (.tmp 8) (.tmp 8) s.size .i64 .i64 _ _ rfl rfl rfl rfl rfl rfl (by omega) ?_; intro w1 hr1 hb1 hz1)
      | (refine wp_copyS (.tmp 10) (.tmp 11) w.heap.size 0 _ _ _ _ s w.heap.size rfl rfl rfl rfl (fun _ => rfl) hr1 (by omega) (by simp) (Nat.le_refl _) ?_; intro w2 hr2 hb2 hz2; rw [join_one s.size s.data.toList s.size (by simp) rfl] at hr2)
      | (refine wp_unsafeStr (.tmp 14) (.tmp 16) w.heap.size s.data.toList _ w.heap.size rfl rfl rfl rfl (by simp) hne.out hr2 (by simp; omega) (Nat.le_refl _) ?_; intro w3 hb3))
    go_ret
    exact ⟨ret_str (by simp), hb1.trans (hb2.trans hb3)⟩

theorem clone_calls (s : ByteArray) (hs : s.size ≤ 1000000) (w : World) :
    Calls Tryz.prog 104 #[.string s] w fun e w' => e = .returned (.string s) ∧ Below w.heap.size w w' := by
  go_enter Tryz.func104, Tryz.ntmps104
  go_wp2_with (go_at_call 112; refine (sliteClone_calls s hs _).mono ?_; rintro e w1 ⟨rfl, hb1⟩)
  go_ret
  exact ⟨rfl, hb1⟩

/-- A block of three cells, as the walk wants it told. -/
theorem three_cells {w : World} {g : Nat} {x y z : Value} {t : TypeId} (h : w.heap[g]? = some (.cells #[x, y, z] t (0, 0))) :
    w.cell? ⟨g, 0, none⟩ = some x ∧ w.cell? ⟨g, 1, none⟩ = some y ∧ w.cell? ⟨g, 2, none⟩ = some z ∧ w.frozen? ⟨g, 0, none⟩ = false ∧ w.frozen? ⟨g, 1, none⟩ = false ∧ w.frozen? ⟨g, 2, none⟩ = false :=
  ⟨by rw [cell_of_row w g 0 _ t (0, 0) h]; rfl, by rw [cell_of_row w g 1 _ t (0, 0) h]; rfl, by rw [cell_of_row w g 2 _ t (0, 0) h]; rfl,
    frozen_of_row w g 0 _ t h, frozen_of_row w g 1 _ t h, frozen_of_row w g 2 _ t h⟩

theorem new_kept {w w2 : World} {o : Obj} (h : Below (w.alloc o).heap.size (w.alloc o) w2) : w2.heap[w.heap.size]? = some o := by
  rw [h.block w.heap.size (by simp)]
  exact heap_alloc_new w o
end Go.Proofs.YtdikjmhnjlalbabGreat.clo

/- The library's contract of strings.Join, laid at this program. -/
namespace Go.Proofs.YtdikjmhnjlalbabGreat.shj
open Go.Shelf
def ren156 : Go.Shelf.Ren := ⟨fun | 156 => 93 | 165 => 105 | 166 => 106 | 169 => 107 | 240 => 113 | 241 => 114 | 276 => 117 | 277 => 118 | n => n, fun | 31 => 23 | 9 => 9 | 3 => 3 | 4 => 4 | 0 => 0 | 20 => 20 | 72 => 132 | 76 => 136 | 70 => 130 | 37 => 22 | 75 => 135 | 127 => 152 | 164 => 155 | 5 => 5 | 80 => 68 | n => n, fun | n => n⟩
theorem lays156 : Go.Proofs.Lays.n156 Tryz.prog ren156 := {
  mixed := by kernel_rfl
  f156 := Tryz.func93.trans (congrArg some (by kernel_rfl))
  f165 := Tryz.func105.trans (congrArg some (by kernel_rfl))
  f166 := Tryz.func106.trans (congrArg some (by kernel_rfl))
  f169 := Tryz.func107.trans (congrArg some (by kernel_rfl))
  f240 := Tryz.func113.trans (congrArg some (by kernel_rfl))
  f241 := Tryz.func114.trans (congrArg some (by kernel_rfl))
  f276 := Tryz.func117.trans (congrArg some (by kernel_rfl))
  f277 := Tryz.func118.trans (congrArg some (by kernel_rfl))
  t0 := Tryz.underlying0
  a0 := Tryz.isAgg0
  z0 := Tryz.sizeOf0
  v0 := Tryz.zeroValue0
  t3 := Tryz.underlying3
  a3 := Tryz.isAgg3
  z3 := Tryz.sizeOf3
  v3 := Tryz.zeroValue3
  t4 := Tryz.underlying4
  a4 := Tryz.isAgg4
  z4 := Tryz.sizeOf4
  v4 := Tryz.zeroValue4
  t9 := Tryz.underlying9
  a9 := Tryz.isAgg9
  z9 := Tryz.sizeOf9
  v9 := Tryz.zeroValue9
  t20 := Tryz.underlying20
  a20 := Tryz.isAgg20
  z20 := Tryz.sizeOf20
  v20 := Tryz.zeroValue20
  t31 := Tryz.underlying23
  a31 := Tryz.isAgg23
  z31 := Tryz.sizeOf23
  v31 := Tryz.zeroValue23
  t37 := Tryz.underlying22
  a37 := Tryz.isAgg22
  z37 := Tryz.sizeOf22
  v37 := Tryz.zeroValue22
  t70 := Tryz.underlying130
  a70 := Tryz.isAgg130
  z70 := Tryz.sizeOf130
  v70 := Tryz.zeroValue130
  t72 := Tryz.underlying132
  a72 := Tryz.isAgg132
  z72 := Tryz.sizeOf132
  v72 := Tryz.zeroValue132
  t75 := Tryz.underlying135
  a75 := Tryz.isAgg135
  z75 := Tryz.sizeOf135
  v75 := Tryz.zeroValue135
  t76 := Tryz.underlying136
  a76 := Tryz.isAgg136
  z76 := Tryz.sizeOf136
  v76 := Tryz.zeroValue136
  t127 := Tryz.underlying152
  a127 := Tryz.isAgg152
  z127 := Tryz.sizeOf152
  v127 := Tryz.zeroValue152
  t164 := Tryz.underlying155
  a164 := Tryz.isAgg155
  z164 := Tryz.sizeOf155
  v164 := Tryz.zeroValue155 }
theorem extra156 : Builder.Extra Tryz.prog ren156 := {
  sizeBuilder := by kernel_rfl
  liesBuilder := by kernel_rfl
  t5 := Tryz.underlying5
  a5 := Tryz.isAgg5
  z5 := Tryz.sizeOf5
  v5 := Tryz.zeroValue5
  infoByte := by kernel_rfl
  cellsByte := by kernel_rfl
  sizeByte := by kernel_rfl
  neB5 := by decide }

theorem join_none (a : Option Addr) (c : Nat) (sep : ByteArray) (w : World) :
    Calls Tryz.prog 93 #[.slice a 0 c, .string sep] w fun e w' => e = .returned (.string ⟨#[]⟩) ∧ w' = w := Any.strings_Join_none lays156 extra156 a c sep w
open Go.RowKit in
theorem join_some (bk o c : Nat) (xs : List ByteArray) (sep : ByteArray) (w : World) (hcells : ∀ (j : Nat) x, xs[j]? = some x → w.cell? ⟨bk, o + j, none⟩ = some (.string x)) (hbk : bk < w.heap.size) (hN : xs.length ≤ 140737488355328) (hcap : xs.length ≤ c) (hlen : (Lib.join (xs.map (·.data.toList)) sep.data.toList).length ≤ 140737488355328) :
    Calls Tryz.prog 93 #[.slice (some ⟨bk, o, none⟩) xs.length c, .string sep] w fun e w' => e = .returned (.string ⟨(Lib.join (xs.map (·.data.toList)) sep.data.toList).toArray⟩) ∧ Below w.heap.size w w' := Any.strings_Join lays156 extra156 bk o c xs sep w hcells hbk hN hcap hlen
end Go.Proofs.YtdikjmhnjlalbabGreat.shj

/- The pieces between brackets, as the model's l02Args finds them; how deep a text is, as its l02Deep says: as plain functions, held against the plain reader. -/
namespace Go.Proofs.YtdikjmhnjlalbabGreat.spm
open Go Go.Proofs.YtdikjmhnjlalbabGreat.tm
set_option linter.unusedVariables false

def turn (c : UInt8) (d : Int) : Int := if c = 91 then d + 1 else if c = 93 then d - 1 else d

def sp : Bs → Int → Bs → Option (List Bs)
  | [], _, _ => some []
  | c :: l, d, cur =>
    if l = [] then (if turn c d = -1 then some [cur] else none)
    else if turn c d < 0 then none
    else if turn c d = 0 ∧ c = 32 then (sp l (turn c d) []).map (cur :: ·)
    else sp l (turn c d) (cur ++ [c])

def args (t : Bs) : Option (List Bs) := if t.length < 2 ∨ t.head? ≠ some 91 ∨ t.getLast? ≠ some 93 then none else sp t.tail 0 []

theorem sp_out : ∀ (l : Bs) (d : Int) (cur : Bs) (out : List Bs), l.getLast? = some 93 → sp l d cur = some out → ∃ a ks, out = a :: ks ∧ cur ++ l = a ++ (ks.flatMap (32 :: ·) ++ [93])
  | [], d, cur, out, h, _ => by simp at h
  | c :: l, d, cur, out, h, hs => by
    rw [sp] at hs
    by_cases hl : l = []
    · subst hl
      rw [if_pos rfl] at hs
      split at hs
      · simp only [Option.some.injEq] at hs
        simp at h
        exact ⟨cur, [], hs.symm, by simp [h]⟩
      · cases hs
    · rw [if_neg hl] at hs
      have h' : l.getLast? = some 93 := by
        rw [List.getLast?_cons] at h
        cases hq : l.getLast? with
        | none => exact absurd (List.getLast?_eq_none_iff.1 hq) hl
        | some x => rw [hq] at h; simpa using h
      split at hs
      · cases hs
      · split at hs
        · rename_i h32
          cases hz : sp l (turn c d) [] with
          | none => rw [hz] at hs; cases hs
          | some out' =>
            rw [hz] at hs
            simp only [Option.map_some, Option.some.injEq] at hs
            obtain ⟨a, ks, e1, e2⟩ := sp_out l _ _ _ h' hz
            refine ⟨cur, out', hs.symm, ?_⟩
            rw [e1, h32.2]
            simp only [List.nil_append] at e2
            rw [e2]
            simp
        · obtain ⟨a, ks, e1, e2⟩ := sp_out l _ _ _ h' hs
          exact ⟨a, ks, e1, by rw [← e2]; simp⟩

theorem args_say {t : Bs} {a : List Bs} (h : args t = some a) : ∃ op ks, a = op :: ks ∧ t = say op ks := by
  unfold args at h
  split at h
  · cases h
  · rename_i hc
    simp only [not_or, Nat.not_lt, ne_eq, Decidable.not_not] at hc
    obtain ⟨h1, h2, h3⟩ := hc
    obtain ⟨l, rfl⟩ : ∃ l, t = 91 :: l := by cases t <;> simp at h2; subst h2; exact ⟨_, rfl⟩
    have hl : l.getLast? = some 93 := by
      rw [List.getLast?_cons] at h3
      cases hq : l.getLast? with
      | none => rw [hq] at h3; simp at h3
      | some x => rw [hq] at h3; simpa using h3
    obtain ⟨op, ks, e1, e2⟩ := sp_out l 0 [] a hl h
    exact ⟨op, ks, e1, by unfold say; rw [← e2]; simp⟩

theorem turn_at {c : UInt8} (h : isAt c = true) (d : Int) : turn c d = d ∧ c ≠ 32 := by
  have h1 : c ≠ 91 := by rintro rfl; revert h; decide
  have h2 : c ≠ 93 := by rintro rfl; revert h; decide
  exact ⟨by simp [turn, h1, h2], by rintro rfl; revert h; decide⟩

theorem sp_step {c : UInt8} {l : Bs} {d : Int} {cur : Bs} (hl : l ≠ []) (h0 : ¬ turn c d < 0) (h32 : ¬ (turn c d = 0 ∧ c = 32)) : sp (c :: l) d cur = sp l (turn c d) (cur ++ [c]) := by
  rw [sp, if_neg hl, if_neg h0, if_neg h32]

theorem sp_word : ∀ (a r : Bs) (d : Int) (cur : Bs), a.all isAt = true → r ≠ [] → 0 ≤ d → sp (a ++ r) d cur = sp r d (cur ++ a)
  | [], r, d, cur, _, _, _ => by simp
  | c :: a, r, d, cur, ha, hr, hd => by
    simp only [List.all_cons, Bool.and_eq_true] at ha
    obtain ⟨h1, h2⟩ := turn_at ha.1 d
    rw [List.cons_append, sp_step (by simp [hr]) (by rw [h1]; omega) (fun h => h2 h.2), h1, sp_word a r d _ ha.2 hr hd]
    simp

/-- A text that leaves no mark: what it holds is taken whole. -/
def Whole (x : Bs) : Prop := ∀ (r : Bs) (d : Int) (cur : Bs), r ≠ [] → 0 ≤ d → sp (x ++ r) d cur = sp r d (cur ++ x)

theorem sp_kids : ∀ (ks : List Bs) (r : Bs) (d : Int) (cur : Bs), (∀ k ∈ ks, Whole k) → r ≠ [] → 1 ≤ d → sp (ks.flatMap (32 :: ·) ++ r) d cur = sp r d (cur ++ ks.flatMap (32 :: ·))
  | [], r, d, cur, _, _, _ => by simp
  | k :: ks, r, d, cur, hk, hr, hd => by
    have ht : turn 32 d = d := by simp [turn]
    simp only [List.flatMap_cons, List.cons_append, List.append_assoc]
    rw [sp_step (by simp [hr]) (by rw [ht]; omega) (by rw [ht]; omega), ht, hk k (by simp) _ _ _ (by simp [hr]) (by omega), sp_kids ks r d _ (fun k' h' => hk k' (by simp [h'])) hr hd]
    simp

theorem whole_say (op : Bs) (ks : List Bs) (hop : op.all isAt = true) (hk : ∀ k ∈ ks, Whole k) : Whole (say op ks) := by
  intro r d cur hr hd
  have t1 : turn 91 d = d + 1 := by simp [turn]
  have t2 : turn 93 (d + 1) = d := by simp [turn]
  unfold say
  simp only [List.cons_append, List.append_assoc]
  rw [sp_step (by simp) (by rw [t1]; omega) (by rw [t1]; omega), t1, sp_word op _ _ _ hop (by simp) (by omega), sp_kids ks _ _ _ hk (by simp) (by omega)]
  simp only [List.nil_append]
  rw [sp_step hr (by rw [t2]; omega) (by simp), t2]
  simp

theorem whole_tx : ∀ (T : Tm), T.ok → Whole T.tx
  | .atom a, h => fun r d cur hr hd => sp_word a r d cur (atomR_all h) hr hd
  | .pair x y, h => whole_say _ _ (by decide) (by intro k hk; simp at hk; rcases hk with rfl | rfl; exact whole_tx x h.1; exact whole_tx y h.2)
  | .hash x, h => whole_say _ _ (by decide) (by intro k hk; simp at hk; subst hk; exact whole_tx x h)
  | .mac x y, h => whole_say _ _ (by decide) (by intro k hk; simp at hk; rcases hk with rfl | rfl; exact whole_tx x h.1; exact whole_tx y h.2)
  | .shut x y, h => whole_say _ _ (by decide) (by intro k hk; simp at hk; rcases hk with rfl | rfl; exact whole_tx x h.1; exact whole_tx y h.2)
  | .pub a, h => whole_say _ _ (by decide) (by intro k hk; simp at hk; subst hk; exact fun r d cur hr hd => sp_word k r d cur (atomR_all h) hr hd)
  | .dh a b, h => whole_say _ _ (by decide) (by intro k hk; simp at hk; rcases hk with rfl | rfl; exact fun r d cur hr hd => sp_word k r d cur (atomR_all h.1) hr hd; exact fun r d cur hr hd => sp_word k r d cur (atomR_all h.2.1) hr hd)

theorem sp_top : ∀ (ks : List Bs) (cur : Bs), (∀ k ∈ ks, Whole k) → sp (ks.flatMap (32 :: ·) ++ [93]) 0 cur = some (cur :: ks)
  | [], cur, _ => by simp [sp, turn]
  | k :: ks, cur, hk => by
    have ht : turn 32 0 = 0 := by simp [turn]
    simp only [List.flatMap_cons, List.cons_append, List.append_assoc]
    rw [sp, if_neg (by simp), ht, if_neg (by omega), if_pos ⟨rfl, rfl⟩, hk k (by simp) _ _ _ (by simp) (by omega), List.nil_append, sp_top ks k (fun k' h' => hk k' (by simp [h']))]
    rfl

theorem args_of {op : Bs} {ks : List Bs} (hop : op.all isAt = true) (hk : ∀ k ∈ ks, Whole k) : args (say op ks) = some (op :: ks) := by
  have hl : (say op ks).length < 2 ∨ (say op ks).head? ≠ some 91 ∨ (say op ks).getLast? ≠ some 93 → False := by
    intro h
    rcases h with h | h | h
    · unfold say at h; simp at h; omega
    · simp [say] at h
    · apply h
      unfold say
      rw [← List.append_assoc, ← List.cons_append, List.getLast?_append]
      rfl
  unfold args
  rw [if_neg hl]
  unfold say
  rw [List.tail_cons, sp_word op _ _ _ hop (by simp) (by omega), sp_top ks _ hk]
  simp

theorem args_tx {T : Tm} (hT : T.ok) (h : T.isAtom = false) : args T.tx = some (T.op :: T.kids.map Tm.tx) := by
  rw [tx_say T h]
  refine args_of (op_all T) ?_
  intro k hk
  obtain ⟨K, hK, rfl⟩ := List.mem_map.1 hk
  exact whole_tx K (kid_ok hT hK)

/-! ### how deep -/

def mk (n : Nat) (op : Bs) (ks : List Bs) : Option Tm :=
  match ks.mapM (pz n) with
  | none => none
  | some Ts => build op Ts

theorem mapM_tx (n : Nat) : ∀ (Ts : List Tm), (∀ T ∈ Ts, T.ok ∧ T.deep ≤ n) → (Ts.map Tm.tx).mapM (pz n) = some Ts
  | [], _ => rfl
  | T :: Ts, h => by
    have h1 : pz n T.tx = some T := pz_some.2 ⟨(h T (by simp)).1, (h T (by simp)).2, rfl⟩
    rw [List.map_cons, List.mapM_cons, h1, mapM_tx n Ts fun t ht => h t (by simp [ht])]
    rfl

theorem mapM_out (n : Nat) : ∀ (ks : List Bs) (Ts : List Tm), ks.mapM (pz n) = some Ts → ks = Ts.map Tm.tx ∧ ∀ T ∈ Ts, T.ok ∧ T.deep ≤ n
  | [], Ts, h => by simp at h; subst h; simp
  | k :: ks, Ts, h => by
    rw [List.mapM_cons] at h
    cases h1 : pz n k with
    | none => rw [h1] at h; cases h
    | some T =>
      cases h2 : ks.mapM (pz n) with
      | none => rw [h1, h2] at h; cases h
      | some Us =>
        rw [h1, h2] at h
        cases h
        obtain ⟨a, b, c⟩ := pz_some.1 h1
        obtain ⟨e, f⟩ := mapM_out n ks Us h2
        refine ⟨by rw [List.map_cons, c, e], ?_⟩
        intro T' hT'
        rcases List.mem_cons.1 hT' with rfl | hT'
        · exact ⟨a, b⟩
        · exact f _ hT'

theorem pz_node {t : Bs} {n : Nat} {T : Tm} (ha : atomR t = false) (h : pz n t = some T) : T.isAtom = false := by
  cases hT : T.isAtom with
  | false => rfl
  | true =>
    obtain ⟨a, _, c⟩ := pz_some.1 h
    match T, hT, a, c with
    | .atom x, _, a, c =>
      have : atomR x = true := a
      rw [show x = t from c, ha] at this
      cases this

theorem pz_none_args {t : Bs} {n : Nat} (ha : atomR t = false) (h : args t = none) : pz n t = none := by
  cases hp : pz n t with
  | none => rfl
  | some T =>
    obtain ⟨a, _, c⟩ := pz_some.1 hp
    have := args_tx a (pz_node ha hp)
    rw [c, h] at this
    cases this

theorem node_deep {T : Tm} (h : T.isAtom = false) : 2 ≤ T.deep := by
  cases T <;> first | (simp [Tm.isAtom] at h; done) | skip
  all_goals simp [Tm.deep]
  all_goals first | (rename_i x y; have := deep_pos x; have := deep_pos y; omega) | (rename_i x; have := deep_pos x; omega)

theorem pz_one {t : Bs} (ha : atomR t = false) : pz 1 t = none := by
  cases hp : pz 1 t with
  | none => rfl
  | some T =>
    have := node_deep (pz_node ha hp)
    have := (pz_some.1 hp).2.1
    omega

theorem pz_succ {t : Bs} {n : Nat} {op : Bs} {ks : List Bs} (ha : atomR t = false) (h : args t = some (op :: ks)) : pz (n + 1) t = mk n op ks := by
  have h1 : ∀ T, pz (n + 1) t = some T → mk n op ks = some T := by
    intro T hT
    have hn := pz_node ha hT
    obtain ⟨a, b, c⟩ := pz_some.1 hT
    have e := args_tx a hn
    rw [c, h] at e
    simp only [Option.some.injEq, List.cons.injEq] at e
    obtain ⟨e1, e2⟩ := e
    unfold mk
    rw [e2, mapM_tx n T.kids fun k hk => ⟨kid_ok a hk, by have := kid_deep hk; omega⟩]
    show build op T.kids = some T
    rw [e1]
    exact build_of T hn ((ok_iff T hn).1 a).2
  have h2 : ∀ T, mk n op ks = some T → pz (n + 1) t = some T := by
    intro T hT
    unfold mk at hT
    cases hm : ks.mapM (pz n) with
    | none => rw [hm] at hT; cases hT
    | some Ts =>
      rw [hm] at hT
      obtain ⟨b1, b2, b3, b4⟩ := build_some (show build op Ts = some T from hT)
      obtain ⟨e, f⟩ := mapM_out n ks Ts hm
      obtain ⟨op', ks', e1, e2⟩ := args_say h
      cases e1
      refine pz_some.2 ⟨(ok_iff T b1).2 ⟨fun k hk => (f k (b3 ▸ hk)).1, b4⟩, ?_, ?_⟩
      · rw [deep_kids T b1, b3]
        have : ∀ (ks : List Tm) m, m ≤ n → (∀ k ∈ ks, k.deep ≤ n) → ks.foldl (fun m k => max m k.deep) m ≤ n := by
          intro ks
          induction ks with
          | nil => intro m hm _; simpa using hm
          | cons a ks ih => intro m hm hk; exact ih _ (by have := hk a (by simp); show max m a.deep ≤ n; omega) (fun k hk' => hk k (by simp [hk']))
        have := this Ts 0 (Nat.zero_le _) (fun k hk => (f k hk).2)
        omega
      · rw [tx_say T b1, b2, b3, e2, e]
  cases hp : pz (n + 1) t with
  | some T => exact (h1 T hp).symm
  | none =>
    cases hm : mk n op ks with
    | none => rfl
    | some T => rw [h2 T hm] at hp; cases hp

def dz (n : Nat) (t : Bs) : Nat := match pz n t with | some T => T.deep | none => 0

theorem dz_some {n : Nat} {t : Bs} {T : Tm} (h : pz n t = some T) : dz n t = T.deep := by unfold dz; rw [h]
theorem dz_none {n : Nat} {t : Bs} (h : pz n t = none) : dz n t = 0 := by unfold dz; rw [h]
theorem dz_zero {n : Nat} {t : Bs} (h : dz n t = 0) : pz n t = none := by
  cases hp : pz n t with
  | none => rfl
  | some T => rw [dz_some hp] at h; have := deep_pos T; omega
theorem dz_pos {n : Nat} {t : Bs} (h : dz n t ≠ 0) : ∃ T, pz n t = some T ∧ dz n t = T.deep := by
  cases hp : pz n t with
  | none => exact absurd (dz_none hp) h
  | some T => exact ⟨T, rfl, dz_some hp⟩
theorem dz_le (n : Nat) (t : Bs) : dz n t ≤ n := by
  unfold dz
  cases hp : pz n t with
  | none => exact Nat.zero_le _
  | some T => exact (pz_some.1 hp).2.1

def many (op : Bs) : Nat := if op = oPair ∨ op = oMac ∨ op = oShut ∨ op = oDh then 2 else if op = oHash ∨ op = oPub then 1 else 0
def secret (op : Bs) : Bool := decide (op = oPub) || decide (op = oDh)

theorem build_many {op : Bs} {Ts : List Tm} {T : Tm} (h : build op Ts = some T) : many op = Ts.length ∧ many op ≠ 0 := by
  obtain ⟨b1, b2, b3, b4⟩ := build_some h
  subst b2
  subst b3
  cases T <;> first | (simp [Tm.isAtom] at b1; done) | (simp [many, Tm.op, Tm.kids, oPair, oHash, oMac, oShut, oPub, oDh])

theorem mapM_length (n : Nat) {ks : List Bs} {Ts : List Tm} (h : ks.mapM (pz n) = some Ts) : Ts.length = ks.length := by
  have := (mapM_out n ks Ts h).1
  rw [this]; simp

theorem mk_many {n : Nat} {op : Bs} {ks : List Bs} (h : many op = 0 ∨ ks.length ≠ many op) : mk n op ks = none := by
  unfold mk
  cases hm : ks.mapM (pz n) with
  | none => rfl
  | some Ts =>
    show build op Ts = none
    cases hb : build op Ts with
    | none => rfl
    | some T =>
      have h1 := build_many hb
      have h2 := mapM_length n hm
      omega

theorem mk_zero {n : Nat} {op : Bs} {ks : List Bs} {x : Bs} (hx : x ∈ ks) (h : dz n x = 0) : mk n op ks = none := by
  unfold mk
  cases hm : ks.mapM (pz n) with
  | none => rfl
  | some Ts =>
    obtain ⟨e, f⟩ := mapM_out n ks Ts hm
    rw [e] at hx
    obtain ⟨T, hT, rfl⟩ := List.mem_map.1 hx
    have := pz_some.2 ⟨(f T hT).1, (f T hT).2, rfl⟩
    rw [dz_zero h] at this
    cases this

theorem one_atom {T : Tm} (h : T.deep = 1) : ∃ a, T = .atom a := by
  cases hT : T.isAtom with
  | false => have := node_deep hT; omega
  | true => cases T <;> first | exact ⟨_, rfl⟩ | (simp [Tm.isAtom] at hT)

theorem mk_one {n : Nat} {op x : Bs} {X : Tm} (h : pz n x = some X) : mk n op [x] = build op [X] := by
  unfold mk
  simp [h]
theorem mk_two {n : Nat} {op x y : Bs} {X Y : Tm} (h : pz n x = some X) (k : pz n y = some Y) : mk n op [x, y] = build op [X, Y] := by
  unfold mk
  simp [h, k]

theorem mk_hash {n : Nat} {x : Bs} (h : dz n x ≠ 0) : ∃ T, mk n oHash [x] = some T ∧ T.deep = dz n x + 1 := by
  obtain ⟨X, h1, h2⟩ := dz_pos h
  rw [mk_one h1, h2]
  exact ⟨_, rfl, rfl⟩
theorem mk_pub_yes {n : Nat} {x : Bs} (h : dz n x = 1) : ∃ T, mk n oPub [x] = some T ∧ T.deep = 2 := by
  obtain ⟨X, h1, h2⟩ := dz_pos (n := n) (t := x) (by omega)
  obtain ⟨a, rfl⟩ := one_atom (show X.deep = 1 by omega)
  rw [mk_one h1]
  exact ⟨_, rfl, rfl⟩
theorem deep_node {T : Tm} (h : 2 ≤ T.deep) : T.isAtom = false := by cases T <;> first | rfl | (simp [Tm.deep] at h)
theorem mk_pub_no {n : Nat} {x : Bs} (h : 2 ≤ dz n x) : mk n oPub [x] = none := by
  obtain ⟨X, h1, h2⟩ := dz_pos (n := n) (t := x) (by omega)
  rw [mk_one h1]
  have hn := deep_node (show 2 ≤ X.deep by omega)
  cases X <;> first | (simp [Tm.isAtom] at hn; done) | rfl
theorem mk_pms {n : Nat} {op x y : Bs} (hop : op = oPair ∨ op = oMac ∨ op = oShut) (h : dz n x ≠ 0) (k : dz n y ≠ 0) : ∃ T, mk n op [x, y] = some T ∧ T.deep = max (dz n x) (dz n y) + 1 := by
  obtain ⟨X, h1, h2⟩ := dz_pos h
  obtain ⟨Y, k1, k2⟩ := dz_pos k
  rw [mk_two h1 k1, h2, k2]
  rcases hop with rfl | rfl | rfl <;> exact ⟨_, rfl, rfl⟩
theorem mk_dh {n : Nat} {x y : Bs} (h : dz n x = 1) (k : dz n y = 1) : (gt x y = false → ∃ T, mk n oDh [x, y] = some T ∧ T.deep = 2) ∧ (gt x y = true → mk n oDh [x, y] = none) := by
  obtain ⟨X, h1, h2⟩ := dz_pos (n := n) (t := x) (by omega)
  obtain ⟨Y, k1, k2⟩ := dz_pos (n := n) (t := y) (by omega)
  obtain ⟨a, rfl⟩ := one_atom (show X.deep = 1 by omega)
  obtain ⟨b, rfl⟩ := one_atom (show Y.deep = 1 by omega)
  obtain rfl : a = x := (pz_some.1 h1).2.2
  obtain rfl : b = y := (pz_some.1 k1).2.2
  rw [mk_two h1 k1]
  refine ⟨fun hg => ⟨.dh a b, ?_, rfl⟩, fun hg => ?_⟩
  · simp [build, oDh, oPub, oShut, oMac, oHash, oPair, hg]
  · simp [build, oDh, oPub, oShut, oMac, oHash, oPair, hg]
theorem mk_dh_no {n : Nat} {x y : Bs} (h : 2 ≤ dz n x ∨ 2 ≤ dz n y) : mk n oDh [x, y] = none := by
  by_cases hx : dz n x = 0
  · exact mk_zero (x := x) (by simp) hx
  by_cases hy : dz n y = 0
  · exact mk_zero (x := y) (by simp) hy
  obtain ⟨X, h1, h2⟩ := dz_pos hx
  obtain ⟨Y, k1, k2⟩ := dz_pos hy
  rw [mk_two h1 k1]
  cases hb : build oDh [X, Y] with
  | none => rfl
  | some T =>
    obtain ⟨b1, b2, b3, b4⟩ := build_some hb
    cases T <;> first | (simp [Tm.op, oDh, oPair, oHash, oMac, oShut, oPub] at b2; done) | skip
    simp [Tm.kids] at b3
    obtain ⟨rfl, rfl⟩ := b3
    simp [Tm.deep] at h2 k2
    omega

theorem dz_mk_none {n : Nat} {t op : Bs} {ks : List Bs} (ha : atomR t = false) (h : args t = some (op :: ks)) (hm : mk n op ks = none) : dz (n + 1) t = 0 := dz_none (by rw [pz_succ ha h, hm])
theorem dz_mk_some {n : Nat} {t op : Bs} {ks : List Bs} {k : Nat} (ha : atomR t = false) (h : args t = some (op :: ks)) (hm : ∃ T, mk n op ks = some T ∧ T.deep = k) : dz (n + 1) t = k := by
  obtain ⟨T, h1, h2⟩ := hm
  rw [dz_some (by rw [pz_succ ha h, h1]), h2]
theorem many_cases (op : Bs) : many op = 0 ∨ (many op = 1 ∧ (op = oHash ∨ op = oPub)) ∨ (many op = 2 ∧ (op = oPair ∨ op = oMac ∨ op = oShut ∨ op = oDh)) := by
  unfold many
  split
  · right; right; exact ⟨rfl, by assumption⟩
  · split
    · right; left; exact ⟨rfl, by assumption⟩
    · left; rfl
end Go.Proofs.YtdikjmhnjlalbabGreat.spm
