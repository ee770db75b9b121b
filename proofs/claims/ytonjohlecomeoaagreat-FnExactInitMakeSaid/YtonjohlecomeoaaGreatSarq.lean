/- Contract of the model's l02Args: it finds the pieces that the plain function args finds. -/
import Derived.Test.YtonjohlecomeoaaGreatQa
import Derived.Test.YtonjohlecomeoaaGreatQc
namespace Go.Proofs.YtonjohlecomeoaaGreat.sar
open Go.RowKit Go.Proofs.YtonjohlecomeoaaGreat.tm Go.Proofs.YtonjohlecomeoaaGreat.lib Go.Proofs.YtonjohlecomeoaaGreat.rdr Go.Proofs.YtonjohlecomeoaaGreat.bld Go.Proofs.YtonjohlecomeoaaGreat.app Go.Proofs.YtonjohlecomeoaaGreat.spm
set_option linter.unusedVariables false

/-- t[f:k], as bytes. -/
def piece (s : ByteArray) (f k : Nat) : Bs := (s.data.toList.take k).drop f

theorem piece_snoc (s : ByteArray) (f k : Nat) (hf : f ≤ k) (h : k < s.size) : piece s f (k + 1) = piece s f k ++ [s[k]] := by
  have h' : k < s.data.toList.length := by simpa using h
  unfold piece
  rw [List.take_succ_eq_append_getElem h', List.drop_append_of_le_length (by rw [List.length_take]; omega)]
  rfl
theorem piece_nil (s : ByteArray) (k : Nat) : piece s k k = [] := by
  unfold piece
  exact List.drop_of_length_le (by rw [List.length_take]; omega)
theorem piece_cut (s : ByteArray) (f k : Nat) (hf : f ≤ k) (hk : k ≤ s.size) : s.extract f k = ⟨(piece s f k).toArray⟩ := by
  apply ByteArray.ext
  apply Array.ext'
  rw [ByteArray.data_extract]
  simp only [Array.toList_extract]
  show List.extract s.data.toList f k = _
  rw [List.extract_eq_take_drop]
  unfold piece
  rw [List.drop_take]

def more (out : List Bs) : Option (List Bs) → Option (List Bs)
  | none => none
  | some r => some (out ++ r)

structure Loop (s : ByteArray) (B : Nat) (w wr : World) (v : Value) (d : Int) (f k : Nat) (out : List Bs) : Prop where
  le : k ≤ s.size
  one : 1 ≤ f
  fk : f ≤ k
  lo : -(k : Int) ≤ d
  hi : d ≤ k
  below : Below B w wr
  own : Strs wr B v out
  told : args s.data.toList = more out (sp (s.data.toList.drop k) d (piece s f k))
  few : out.length ≤ k

theorem last_iff (s : ByteArray) (k : Nat) (h : k < s.size) : (s.data.toList.drop (k + 1) = []) ↔ k + 1 = s.size := by
  rw [List.drop_eq_nil_iff]
  show s.size ≤ k + 1 ↔ _
  omega

/-- What sp does at a byte. -/
theorem sp_at (s : ByteArray) (f k : Nat) (d : Int) (h : k < s.size) : sp (s.data.toList.drop k) d (piece s f k) =
    if k + 1 = s.size then (if turn s[k] d = -1 then some [piece s f k] else none)
    else if turn s[k] d < 0 then none
    else if turn s[k] d = 0 ∧ s[k] = 32 then (sp (s.data.toList.drop (k + 1)) (turn s[k] d) []).map (piece s f k :: ·)
    else sp (s.data.toList.drop (k + 1)) (turn s[k] d) (piece s f k ++ [s[k]]) := by
  rw [drop_lt s k h, sp]
  simp only [last_iff s k h]

theorem more_none {out : List Bs} : more out none = none := rfl
theorem more_map (out : List Bs) (p : Bs) (o : Option (List Bs)) : more out (o.map (p :: ·)) = more (out ++ [p]) o := by
  cases o <;> simp [more]

theorem turn_bd (c : UInt8) (d : Int) : d - 1 ≤ turn c d ∧ turn c d ≤ d + 1 := by
  unfold turn
  split
  · omega
  · split <;> omega

section
variable {s : ByteArray} {B : Nat} {w wr : World} {v : Value} {d : Int} {f k : Nat} {out : List Bs}

theorem Loop.none (L : Loop s B w wr v d f k out) (hlt : k < s.size) (h : (k + 1 = s.size ∧ turn s[k] d ≠ -1) ∨ (k + 1 ≠ s.size ∧ turn s[k] d < 0)) : args s.data.toList = none := by
  rw [L.told, sp_at s f k d hlt]
  rcases h with ⟨h1, h2⟩ | ⟨h1, h2⟩
  · rw [if_pos h1, if_neg h2]; rfl
  · rw [if_neg h1, if_pos h2]; rfl

theorem Loop.put (L : Loop s B w wr v d f k out) (hlt : k < s.size) {D : Int} (hD : turn s[k] d = D) (h : (k + 1 = s.size ∧ D = -1) ∨ (k + 1 ≠ s.size ∧ ¬ D < 0 ∧ D = 0 ∧ s[k] = 32))
    {v' : Value} {w' : World} (h1 : Strs w' B v' (out ++ [piece s f k])) (h2 : Below B wr w') : Loop s B w w' v' D (k + 1) (k + 1) (out ++ [piece s f k]) := by
  have hb := turn_bd s[k] d
  rw [hD] at hb
  have := L.lo; have := L.hi; have := L.few
  refine ⟨by omega, by omega, by omega, by omega, by omega, L.below.trans h2, h1, ?_, by simp; omega⟩
  rw [L.told, sp_at s f k d hlt, hD, piece_nil]
  rcases h with ⟨g1, g2⟩ | ⟨g1, g2, g3, g4⟩
  · rw [if_pos g1, if_pos g2, (last_iff s k hlt).2 g1]
    simp [more, sp]
  · rw [if_neg g1, if_neg g2, if_pos ⟨g3, g4⟩, more_map]

theorem Loop.go (L : Loop s B w wr v d f k out) (hlt : k < s.size) {D : Int} (hD : turn s[k] d = D) (h1 : k + 1 ≠ s.size) (h2 : ¬ D < 0) (h3 : ¬ (D = 0 ∧ s[k] = 32)) : Loop s B w wr v D f (k + 1) out := by
  have hb := turn_bd s[k] d
  rw [hD] at hb
  have := L.lo; have := L.hi; have := L.few; have := L.fk
  refine ⟨by omega, L.one, by omega, by omega, by omega, L.below, L.own, ?_, by omega⟩
  rw [L.told, sp_at s f k d hlt, hD, if_neg h1, if_neg h2, if_neg h3, piece_snoc s f k L.fk hlt]
end

theorem strs_empty (w : World) (B : Nat) (h : B ≤ w.heap.size) : Strs (w.alloc (.cells #[] 9)) B (.slice (some ⟨w.heap.size, 0, none⟩) 0 0) [] :=
  World.ownsRow_made (size := 1) w #[] 0 h (by decide) (by simp)

theorem run_sub (s : ByteArray) (f k : Nat) (h1 : f ≤ k) (h2 : k ≤ s.size) (w : World) :
    (Instr.slice 9 (.string s) (some (.int .i64 (f : Int))) (some (.int .i64 (k : Int))) none).run Tryz.prog w = .ok (.string ⟨(piece s f k).toArray⟩) w := by
  have := run_slice_string (P := Tryz.prog) (w := w) 9 s .i64 .i64 (f : Int) (k : Int) Tryz.underlying9 (by omega) (by omega) (by omega)
  rw [this, Int.toNat_natCast, Int.toNat_natCast, piece_cut s f k h1 h2]

def K4 (c : UInt8) (b1 b2 b3 : Bool) : Prop := ((c.toNat : Int) == 91) = b1 ∧ ((c.toNat : Int) == 93) = b2 ∧ ((c.toNat : Int) == 32) = b3
theorem kinds (c : UInt8) (d : Int) : (K4 c true false false ∧ turn c d = d + 1 ∧ c ≠ 32) ∨ (K4 c false true false ∧ turn c d = d - 1 ∧ c ≠ 32) ∨ (K4 c false false true ∧ turn c d = d ∧ c = 32) ∨ (K4 c false false false ∧ turn c d = d ∧ c ≠ 32) := by
  unfold K4 turn
  have e : ∀ n : UInt8, ((c.toNat : Int) == (n.toNat : Int)) = decide (c = n) := by
    intro n
    rw [Bool.eq_iff_iff]
    simp only [beq_iff_eq, decide_eq_true_eq]
    exact ⟨fun h => UInt8.toNat_inj.1 (by omega), fun h => by rw [h]⟩
  have e1 := e 91; have e2 := e 93; have e3 := e 32
  rw [show ((91 : UInt8).toNat : Int) = 91 from rfl] at e1
  rw [show ((93 : UInt8).toNat : Int) = 93 from rfl] at e2
  rw [show ((32 : UInt8).toNat : Int) = 32 from rfl] at e3
  rw [e1, e2, e3]
  by_cases h1 : c = 91
  · left; subst h1; simp
  · right
    by_cases h2 : c = 93
    · left; subst h2; simp
    · right
      by_cases h3 : c = 32
      · left; subst h3; simp
      · right; simp [h1, h2, h3]

set_option maxHeartbeats 4000000 in
set_option maxRecDepth 100000 in
theorem args_calls (s : ByteArray) (hs : s.size ≤ 3000) (w : World) :
    Calls Tryz.prog 123 #[.string s] w fun e w' => ∃ v, Below w.heap.size w w' ∧
      ((args s.data.toList = none ∧ e = .returned (.tuple #[v, .bool false])) ∨ ∃ a, args s.data.toList = some a ∧ e = .returned (.tuple #[v, .bool true]) ∧ Strs w' w.heap.size v a) := by
  by_cases h2 : s.size < 2
  · have hn : args s.data.toList = none := by unfold args; rw [if_pos (.inl h2)]
    have HN := Lib.hid hn
    clear hn
    have d2 : decide ((s.size : Int) < 2) = true := by simp; omega
    go_enter Tryz.func123, Tryz.ntmps123
    go_wp2_with fail
    go_ret2
    exact ⟨_, (Below.refl _ _).alloc (Nat.le_refl _) _, .inl ⟨HN.out, rfl⟩⟩
  have d2 : decide ((s.size : Int) < 2) = false := by simp; omega
  have hp : 0 < s.size := by omega
  have q1 : (1 : Int) ≤ s.size := by omega
  by_cases h0 : s[0] = 91
  case neg =>
    have hn : args s.data.toList = none := by
      have hh : s.data.toList.head? ≠ some 91 := by
        rw [← List.drop_zero (l := s.data.toList), drop_lt s 0 hp]
        simpa using h0
      unfold args
      rw [if_pos (.inr (.inl hh))]
    have HN := Lib.hid hn
    have d0 : ((s[0].toNat : Int) != 91) = true := by simp; intro e; exact h0 (UInt8.toNat_inj.1 (by show _ = 91; omega))
    clear hn h0
    go_enter Tryz.func123, Tryz.ntmps123
    go_wp2_with fail
    go_ret2
    exact ⟨_, (Below.refl _ _).alloc (Nat.le_refl _) _, .inl ⟨HN.out, rfl⟩⟩
  have d0 : ((s[0].toNat : Int) != 91) = false := by rw [h0]; rfl
  have hlast : s.data.toList.getLast? = some s[s.size - 1] := by
    rw [List.getLast?_eq_getElem?]
    have h' : s.data.toList.length - 1 < s.data.toList.length := by show s.size - 1 < s.size; omega
    rw [List.getElem?_eq_getElem h']
    rfl
  by_cases h9 : s[s.size - 1] = 93
  case neg =>
    have hn : args s.data.toList = none := by
      have hh : s.data.toList.getLast? ≠ some 93 := by rw [hlast]; simpa using h9
      unfold args
      rw [if_pos (.inr (.inr hh))]
    have HN := Lib.hid hn
    have d9 : ((s[s.size - 1].toNat : Int) != 93) = true := by simp; intro e; exact h9 (UInt8.toNat_inj.1 (by show _ = 93; omega))
    clear hn h0 h9 hlast
    go_enter Tryz.func123, Tryz.ntmps123
    go_wp2_with fail
    go_ret2
    exact ⟨_, (Below.refl _ _).alloc (Nat.le_refl _) _, .inl ⟨HN.out, rfl⟩⟩
  have d9 : ((s[s.size - 1].toNat : Int) != 93) = false := by rw [h9]; rfl
  have hargs : args s.data.toList = sp (s.data.toList.drop 1) 0 [] := by
    unfold args
    rw [if_neg, ← List.drop_one]
    rintro (h | h | h)
    · exact h2 h
    · apply h
      rw [← List.drop_zero (l := s.data.toList), drop_lt s 0 hp, h0]
      rfl
    · apply h; rw [hlast, h9]
  have HA := Lib.hid hargs
  clear hargs hlast h0 h9
  go_enter Tryz.func123, Tryz.ntmps123
  go_wp2_with fail
  go_loopw [4, 5, 6, 7, 8, 27, 28, 29, 30, 31, 32, 33, 34, 35, 36, 37, 38, 39, 40, 41, 42, 43, 44, 45, 46, 47, 48, 49, 50, 51, 52, 53, 54, 55, 56, 57, 58, 59, 60, 61, 62, 63, 64, 65, 66, 67, 68, 69, 70, 71, 72, 73, 74, 75, 76, 77, 78, 79, 80, 81, 82] (fun v vd vf vk _ _ _ _ _ _ _ _ _ _ _ _ _ _ _ _ _ _ _ _ _ _ _ _ _ _ _ _ _ _ _ _ _ _ _ _ _ _ _ _ _ _ _ _ _ _ _ _ _ _ _ _ _ _ _ _ _ wr => ∃ (d : Int) (f k : Nat) (out : List Bs), vd = .int .i64 d ∧ vf = .int .i64 f ∧ vk = .int .i64 k ∧ Loop s w.heap.size w wr v d f k out) (fun _ _ _ vk _ _ _ _ _ _ _ _ _ _ _ _ _ _ _ _ _ _ _ _ _ _ _ _ _ _ _ _ _ _ _ _ _ _ _ _ _ _ _ _ _ _ _ _ _ _ _ _ _ _ _ _ _ _ _ _ _ _ => s.size - (intOf vk).toNat)
  case atStart =>
    exact ⟨0, 1, 1, [], rfl, rfl, rfl, by omega, Nat.le_refl _, Nat.le_refl _, by omega, by omega, (Below.refl _ _).alloc (Nat.le_refl _) _, strs_empty _ _ (Nat.le_refl _), by rw [HA.out, piece_nil]; cases sp (List.drop 1 s.data.toList) 0 [] <;> rfl, by simp⟩
  case round =>
    obtain ⟨d, f, k, out, rfl, rfl, rfl, L⟩ := hrel
    have HL := Lib.hid L
    have HZ := Lib.hid L.below.size
    have l1 := L.le; have l2 := L.one; have l3 := L.fk; have l4 := L.lo; have l5 := L.hi; have l6 := L.few
    clear L
    by_cases hlt : k < s.size
    case neg =>
      obtain rfl : k = s.size := by omega
      have ha : args s.data.toList = some out := by
        rw [HL.out.told, List.drop_of_length_le (show s.data.toList.length ≤ s.size from Nat.le_refl _)]
        simp [sp, more]
      have HO := Lib.hid ha
      clear ha
      go_wp2_with fail
      go_ret2
      exact ⟨_, HL.out.below, .inr ⟨out, HO.out, rfl, HL.out.own⟩⟩
    have hsl := run_sub s f k l3 l1
    rcases kinds s[k] d with hk | hk | hk | hk
    · obtain ⟨⟨b1, b2, b3⟩, ht, h32⟩ := hk
      have HT := Lib.hid ht
      have H32 := Lib.hid h32
      clear ht h32
      by_cases hl : k + 1 = s.size
      · have dl : ((k : Int) == (s.size : Int) - 1) = true := by rw [beq_iff_eq]; omega
        by_cases hd : d + 1 = -1
        · have e1 : (d + 1 != -1) = false := by rw [hd]; rfl
          have HLA := Lib.hid hl
          have HD := Lib.hid hd
          clear hl hd
          go_wp2_with (at_builtin; refine wp_putS (.tmp 74) (.tmp 79) (piece s f k) w.heap.size _ out rfl rfl rfl HL.out.own rfl (by omega) HZ.out ?_; intro v' w' t' b')
          have NL := Lib.hid (HL.out.put hlt HT.out (.inl ⟨HLA.out, HD.out⟩) t' b')
          clear t' b'
          go_roundw
          case rel => exact ⟨d + 1, k + 1, k + 1, out ++ [piece s f k], rfl, by go_num, by go_num, NL.out⟩
          case measure => simp [intOf]; omega
        · have e1 : (d + 1 != -1) = true := by rw [bne_iff_ne]; exact hd
          have HN := Lib.hid (HL.out.none hlt (.inl ⟨hl, by rw [HT.out]; exact hd⟩))
          clear hl hd
          go_wp2_with fail
          go_ret2
          exact ⟨_, HL.out.below, .inl ⟨HN.out, rfl⟩⟩
      · have dl : ((k : Int) == (s.size : Int) - 1) = false := by rw [beq_eq_false_iff_ne]; omega
        by_cases hn : d + 1 < 0
        · have e2 : decide (d + 1 < 0) = true := decide_eq_true hn
          have HN := Lib.hid (HL.out.none hlt (.inr ⟨hl, by rw [HT.out]; exact hn⟩))
          clear hl hn
          go_wp2_with fail
          go_ret2
          exact ⟨_, HL.out.below, .inl ⟨HN.out, rfl⟩⟩
        · have e2 : decide (d + 1 < 0) = false := decide_eq_false hn
          by_cases hz : d + 1 = 0
          · have e3 : (d + 1 == 0) = true := by rw [beq_iff_eq]; exact hz
            have NL := Lib.hid (HL.out.go hlt HT.out hl hn (fun h => H32.out h.2))
            clear hl hn hz
            go_wp2_with fail
            go_roundw
            case rel => exact ⟨d + 1, f, k + 1, out, rfl, rfl, by go_num, NL.out⟩
            case measure => simp [intOf]; omega
          · have e3 : (d + 1 == 0) = false := by rw [beq_eq_false_iff_ne]; exact hz
            have NL := Lib.hid (HL.out.go hlt HT.out hl hn (fun h => hz h.1))
            clear hl hn hz
            go_wp2_with fail
            go_roundw
            case rel => exact ⟨d + 1, f, k + 1, out, rfl, rfl, by go_num, NL.out⟩
            case measure => simp [intOf]; omega
    · obtain ⟨⟨b1, b2, b3⟩, ht, h32⟩ := hk
      have HT := Lib.hid ht
      have H32 := Lib.hid h32
      clear ht h32
      by_cases hl : k + 1 = s.size
      · have dl : ((k : Int) == (s.size : Int) - 1) = true := by rw [beq_iff_eq]; omega
        by_cases hd : d - 1 = -1
        · have e1 : (d - 1 != -1) = false := by rw [hd]; rfl
          have HLA := Lib.hid hl
          have HD := Lib.hid hd
          clear hl hd
          go_wp2_with (at_builtin; refine wp_putS (.tmp 74) (.tmp 79) (piece s f k) w.heap.size _ out rfl rfl rfl HL.out.own rfl (by omega) HZ.out ?_; intro v' w' t' b')
          have NL := Lib.hid (HL.out.put hlt HT.out (.inl ⟨HLA.out, HD.out⟩) t' b')
          clear t' b'
          go_roundw
          case rel => exact ⟨d - 1, k + 1, k + 1, out ++ [piece s f k], rfl, by go_num, by go_num, NL.out⟩
          case measure => simp [intOf]; omega
        · have e1 : (d - 1 != -1) = true := by rw [bne_iff_ne]; exact hd
          have HN := Lib.hid (HL.out.none hlt (.inl ⟨hl, by rw [HT.out]; exact hd⟩))
          clear hl hd
          go_wp2_with fail
          go_ret2
          exact ⟨_, HL.out.below, .inl ⟨HN.out, rfl⟩⟩
      · have dl : ((k : Int) == (s.size : Int) - 1) = false := by rw [beq_eq_false_iff_ne]; omega
        by_cases hn : d - 1 < 0
        · have e2 : decide (d - 1 < 0) = true := decide_eq_true hn
          have HN := Lib.hid (HL.out.none hlt (.inr ⟨hl, by rw [HT.out]; exact hn⟩))
          clear hl hn
          go_wp2_with fail
          go_ret2
          exact ⟨_, HL.out.below, .inl ⟨HN.out, rfl⟩⟩
        · have e2 : decide (d - 1 < 0) = false := decide_eq_false hn
          by_cases hz : d - 1 = 0
          · have e3 : (d - 1 == 0) = true := by rw [beq_iff_eq]; exact hz
            have NL := Lib.hid (HL.out.go hlt HT.out hl hn (fun h => H32.out h.2))
            clear hl hn hz
            go_wp2_with fail
            go_roundw
            case rel => exact ⟨d - 1, f, k + 1, out, rfl, rfl, by go_num, NL.out⟩
            case measure => simp [intOf]; omega
          · have e3 : (d - 1 == 0) = false := by rw [beq_eq_false_iff_ne]; exact hz
            have NL := Lib.hid (HL.out.go hlt HT.out hl hn (fun h => hz h.1))
            clear hl hn hz
            go_wp2_with fail
            go_roundw
            case rel => exact ⟨d - 1, f, k + 1, out, rfl, rfl, by go_num, NL.out⟩
            case measure => simp [intOf]; omega
    · obtain ⟨⟨b1, b2, b3⟩, ht, h32⟩ := hk
      have HT := Lib.hid ht
      have H32 := Lib.hid h32
      clear ht h32
      by_cases hl : k + 1 = s.size
      · have dl : ((k : Int) == (s.size : Int) - 1) = true := by rw [beq_iff_eq]; omega
        by_cases hd : d = -1
        · have e1 : (d != -1) = false := by rw [hd]; rfl
          have HLA := Lib.hid hl
          have HD := Lib.hid hd
          clear hl hd
          go_wp2_with (at_builtin; refine wp_putS (.tmp 74) (.tmp 79) (piece s f k) w.heap.size _ out rfl rfl rfl HL.out.own rfl (by omega) HZ.out ?_; intro v' w' t' b')
          have NL := Lib.hid (HL.out.put hlt HT.out (.inl ⟨HLA.out, HD.out⟩) t' b')
          clear t' b'
          go_roundw
          case rel => exact ⟨d, k + 1, k + 1, out ++ [piece s f k], rfl, by go_num, by go_num, NL.out⟩
          case measure => simp [intOf]; omega
        · have e1 : (d != -1) = true := by rw [bne_iff_ne]; exact hd
          have HN := Lib.hid (HL.out.none hlt (.inl ⟨hl, by rw [HT.out]; exact hd⟩))
          clear hl hd
          go_wp2_with fail
          go_ret2
          exact ⟨_, HL.out.below, .inl ⟨HN.out, rfl⟩⟩
      · have dl : ((k : Int) == (s.size : Int) - 1) = false := by rw [beq_eq_false_iff_ne]; omega
        by_cases hn : d < 0
        · have e2 : decide (d < 0) = true := decide_eq_true hn
          have HN := Lib.hid (HL.out.none hlt (.inr ⟨hl, by rw [HT.out]; exact hn⟩))
          clear hl hn
          go_wp2_with fail
          go_ret2
          exact ⟨_, HL.out.below, .inl ⟨HN.out, rfl⟩⟩
        · have e2 : decide (d < 0) = false := decide_eq_false hn
          by_cases hz : d = 0
          · have e3 : (d == 0) = true := by rw [beq_iff_eq]; exact hz
            have HP := Lib.hid (⟨hl, hn, hz, H32.out⟩ : k + 1 ≠ s.size ∧ ¬ (d) < 0 ∧ d = 0 ∧ s[k] = 32)
            clear hl hn hz
            go_wp2_with (at_builtin; refine wp_putS (.tmp 74) (.tmp 79) (piece s f k) w.heap.size _ out rfl rfl rfl HL.out.own rfl (by omega) HZ.out ?_; intro v' w' t' b')
            have NL := Lib.hid (HL.out.put hlt HT.out (.inr HP.out) t' b')
            clear t' b'
            go_roundw
            case rel => exact ⟨d, k + 1, k + 1, out ++ [piece s f k], rfl, by go_num, by go_num, NL.out⟩
            case measure => simp [intOf]; omega
          · have e3 : (d == 0) = false := by rw [beq_eq_false_iff_ne]; exact hz
            have NL := Lib.hid (HL.out.go hlt HT.out hl hn (fun h => hz h.1))
            clear hl hn hz
            go_wp2_with fail
            go_roundw
            case rel => exact ⟨d, f, k + 1, out, rfl, rfl, by go_num, NL.out⟩
            case measure => simp [intOf]; omega
    · obtain ⟨⟨b1, b2, b3⟩, ht, h32⟩ := hk
      have HT := Lib.hid ht
      have H32 := Lib.hid h32
      clear ht h32
      by_cases hl : k + 1 = s.size
      · have dl : ((k : Int) == (s.size : Int) - 1) = true := by rw [beq_iff_eq]; omega
        by_cases hd : d = -1
        · have e1 : (d != -1) = false := by rw [hd]; rfl
          have HLA := Lib.hid hl
          have HD := Lib.hid hd
          clear hl hd
          go_wp2_with (at_builtin; refine wp_putS (.tmp 74) (.tmp 79) (piece s f k) w.heap.size _ out rfl rfl rfl HL.out.own rfl (by omega) HZ.out ?_; intro v' w' t' b')
          have NL := Lib.hid (HL.out.put hlt HT.out (.inl ⟨HLA.out, HD.out⟩) t' b')
          clear t' b'
          go_roundw
          case rel => exact ⟨d, k + 1, k + 1, out ++ [piece s f k], rfl, by go_num, by go_num, NL.out⟩
          case measure => simp [intOf]; omega
        · have e1 : (d != -1) = true := by rw [bne_iff_ne]; exact hd
          have HN := Lib.hid (HL.out.none hlt (.inl ⟨hl, by rw [HT.out]; exact hd⟩))
          clear hl hd
          go_wp2_with fail
          go_ret2
          exact ⟨_, HL.out.below, .inl ⟨HN.out, rfl⟩⟩
      · have dl : ((k : Int) == (s.size : Int) - 1) = false := by rw [beq_eq_false_iff_ne]; omega
        by_cases hn : d < 0
        · have e2 : decide (d < 0) = true := decide_eq_true hn
          have HN := Lib.hid (HL.out.none hlt (.inr ⟨hl, by rw [HT.out]; exact hn⟩))
          clear hl hn
          go_wp2_with fail
          go_ret2
          exact ⟨_, HL.out.below, .inl ⟨HN.out, rfl⟩⟩
        · have e2 : decide (d < 0) = false := decide_eq_false hn
          by_cases hz : d = 0
          · have e3 : (d == 0) = true := by rw [beq_iff_eq]; exact hz
            have NL := Lib.hid (HL.out.go hlt HT.out hl hn (fun h => H32.out h.2))
            clear hl hn hz
            go_wp2_with fail
            go_roundw
            case rel => exact ⟨d, f, k + 1, out, rfl, rfl, by go_num, NL.out⟩
            case measure => simp [intOf]; omega
          · have e3 : (d == 0) = false := by rw [beq_eq_false_iff_ne]; exact hz
            have NL := Lib.hid (HL.out.go hlt HT.out hl hn (fun h => hz h.1))
            clear hl hn hz
            go_wp2_with fail
            go_roundw
            case rel => exact ⟨d, f, k + 1, out, rfl, rfl, by go_num, NL.out⟩
            case measure => simp [intOf]; omega
end Go.Proofs.YtonjohlecomeoaaGreat.sar
