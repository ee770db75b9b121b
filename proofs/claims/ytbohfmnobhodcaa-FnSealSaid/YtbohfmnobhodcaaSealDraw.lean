/- Contracts of what FnSeal calls besides: the draws of a text and of a CRC with a text; lwAt. -/
import Derived.Test.YtbohfmnobhodcaaDraw
import Derived.Test.YtbohfmnobhodcaaSealMath
import Derived.Laws.IdiomStrings
namespace Go.Proofs.Ytbohfmnobhodcaa.sdr
open Go.RowKit Go.Proofs.Ytbohfmnobhodcaa.lib Go.Proofs.Ytbohfmnobhodcaa.crc Go.Proofs.Ytbohfmnobhodcaa.sea Go.Proofs.Ytbohfmnobhodcaa.clo Go.Proofs.Ytbohfmnobhodcaa.drw Go.Proofs.Ytbohfmnobhodcaa.row
set_option linter.unusedVariables false

def SomeStr (n : Nat) (e : Ending) : Prop := ∃ s : ByteArray, s.size ≤ n ∧ e = .returned (.string s)

set_option maxRecDepth 100000 in
theorem drawSeal_calls (a0 : Option Addr) (len cap : Nat) (w : World) (hr : Rd w w.heap.size a0 len) :
    Calls Try.prog 11 #[.slice a0 len cap] w fun e w' => SomeStr 20000 e ∧ Below w.heap.size w w' := by
  go_enter Try.func11, Try.ntmps11
  go_wp2_with fail
  refine (source_calls a0 len cap w hr).mono ?_
  rintro e w1 ⟨rfl, hs1, hb1, hz1⟩
  go_wp2_with fail
  refine (one_calls _ a0 len cap 30 (by omega) (by omega) w.heap.size w1 (Nat.le_refl _) hs1 (hr.below hb1)).mono ?_
  rintro e w2 ⟨⟨b, rfl⟩, hs2, hg2⟩
  have hb2 : Below w.heap.size w w2 := hb1.grown hg2 (by omega) (fun k hk => by simp at hk; omega)
  have hz2 := hg2.size
  cases b
  · go_wp2_with fail
    refine (n_calls _ a0 len cap 20 (by omega) (by omega) w.heap.size w2 (Nat.le_refl _) hs2 (hr.below hb2)).mono ?_
    rintro e w3 ⟨⟨r, r0, r1, rfl⟩, hs3, hg3⟩
    have hb3 : Below w.heap.size w w3 := hb2.grown hg3 (by omega) (fun k hk => by simp at hk; omega)
    have hz3 := hg3.size
    obtain ⟨n, rfl⟩ := Int.eq_ofNat_of_zero_le r0
    go_wp2_with fail
    refine (bytes_calls _ a0 len cap n (by omega) w.heap.size w3 (Nat.le_refl _) (by omega) hs3 (hr.below hb3)).mono ?_
    rintro e w4 ⟨⟨s, hs, rfl⟩, hs4, hb4⟩
    have HS := Lib.hid hs; clear hs
    go_wp2_with fail
    go_ret
    exact ⟨⟨s, by rw [HS.out]; omega, rfl⟩, hb3.trans hb4⟩
  · go_wp2_with fail
    refine (n_calls _ a0 len cap 3 (by omega) (by omega) w.heap.size w2 (Nat.le_refl _) hs2 (hr.below hb2)).mono ?_
    rintro e w3 ⟨⟨r, r0, r1, rfl⟩, hs3, hg3⟩
    have hb3 : Below w.heap.size w w3 := hb2.grown hg3 (by omega) (fun k hk => by simp at hk; omega)
    have hz3 := hg3.size
    obtain ⟨n, rfl⟩ := Int.eq_ofNat_of_zero_le r0
    go_wp2_with (first
      | (at_make; refine wp_make (.tmp 10) (.tmp 10) (19995 + n) .i64 .i64 _ _ rfl rfl rfl rfl (by omega) (by omega) (by omega) ?_; intro w4 hr4 hb4 hz4)
      | (refine wp_strRow (.tmp 11) w3.heap.size (19995 + n) _ rfl rfl rfl hr4 (by simp) (by omega) ?_))
    go_ret
    exact ⟨⟨_, by simp [ByteArray.size]; omega, rfl⟩, hb3.trans (hb4.mono (by omega))⟩

def SomePair (e : Ending) : Prop := ∃ (c : Int) (s : ByteArray), -9223372036854775808 ≤ c ∧ c ≤ 9223372036854775807 ∧ s.size ≤ 20 ∧ e = .returned (.tuple #[.int .i64 c, .string s])

theorem crcMoreI_bd (c : Int) (s : ByteArray) : 0 ≤ crcMoreI c s ∧ crcMoreI c s ≤ 4294967295 := by
  unfold crcMoreI
  split
  · omega
  · have := crcMore_lt c.toNat s.data.toList
    omega

set_option maxRecDepth 100000 in
theorem drawCrcMore_calls (a0 : Option Addr) (len cap : Nat) (w : World) (hr : Rd w w.heap.size a0 len) :
    Calls Try.prog 16 #[.slice a0 len cap] w fun e w' => SomePair e ∧ Below w.heap.size w w' := by
  go_enter Try.func16, Try.ntmps16
  go_wp2_with fail
  refine (source_calls a0 len cap w hr).mono ?_
  rintro e w1 ⟨rfl, hs1, hb1, hz1⟩
  go_wp2_with fail
  refine (n_calls _ a0 len cap 9 (by omega) (by omega) w.heap.size w1 (Nat.le_refl _) hs1 (hr.below hb1)).mono ?_
  rintro e w2 ⟨⟨r, r0, r1, rfl⟩, hs2, hg2⟩
  have hb2 : Below w.heap.size w w2 := hb1.grown hg2 (by omega) (fun k hk => by simp at hk; omega)
  have hz2 := hg2.size
  obtain ⟨n, rfl⟩ := Int.eq_ofNat_of_zero_le r0
  go_wp2_with fail
  refine (bytes_calls _ a0 len cap n (by omega) w.heap.size w2 (Nat.le_refl _) (by omega) hs2 (hr.below hb2)).mono ?_
  rintro e w3 ⟨⟨s, hs, rfl⟩, hs3, hb3⟩
  have HS := Lib.hid hs; clear hs
  have hb3' := hb2.trans hb3
  have hz3 := hb3.size
  go_wp2_with fail
  refine (one_calls _ a0 len cap 5 (by omega) (by omega) w.heap.size w3 (Nat.le_refl _) hs3 (hr.below hb3')).mono ?_
  rintro e w4 ⟨⟨b, rfl⟩, hs4, hg4⟩
  have hb4 : Below w.heap.size w w4 := hb3'.grown hg4 (by omega) (fun k hk => by simp at hk; omega)
  have hz4 := hg4.size
  cases b
  · go_wp2_with fail
    refine (n_calls _ a0 len cap 9 (by omega) (by omega) w.heap.size w4 (Nat.le_refl _) hs4 (hr.below hb4)).mono ?_
    rintro e w5 ⟨⟨r, q0, q1, rfl⟩, hs5, hg5⟩
    have hb5 : Below w.heap.size w w5 := hb4.grown hg5 (by omega) (fun k hk => by simp at hk; omega)
    have hz5 := hg5.size
    obtain ⟨m, rfl⟩ := Int.eq_ofNat_of_zero_le q0
    go_wp2_with fail
    refine (bytes_calls _ a0 len cap m (by omega) w.heap.size w5 (Nat.le_refl _) (by omega) hs5 (hr.below hb5)).mono ?_
    rintro e w6 ⟨⟨t, ht, rfl⟩, hs6, hb6⟩
    have HT := Lib.hid ht; clear ht
    have hc := Lib.hid (crcMoreI_bd 0 t)
    go_wp2_with fail
    refine (specCrc_calls t (by rw [HT.out]; omega) _).mono ?_
    rintro e w7 ⟨rfl, rfl⟩
    go_wp2_with fail
    go_ret2
    exact ⟨⟨_, s, by have := hc.out; omega, by have := hc.out; omega, by rw [HS.out]; omega, rfl⟩, hb5.trans hb6⟩
  · go_wp2_with fail
    refine (edge_calls _ a0 len cap w.heap.size w4 (Nat.le_refl _) (by omega) hs4 (hr.below hb4)).mono ?_
    rintro e w5 ⟨⟨r, q0, q1, rfl⟩, hs5, hb5⟩
    go_wp2_with fail
    go_ret2
    exact ⟨⟨r, s, q0, q1, by rw [HS.out]; omega, rfl⟩, hb4.trans hb5⟩

/-- lwAt: a number out of a code, below most. -/
theorem lwAt_calls (a0 : Option Addr) (len cap : Nat) (k : Nat) (hk : k < 1000) (most : Int) (hm : 1 ≤ most) (hM : most ≤ 9223372036854775807) (B : Nat) (w : World) (hr : Rd w B a0 len) :
    Calls Try.prog 14 #[.slice a0 len cap, .int .i64 k, .int .i64 most] w fun e w' => (∃ r : Int, 0 ≤ r ∧ r < most ∧ e = .returned (.int .i64 r)) ∧ w = w' := by
  have hl := hr.1
  by_cases h1 : most ≤ 1
  · go_enter Try.func14, Try.ntmps14
    go_wp2
    all_goals go_ret
    all_goals exact ⟨⟨0, by omega, by omega, rfl⟩, rfl⟩
  · by_cases h0 : len = 0
    · subst h0
      go_enter Try.func14, Try.ntmps14
      go_wp2
      all_goals go_ret
      all_goals exact ⟨⟨0, by omega, by omega, rfl⟩, rfl⟩
    · have hpos : 0 < len := by omega
      obtain ⟨b, off, rfl, hbB, v, hv, hc⟩ := hr.2 (k % len) (Nat.mod_lt _ hpos)
      have hne : ((len : Int) == 0) = false := by rw [beq_eq_false_iff_ne]; omega
      have hd1 : decide (most ≤ 1) = false := by simpa using h1
      have hml : k % len < len := Nat.mod_lt _ hpos
      clear h0
      go_enter Try.func14, Try.ntmps14
      go_wp2
      go_ret
      exact ⟨⟨_, Int.emod_nonneg _ (by omega), Int.emod_lt_of_pos _ (by omega), rfl⟩, rfl⟩

/-- The same, with one number for all worlds that keep what lies below B. -/
theorem lwAt_fix (a0 : Option Addr) (len cap : Nat) (k : Nat) (hk : k < 1000) (most : Int) (hm : 1 ≤ most) (hM : most ≤ 9223372036854775807) (B : Nat) (w : World) (hr : Rd w B a0 len) :
    ∃ r : Int, 0 ≤ r ∧ r < most ∧ ∀ w', Below B w w' → Calls Try.prog 14 #[.slice a0 len cap, .int .i64 k, .int .i64 most] w' fun e w'' => e = .returned (.int .i64 r) ∧ w'' = w' := by
  have hl := hr.1
  by_cases h1 : most ≤ 1
  · refine ⟨0, by omega, by omega, fun w' hb => ?_⟩
    clear hb
    go_enter Try.func14, Try.ntmps14
    go_wp2
    all_goals go_ret
    all_goals exact ⟨rfl, rfl⟩
  · by_cases h0 : len = 0
    · subst h0
      refine ⟨0, by omega, by omega, fun w' hb => ?_⟩
      clear hb
      go_enter Try.func14, Try.ntmps14
      go_wp2
      all_goals go_ret
      all_goals exact ⟨rfl, rfl⟩
    · have hpos : 0 < len := by omega
      obtain ⟨b, off, rfl, hbB, v, hv, hc⟩ := hr.2 (k % len) (Nat.mod_lt _ hpos)
      refine ⟨(v : Int) % most, Int.emod_nonneg _ (by omega), Int.emod_lt_of_pos _ (by omega), fun w' hb => ?_⟩
      have hc' : w'.cell? ⟨b, off + k % len, none⟩ = some (.int .u8 v) := (hb.cell (p := ⟨b, off + k % len, none⟩) hbB).trans hc
      clear hb hc
      have hne : ((len : Int) == 0) = false := by rw [beq_eq_false_iff_ne]; omega
      have hd1 : decide (most ≤ 1) = false := by simpa using h1
      have hml : k % len < len := Nat.mod_lt _ hpos
      clear h0
      go_enter Try.func14, Try.ntmps14
      go_wp2
      go_ret
      exact ⟨rfl, rfl⟩

theorem xor8 (a b : Nat) (ha : a < 256) (hb : b < 256) : bits .xor .u8 (a : Int) (b : Int) = ((a ^^^ b : Nat) : Int) := by
  have hx : a ^^^ b < 2 ^ 8 := Nat.xor_lt_two_pow (by omega) (by omega)
  have h1 : (BitVec.ofInt 8 (a : Int)).toNat = a := by
    rw [BitVec.ofInt_natCast, BitVec.toNat_ofNat]; exact Nat.mod_eq_of_lt (by omega)
  have h2 : (BitVec.ofInt 8 (b : Int)).toNat = b := by
    rw [BitVec.ofInt_natCast, BitVec.toNat_ofNat]; exact Nat.mod_eq_of_lt (by omega)
  show IntKind.u8.wrap ((BitVec.ofInt 8 (a : Int) ^^^ BitVec.ofInt 8 (b : Int)).toNat : Int) = _
  rw [BitVec.toNat_xor, h1, h2, IntKind.wrap_u8]
  omega

/-- A byte put together with a number from 1 to 255 is another byte. -/
theorem turned (c : UInt8) (r : Int) (h0 : 0 ≤ r) (h1 : r < 255) : ∃ d : UInt8, d ≠ c ∧ bits .xor .u8 (c.toNat : Int) (IntKind.u8.wrap (IntKind.i64.wrap (1 + r))) = (d.toNat : Int) := by
  obtain ⟨n, rfl⟩ := Int.eq_ofNat_of_zero_le h0
  have hc := c.toNat_lt
  have e : IntKind.u8.wrap (IntKind.i64.wrap (1 + (n : Int))) = ((1 + n : Nat) : Int) := by
    rw [IntKind.wrap_i64, IntKind.wrap_u8]
    omega
  have hl : c.toNat ^^^ (1 + n) < 2 ^ 8 := Nat.xor_lt_two_pow (by omega) (by omega)
  refine ⟨UInt8.ofNat (c.toNat ^^^ (1 + n)), ?_, ?_⟩
  · intro h
    have h2 := congrArg UInt8.toNat h
    rw [UInt8.toNat_ofNat', Nat.mod_eq_of_lt hl] at h2
    have h3 := congrArg (c.toNat ^^^ ·) h2
    simp only [← Nat.xor_assoc, Nat.xor_self, Nat.zero_xor] at h3
    omega
  · rw [e, xor8 _ _ (by omega) (by omega), UInt8.toNat_ofNat', Nat.mod_eq_of_lt hl]

/-- []byte(s): a new row that begins with the bytes of s. -/
theorem wp_bytes {w : World} {ops : Array Oper} {rest : List Oper} {o : Oper} {a : Act} {Q : Exit → Act → World → Prop} (x : Operand) (s : ByteArray) (hgd : o.guard = none) (ho : o.op = .convert 9 22 x) (hs : a.eval x = .string s)
    (h : ∀ w' cap, (∀ j (hj : j < s.data.toList.length), w'.cell? ⟨w.heap.size, j, none⟩ = some (.int .u8 (s.data.toList[j].toNat))) → (∀ j, j < s.data.toList.length → w'.frozen? ⟨w.heap.size, j, none⟩ = false) → Below w.heap.size w w' → w'.heap.size = w.heap.size + 1 → s.size ≤ cap →
      wpList Try.prog ops Q rest (a.put o.dst (.slice (some ⟨w.heap.size, 0, none⟩) s.size cap)) w') : wpList Try.prog ops Q (o :: rest) a w := by
  refine wpList_plain hgd fun K hK => ?_
  have hrun := run_bytes_of_string (P := Try.prog) w 9 22 5 s Try.underlying9 Try.underlying22 Try.underlying5
  obtain ⟨cap, hcap⟩ : ∃ cap, cap = grownCap w s.size 0 5 := ⟨_, rfl⟩
  rw [← hcap] at hrun
  have hge : s.size ≤ cap := by rw [hcap]; exact grownCap_ge w s.size 0 5
  have hsz : (bytesRow s cap).size = cap := by simp [bytesRow]; omega
  unfold Oper.wp
  simp [execOp, ho, hs, hrun, Result.andThen]
  refine hK _ _ (h _ cap ?_ ?_ (((Below.refl _ _).drew).alloc (Nat.le_refl _) _) (by simp) hge)
  · intro j hj
    have hj' : j < s.size := by simpa using hj
    have hn : (w.drew.alloc (.cells (bytesRow s cap) 5 ((bytesRow s cap).size, (bytesRow s cap).size + 1))).heap[w.heap.size]? = some (.cells (bytesRow s cap) 5 ((bytesRow s cap).size, (bytesRow s cap).size + 1)) := heap_alloc_new w.drew _
    simp only [World.cell?]
    rw [hn]
    simp only [Array.getElem_toList]
    simp [bytesRow, Array.getElem?_append, show j < s.data.size from hj', hj']
  · intro j hj
    have hj' : j < s.size := by simpa using hj
    have hn : (w.drew.alloc (.cells (bytesRow s cap) 5 ((bytesRow s cap).size, (bytesRow s cap).size + 1))).heap[w.heap.size]? = some (.cells (bytesRow s cap) 5 ((bytesRow s cap).size, (bytesRow s cap).size + 1)) := heap_alloc_new w.drew _
    simp only [World.frozen?]
    rw [hn]
    simp
    omega

theorem set_cells {w : World} {g : Nat} {L : List UInt8} (hcs : ∀ j (hj : j < L.length), w.cell? ⟨g, j, none⟩ = some (.int .u8 (L[j].toNat))) (k : Nat) (hk : k < L.length) (d : UInt8) :
    ∀ j (hj : j < (L.set k d).length), (w.setCell ⟨g, k, none⟩ (.int .u8 (d.toNat : Int))).drew.cell? ⟨g, 0 + j, none⟩ = some (.int .u8 ((L.set k d)[j].toNat)) := by
  intro j hj
  rw [Nat.zero_add]
  have hj' : j < L.length := by simpa using hj
  show (w.setCell ⟨g, k, none⟩ (.int .u8 (d.toNat : Int))).cell? ⟨g, j, none⟩ = _
  by_cases e : j = k
  · subst e
    rw [World.cell?_setCell_same w _ _ (hcs j hj'), List.getElem_set_self]
  · rw [World.cell?_setCell_other w _ _ _ (fun h => e (by injection h with h1 h2; exact h2.symm)), hcs j hj', List.getElem_set_ne (fun h => e h.symm)]

theorem seal_back (t s : ByteArray) (h : t.size ≤ 7996) (hs : s.data.toList = t.data.toList ++ four (crcMore 0 t.data.toList)) : unsealR s = (t, 0) := by
  rw [smt.unsealR_eq, hs, smt.unsealL_seal _ (by simpa using h)]

theorem seal_turned (t s : ByteArray) (h : t.size ≤ 7996) (hs : s.data.toList = t.data.toList ++ four (crcMore 0 t.data.toList)) (k : Nat) (hk : k < s.data.toList.length) (d : UInt8) (hd : d ≠ s.data.toList[k]) :
    (unsealR ⟨(s.data.toList.set k d).toArray⟩).2 = 5 := by
  rw [smt.unsealR_eq]
  have hk2 : k < t.data.toList.length + 4 := by rw [hs] at hk; simpa [four] using hk
  have := smt.unsealL_turned t.data.toList (by simpa using h) k hk2 d (by
    intro e
    apply hd
    rw [← e]
    simp only [hs])
  simp only [hs]
  exact this
end Go.Proofs.Ytbohfmnobhodcaa.sdr
