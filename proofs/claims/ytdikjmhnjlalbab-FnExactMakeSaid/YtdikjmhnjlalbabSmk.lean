/- Contract of the model's Make. The walks are written by wip/gen_smake.py. -/
import Derived.Test.YtdikjmhnjlalbabSsy
import Derived.Test.YtdikjmhnjlalbabSrt
import Derived.Test.YtdikjmhnjlalbabSop
import Derived.Test.YtdikjmhnjlalbabRds
import Derived.Lib.QuietBelow
namespace Go.Proofs.Ytdikjmhnjlalbab.smk
open Go.RowKit Go.Proofs.Ytdikjmhnjlalbab.tm Go.Proofs.Ytdikjmhnjlalbab.spm Go.Proofs.Ytdikjmhnjlalbab.lib Go.Proofs.Ytdikjmhnjlalbab.rdr Go.Proofs.Ytdikjmhnjlalbab.bld Go.Proofs.Ytdikjmhnjlalbab.app Go.Proofs.Ytdikjmhnjlalbab.txo Go.Proofs.Ytdikjmhnjlalbab.sop Go.Proofs.Ytdikjmhnjlalbab.mkp Go.Proofs.Ytdikjmhnjlalbab.ssy Go.Proofs.Ytdikjmhnjlalbab.sdp Go.Proofs.Ytdikjmhnjlalbab.srt Go.Proofs.Ytdikjmhnjlalbab.mrk
set_option linter.unusedVariables false

theorem right_big (l : Bs) (b : Bool) (hl : l.length ≤ 4000000) (h : (term l).isSome = b) (w : World) :
    Calls Try.prog 36 #[str l] w fun e w' => e = .returned (.bool b) ∧ Below w.heap.size w w' := by
  have := srt.specTermRight_calls ⟨l.toArray⟩ (by unfold maxLen; show l.toArray.size ≤ _; simp; omega) w
  rw [show (term (⟨l.toArray⟩ : ByteArray).data.toList).isSome = b from h] at this
  exact this
theorem right_len {l : Bs} (h : (term l).isSome = true) : l.length ≤ 3000 := by
  cases ht : term l with
  | none => rw [ht] at h; cases h
  | some T => exact (term_some.1 ht).1
theorem atom_at (l : Bs) (b : Bool) (ht : (term l).isSome = true) (h : atomR l = b) (w : World) :
    Calls Try.prog 50 #[str l] w fun e w' => e = .returned (.bool b) ∧ w = w' :=
  specAtom_at ⟨l.toArray⟩ (by have := right_len ht; show l.toArray.size ≤ 3000; simpa using this) b h w
theorem say_len1 (op x : Bs) (hop : op.length ≤ 8000) (hx : x.length ≤ 3000) : (say op [x]).length ≤ 4000000 := by simp [say]; omega
theorem say_len2 (op x y : Bs) (hop : op.length ≤ 8000) (hx : x.length ≤ 3000) (hy : y.length ≤ 3000) : (say op [x, y]).length ≤ 4000000 := by simp [say]; omega
theorem dhS_len (x y : Bs) (hx : x.length ≤ 3000) (hy : y.length ≤ 3000) : (dhS x y).length ≤ 4000000 := by unfold dhS; split <;> simp [say, oDh] <;> omega

set_option maxHeartbeats 2000000 in
set_option maxRecDepth 100000 in
theorem one_A_false (op x : Bs) (g off cap : Nat) (w : World) (hg : g < w.heap.size) (c0 : w.cell? ⟨g, off, none⟩ = some (str x))
    (hop : op.length ≤ 8000) (hx : x.length ≤ 4000000) (hm : many op = 1) (hsec : secret op = false) (rx : (term x).isSome = false) :
    Calls Try.prog 29 #[str op, .slice (some ⟨g, off, none⟩) 1 cap] w fun e w' => e = .returned (outVal [] 1) ∧ Below w.heap.size w w' := by
  have c0a : (w.alloc (.cells #[.string ⟨#[]⟩, .int .i64 0] 36)).cell? ⟨g, off, none⟩ = some (str x) := (((Below.refl w.heap.size w).alloc (Nat.le_refl _) _).cell (p := ⟨g, off, none⟩) hg).trans c0
  have hga : g < (w.alloc (.cells #[.string ⟨#[]⟩, .int .i64 0] 36)).heap.size := by simp; omega
  unfold outVal
  clear c0
  have mc := many_at op 1 hm 1 rfl
  have sc := secret_at op false hsec
  have tx := right_big x false hx rx
  clear hm hsec rx
  go_enter Try.func29, Try.ntmps29
  go_wp2_with (go_at_call 48; refine (mc _).mono ?_; rintro e w' ⟨rfl, rfl⟩)
  refine wp_loop_rounds 2 ?_
  rw [rounds_succ]
  go_wp2_with fail
  refine (tx _).mono ?_
  rintro e w1 ⟨rfl, hb⟩
  have HB1 := Lib.hid hb
  have m1_0 := (HB1.out.cell (p := ⟨g, off, none⟩) hga).trans c0a
  clear hb
  obtain ⟨q0, q1, f0, f1, hz⟩ := two (clo.new_kept HB1.out)
  go_wp2_with fail
  exact bodyPost_ret (v := .agg #[.string ⟨#[]⟩, .int .i64 1]) (by simp [results, Try.results29, go_sem, q0, q1]) rfl ⟨rfl, fin3 HB1.out _ _⟩

set_option maxHeartbeats 2000000 in
set_option maxRecDepth 100000 in
theorem one_A_true (op x : Bs) (g off cap : Nat) (w : World) (hg : g < w.heap.size) (c0 : w.cell? ⟨g, off, none⟩ = some (str x))
    (hop : op.length ≤ 8000) (hx : x.length ≤ 4000000) (hm : many op = 1) (hsec : secret op = true) (rx : (term x).isSome = false) :
    Calls Try.prog 29 #[str op, .slice (some ⟨g, off, none⟩) 1 cap] w fun e w' => e = .returned (outVal [] 1) ∧ Below w.heap.size w w' := by
  have c0a : (w.alloc (.cells #[.string ⟨#[]⟩, .int .i64 0] 36)).cell? ⟨g, off, none⟩ = some (str x) := (((Below.refl w.heap.size w).alloc (Nat.le_refl _) _).cell (p := ⟨g, off, none⟩) hg).trans c0
  have hga : g < (w.alloc (.cells #[.string ⟨#[]⟩, .int .i64 0] 36)).heap.size := by simp; omega
  unfold outVal
  clear c0
  have mc := many_at op 1 hm 1 rfl
  have sc := secret_at op true hsec
  have tx := right_big x false hx rx
  clear hm hsec rx
  go_enter Try.func29, Try.ntmps29
  go_wp2_with (go_at_call 48; refine (mc _).mono ?_; rintro e w' ⟨rfl, rfl⟩)
  refine wp_loop_rounds 2 ?_
  rw [rounds_succ]
  go_wp2_with fail
  refine (tx _).mono ?_
  rintro e w1 ⟨rfl, hb⟩
  have HB1 := Lib.hid hb
  have m1_0 := (HB1.out.cell (p := ⟨g, off, none⟩) hga).trans c0a
  clear hb
  obtain ⟨q0, q1, f0, f1, hz⟩ := two (clo.new_kept HB1.out)
  go_wp2_with fail
  exact bodyPost_ret (v := .agg #[.string ⟨#[]⟩, .int .i64 1]) (by simp [results, Try.results29, go_sem, q0, q1]) rfl ⟨rfl, fin3 HB1.out _ _⟩

set_option maxHeartbeats 2000000 in
set_option maxRecDepth 100000 in
theorem one_C_true (op x : Bs) (g off cap : Nat) (w : World) (hg : g < w.heap.size) (c0 : w.cell? ⟨g, off, none⟩ = some (str x))
    (hop : op.length ≤ 8000) (hx : x.length ≤ 4000000) (hm : many op = 1) (hsec : secret op = true) (rx : (term x).isSome = true) (zx : atomR x = false) :
    Calls Try.prog 29 #[str op, .slice (some ⟨g, off, none⟩) 1 cap] w fun e w' => e = .returned (outVal [] 1) ∧ Below w.heap.size w w' := by
  have c0a : (w.alloc (.cells #[.string ⟨#[]⟩, .int .i64 0] 36)).cell? ⟨g, off, none⟩ = some (str x) := (((Below.refl w.heap.size w).alloc (Nat.le_refl _) _).cell (p := ⟨g, off, none⟩) hg).trans c0
  have hga : g < (w.alloc (.cells #[.string ⟨#[]⟩, .int .i64 0] 36)).heap.size := by simp; omega
  unfold outVal
  clear c0
  have mc := many_at op 1 hm 1 rfl
  have sc := secret_at op true hsec
  have tx := right_big x true hx rx
  have ax := atom_at x false rx zx
  clear hm hsec rx zx
  go_enter Try.func29, Try.ntmps29
  go_wp2_with (go_at_call 48; refine (mc _).mono ?_; rintro e w' ⟨rfl, rfl⟩)
  refine wp_loop_rounds 2 ?_
  rw [rounds_succ]
  go_wp2_with fail
  refine (tx _).mono ?_
  rintro e w1 ⟨rfl, hb⟩
  have HB1 := Lib.hid hb
  have m1_0 := (HB1.out.cell (p := ⟨g, off, none⟩) hga).trans c0a
  clear hb
  obtain ⟨q0, q1, f0, f1, hz⟩ := two (clo.new_kept HB1.out)
  go_wp2_with (first | (go_at_call 49; refine (sc _).mono ?_; rintro e w' ⟨rfl, rfl⟩) | (go_at_call 50; refine (ax _).mono ?_; rintro e w' ⟨rfl, rfl⟩))
  exact bodyPost_ret (v := .agg #[.string ⟨#[]⟩, .int .i64 1]) (by simp [results, Try.results29, go_sem, q0, q1]) rfl ⟨rfl, fin3 HB1.out _ _⟩

set_option maxHeartbeats 2000000 in
set_option maxRecDepth 100000 in
theorem one_Bt_false (op x : Bs) (g off cap : Nat) (w : World) (hg : g < w.heap.size) (c0 : w.cell? ⟨g, off, none⟩ = some (str x))
    (hop : op.length ≤ 8000) (hx : x.length ≤ 4000000) (hm : many op = 1) (hsec : secret op = false) (rx : (term x).isSome = true) (hd : (op == [100, 104]) = false) (tb : (term (say op [x])).isSome = true) :
    Calls Try.prog 29 #[str op, .slice (some ⟨g, off, none⟩) 1 cap] w fun e w' => e = .returned (outVal (say op [x]) 0) ∧ Below w.heap.size w w' := by
  have c0a : (w.alloc (.cells #[.string ⟨#[]⟩, .int .i64 0] 36)).cell? ⟨g, off, none⟩ = some (str x) := (((Below.refl w.heap.size w).alloc (Nat.le_refl _) _).cell (p := ⟨g, off, none⟩) hg).trans c0
  have hga : g < (w.alloc (.cells #[.string ⟨#[]⟩, .int .i64 0] 36)).heap.size := by simp; omega
  unfold outVal
  clear c0
  have mc := many_at op 1 hm 1 rfl
  have sc := secret_at op false hsec
  have tx := right_big x true hx rx
  obtain ⟨T, hT⟩ : ∃ T, T = say op [x] := ⟨_, rfl⟩
  rw [← hT] at tb ⊢
  have tT := right_big T true (by rw [hT]; exact say_len1 op x hop (right_len rx)) tb
  have sy := fun (w' : World) k0 => say_one op x g off cap w' k0 (by omega) hx
  rw [← hT] at sy
  have SY := Lib.hid sy
  clear hT sy
  clear hm hsec tb rx
  go_enter Try.func29, Try.ntmps29
  go_wp2_with (go_at_call 48; refine (mc _).mono ?_; rintro e w' ⟨rfl, rfl⟩)
  refine wp_loop_rounds 2 ?_
  rw [rounds_succ]
  go_wp2_with fail
  refine (tx _).mono ?_
  rintro e w1 ⟨rfl, hb⟩
  have HB1 := Lib.hid hb
  have m1_0 := (HB1.out.cell (p := ⟨g, off, none⟩) hga).trans c0a
  clear hb
  go_wp2_with (go_at_call 49; refine (sc _).mono ?_; rintro e w' ⟨rfl, rfl⟩)
  rw [rounds_succ]
  go_wp2_with fail
  refine (SY.out _ m1_0).mono ?_
  rintro e w8 ⟨rfl, hb⟩
  have HB8 := Lib.hid (HB1.out.trans (hb.mono HB1.out.size))
  have m8_0 := (HB8.out.cell (p := ⟨g, off, none⟩) hga).trans c0a
  clear hb m1_0
  go_wp2_with fail
  refine (tT _).mono ?_
  rintro e w10 ⟨rfl, hb⟩
  have HB10 := Lib.hid (HB8.out.trans (hb.mono HB8.out.size))
  clear hb
  obtain ⟨q0, q1, f0, f1, hz⟩ := two (clo.new_kept HB10.out)
  go_wp2_with fail
  exact bodyPost_ret (v := .agg #[str T, .int .i64 0]) (by simp [results, Try.results29, go_sem, q0, q1]) rfl ⟨rfl, fin3 HB10.out _ _⟩

set_option maxHeartbeats 2000000 in
set_option maxRecDepth 100000 in
theorem one_Bf_false (op x : Bs) (g off cap : Nat) (w : World) (hg : g < w.heap.size) (c0 : w.cell? ⟨g, off, none⟩ = some (str x))
    (hop : op.length ≤ 8000) (hx : x.length ≤ 4000000) (hm : many op = 1) (hsec : secret op = false) (rx : (term x).isSome = true) (hd : (op == [100, 104]) = false) (tb : (term (say op [x])).isSome = false) :
    Calls Try.prog 29 #[str op, .slice (some ⟨g, off, none⟩) 1 cap] w fun e w' => e = .returned (outVal [] 9) ∧ Below w.heap.size w w' := by
  have c0a : (w.alloc (.cells #[.string ⟨#[]⟩, .int .i64 0] 36)).cell? ⟨g, off, none⟩ = some (str x) := (((Below.refl w.heap.size w).alloc (Nat.le_refl _) _).cell (p := ⟨g, off, none⟩) hg).trans c0
  have hga : g < (w.alloc (.cells #[.string ⟨#[]⟩, .int .i64 0] 36)).heap.size := by simp; omega
  unfold outVal
  clear c0
  have mc := many_at op 1 hm 1 rfl
  have sc := secret_at op false hsec
  have tx := right_big x true hx rx
  obtain ⟨T, hT⟩ : ∃ T, T = say op [x] := ⟨_, rfl⟩
  rw [← hT] at tb
  have tT := right_big T false (by rw [hT]; exact say_len1 op x hop (right_len rx)) tb
  have sy := fun (w' : World) k0 => say_one op x g off cap w' k0 (by omega) hx
  rw [← hT] at sy
  have SY := Lib.hid sy
  clear hT sy
  clear hm hsec tb rx
  go_enter Try.func29, Try.ntmps29
  go_wp2_with (go_at_call 48; refine (mc _).mono ?_; rintro e w' ⟨rfl, rfl⟩)
  refine wp_loop_rounds 2 ?_
  rw [rounds_succ]
  go_wp2_with fail
  refine (tx _).mono ?_
  rintro e w1 ⟨rfl, hb⟩
  have HB1 := Lib.hid hb
  have m1_0 := (HB1.out.cell (p := ⟨g, off, none⟩) hga).trans c0a
  clear hb
  go_wp2_with (go_at_call 49; refine (sc _).mono ?_; rintro e w' ⟨rfl, rfl⟩)
  rw [rounds_succ]
  go_wp2_with fail
  refine (SY.out _ m1_0).mono ?_
  rintro e w8 ⟨rfl, hb⟩
  have HB8 := Lib.hid (HB1.out.trans (hb.mono HB1.out.size))
  have m8_0 := (HB8.out.cell (p := ⟨g, off, none⟩) hga).trans c0a
  clear hb m1_0
  go_wp2_with fail
  refine (tT _).mono ?_
  rintro e w10 ⟨rfl, hb⟩
  have HB10 := Lib.hid (HB8.out.trans (hb.mono HB8.out.size))
  clear hb
  obtain ⟨q0, q1, f0, f1, hz⟩ := two (clo.new_kept HB10.out)
  go_wp2_with fail
  exact bodyPost_ret (v := .agg #[.string ⟨#[]⟩, .int .i64 9]) (by simp [results, Try.results29, go_sem, q0, q1]) rfl ⟨rfl, fin3 HB10.out _ _⟩

set_option maxHeartbeats 2000000 in
set_option maxRecDepth 100000 in
theorem one_Dt_true (op x : Bs) (g off cap : Nat) (w : World) (hg : g < w.heap.size) (c0 : w.cell? ⟨g, off, none⟩ = some (str x))
    (hop : op.length ≤ 8000) (hx : x.length ≤ 4000000) (hm : many op = 1) (hsec : secret op = true) (rx : (term x).isSome = true) (zx : atomR x = true) (hd : (op == [100, 104]) = false) (tb : (term (say op [x])).isSome = true) :
    Calls Try.prog 29 #[str op, .slice (some ⟨g, off, none⟩) 1 cap] w fun e w' => e = .returned (outVal (say op [x]) 0) ∧ Below w.heap.size w w' := by
  have c0a : (w.alloc (.cells #[.string ⟨#[]⟩, .int .i64 0] 36)).cell? ⟨g, off, none⟩ = some (str x) := (((Below.refl w.heap.size w).alloc (Nat.le_refl _) _).cell (p := ⟨g, off, none⟩) hg).trans c0
  have hga : g < (w.alloc (.cells #[.string ⟨#[]⟩, .int .i64 0] 36)).heap.size := by simp; omega
  unfold outVal
  clear c0
  have mc := many_at op 1 hm 1 rfl
  have sc := secret_at op true hsec
  have tx := right_big x true hx rx
  have ax := atom_at x true rx zx
  obtain ⟨T, hT⟩ : ∃ T, T = say op [x] := ⟨_, rfl⟩
  rw [← hT] at tb ⊢
  have tT := right_big T true (by rw [hT]; exact say_len1 op x hop (right_len rx)) tb
  have sy := fun (w' : World) k0 => say_one op x g off cap w' k0 (by omega) hx
  rw [← hT] at sy
  have SY := Lib.hid sy
  clear hT sy
  clear hm hsec tb rx zx
  go_enter Try.func29, Try.ntmps29
  go_wp2_with (go_at_call 48; refine (mc _).mono ?_; rintro e w' ⟨rfl, rfl⟩)
  refine wp_loop_rounds 2 ?_
  rw [rounds_succ]
  go_wp2_with fail
  refine (tx _).mono ?_
  rintro e w1 ⟨rfl, hb⟩
  have HB1 := Lib.hid hb
  have m1_0 := (HB1.out.cell (p := ⟨g, off, none⟩) hga).trans c0a
  clear hb
  go_wp2_with (first | (go_at_call 49; refine (sc _).mono ?_; rintro e w' ⟨rfl, rfl⟩) | (go_at_call 50; refine (ax _).mono ?_; rintro e w' ⟨rfl, rfl⟩))
  rw [rounds_succ]
  go_wp2_with fail
  refine (SY.out _ m1_0).mono ?_
  rintro e w8 ⟨rfl, hb⟩
  have HB8 := Lib.hid (HB1.out.trans (hb.mono HB1.out.size))
  have m8_0 := (HB8.out.cell (p := ⟨g, off, none⟩) hga).trans c0a
  clear hb m1_0
  go_wp2_with fail
  refine (tT _).mono ?_
  rintro e w10 ⟨rfl, hb⟩
  have HB10 := Lib.hid (HB8.out.trans (hb.mono HB8.out.size))
  clear hb
  obtain ⟨q0, q1, f0, f1, hz⟩ := two (clo.new_kept HB10.out)
  go_wp2_with fail
  exact bodyPost_ret (v := .agg #[str T, .int .i64 0]) (by simp [results, Try.results29, go_sem, q0, q1]) rfl ⟨rfl, fin3 HB10.out _ _⟩

set_option maxHeartbeats 2000000 in
set_option maxRecDepth 100000 in
theorem one_Df_true (op x : Bs) (g off cap : Nat) (w : World) (hg : g < w.heap.size) (c0 : w.cell? ⟨g, off, none⟩ = some (str x))
    (hop : op.length ≤ 8000) (hx : x.length ≤ 4000000) (hm : many op = 1) (hsec : secret op = true) (rx : (term x).isSome = true) (zx : atomR x = true) (hd : (op == [100, 104]) = false) (tb : (term (say op [x])).isSome = false) :
    Calls Try.prog 29 #[str op, .slice (some ⟨g, off, none⟩) 1 cap] w fun e w' => e = .returned (outVal [] 9) ∧ Below w.heap.size w w' := by
  have c0a : (w.alloc (.cells #[.string ⟨#[]⟩, .int .i64 0] 36)).cell? ⟨g, off, none⟩ = some (str x) := (((Below.refl w.heap.size w).alloc (Nat.le_refl _) _).cell (p := ⟨g, off, none⟩) hg).trans c0
  have hga : g < (w.alloc (.cells #[.string ⟨#[]⟩, .int .i64 0] 36)).heap.size := by simp; omega
  unfold outVal
  clear c0
  have mc := many_at op 1 hm 1 rfl
  have sc := secret_at op true hsec
  have tx := right_big x true hx rx
  have ax := atom_at x true rx zx
  obtain ⟨T, hT⟩ : ∃ T, T = say op [x] := ⟨_, rfl⟩
  rw [← hT] at tb
  have tT := right_big T false (by rw [hT]; exact say_len1 op x hop (right_len rx)) tb
  have sy := fun (w' : World) k0 => say_one op x g off cap w' k0 (by omega) hx
  rw [← hT] at sy
  have SY := Lib.hid sy
  clear hT sy
  clear hm hsec tb rx zx
  go_enter Try.func29, Try.ntmps29
  go_wp2_with (go_at_call 48; refine (mc _).mono ?_; rintro e w' ⟨rfl, rfl⟩)
  refine wp_loop_rounds 2 ?_
  rw [rounds_succ]
  go_wp2_with fail
  refine (tx _).mono ?_
  rintro e w1 ⟨rfl, hb⟩
  have HB1 := Lib.hid hb
  have m1_0 := (HB1.out.cell (p := ⟨g, off, none⟩) hga).trans c0a
  clear hb
  go_wp2_with (first | (go_at_call 49; refine (sc _).mono ?_; rintro e w' ⟨rfl, rfl⟩) | (go_at_call 50; refine (ax _).mono ?_; rintro e w' ⟨rfl, rfl⟩))
  rw [rounds_succ]
  go_wp2_with fail
  refine (SY.out _ m1_0).mono ?_
  rintro e w8 ⟨rfl, hb⟩
  have HB8 := Lib.hid (HB1.out.trans (hb.mono HB1.out.size))
  have m8_0 := (HB8.out.cell (p := ⟨g, off, none⟩) hga).trans c0a
  clear hb m1_0
  go_wp2_with fail
  refine (tT _).mono ?_
  rintro e w10 ⟨rfl, hb⟩
  have HB10 := Lib.hid (HB8.out.trans (hb.mono HB8.out.size))
  clear hb
  obtain ⟨q0, q1, f0, f1, hz⟩ := two (clo.new_kept HB10.out)
  go_wp2_with fail
  exact bodyPost_ret (v := .agg #[.string ⟨#[]⟩, .int .i64 9]) (by simp [results, Try.results29, go_sem, q0, q1]) rfl ⟨rfl, fin3 HB10.out _ _⟩

set_option maxHeartbeats 2000000 in
set_option maxRecDepth 100000 in
theorem two_A_false (op x y : Bs) (g off cap : Nat) (w : World) (hg : g < w.heap.size) (c0 : w.cell? ⟨g, off, none⟩ = some (str x)) (c1 : w.cell? ⟨g, off + 1, none⟩ = some (str y))
    (hop : op.length ≤ 8000) (hx : x.length ≤ 4000000) (hy : y.length ≤ 4000000) (hm : many op = 2) (hsec : secret op = false) (rx : (term x).isSome = false) :
    Calls Try.prog 29 #[str op, .slice (some ⟨g, off, none⟩) 2 cap] w fun e w' => e = .returned (outVal [] 1) ∧ Below w.heap.size w w' := by
  have c0a : (w.alloc (.cells #[.string ⟨#[]⟩, .int .i64 0] 36)).cell? ⟨g, off, none⟩ = some (str x) := (((Below.refl w.heap.size w).alloc (Nat.le_refl _) _).cell (p := ⟨g, off, none⟩) hg).trans c0
  have c1a : (w.alloc (.cells #[.string ⟨#[]⟩, .int .i64 0] 36)).cell? ⟨g, off + 1, none⟩ = some (str y) := (((Below.refl w.heap.size w).alloc (Nat.le_refl _) _).cell (p := ⟨g, off + 1, none⟩) hg).trans c1
  have hga : g < (w.alloc (.cells #[.string ⟨#[]⟩, .int .i64 0] 36)).heap.size := by simp; omega
  unfold outVal
  clear c0 c1
  have mc := many_at op 2 hm 2 rfl
  have sc := secret_at op false hsec
  have tx := right_big x false hx rx
  clear hm hsec rx
  go_enter Try.func29, Try.ntmps29
  go_wp2_with (go_at_call 48; refine (mc _).mono ?_; rintro e w' ⟨rfl, rfl⟩)
  refine wp_loop_rounds 3 ?_
  rw [rounds_succ]
  go_wp2_with fail
  refine (tx _).mono ?_
  rintro e w1 ⟨rfl, hb⟩
  have HB1 := Lib.hid hb
  have m1_0 := (HB1.out.cell (p := ⟨g, off, none⟩) hga).trans c0a
  have m1_1 := (HB1.out.cell (p := ⟨g, off + 1, none⟩) hga).trans c1a
  clear hb
  obtain ⟨q0, q1, f0, f1, hz⟩ := two (clo.new_kept HB1.out)
  go_wp2_with fail
  exact bodyPost_ret (v := .agg #[.string ⟨#[]⟩, .int .i64 1]) (by simp [results, Try.results29, go_sem, q0, q1]) rfl ⟨rfl, fin3 HB1.out _ _⟩

set_option maxHeartbeats 2000000 in
set_option maxRecDepth 100000 in
theorem two_BA_false (op x y : Bs) (g off cap : Nat) (w : World) (hg : g < w.heap.size) (c0 : w.cell? ⟨g, off, none⟩ = some (str x)) (c1 : w.cell? ⟨g, off + 1, none⟩ = some (str y))
    (hop : op.length ≤ 8000) (hx : x.length ≤ 4000000) (hy : y.length ≤ 4000000) (hm : many op = 2) (hsec : secret op = false) (rx : (term x).isSome = true) (ry : (term y).isSome = false) :
    Calls Try.prog 29 #[str op, .slice (some ⟨g, off, none⟩) 2 cap] w fun e w' => e = .returned (outVal [] 1) ∧ Below w.heap.size w w' := by
  have c0a : (w.alloc (.cells #[.string ⟨#[]⟩, .int .i64 0] 36)).cell? ⟨g, off, none⟩ = some (str x) := (((Below.refl w.heap.size w).alloc (Nat.le_refl _) _).cell (p := ⟨g, off, none⟩) hg).trans c0
  have c1a : (w.alloc (.cells #[.string ⟨#[]⟩, .int .i64 0] 36)).cell? ⟨g, off + 1, none⟩ = some (str y) := (((Below.refl w.heap.size w).alloc (Nat.le_refl _) _).cell (p := ⟨g, off + 1, none⟩) hg).trans c1
  have hga : g < (w.alloc (.cells #[.string ⟨#[]⟩, .int .i64 0] 36)).heap.size := by simp; omega
  unfold outVal
  clear c0 c1
  have mc := many_at op 2 hm 2 rfl
  have sc := secret_at op false hsec
  have tx := right_big x true hx rx
  have ty := right_big y false hy ry
  clear hm hsec rx ry
  go_enter Try.func29, Try.ntmps29
  go_wp2_with (go_at_call 48; refine (mc _).mono ?_; rintro e w' ⟨rfl, rfl⟩)
  refine wp_loop_rounds 3 ?_
  rw [rounds_succ]
  go_wp2_with fail
  refine (tx _).mono ?_
  rintro e w1 ⟨rfl, hb⟩
  have HB1 := Lib.hid hb
  have m1_0 := (HB1.out.cell (p := ⟨g, off, none⟩) hga).trans c0a
  have m1_1 := (HB1.out.cell (p := ⟨g, off + 1, none⟩) hga).trans c1a
  clear hb
  go_wp2_with (go_at_call 49; refine (sc _).mono ?_; rintro e w' ⟨rfl, rfl⟩)
  rw [rounds_succ]
  go_wp2_with fail
  refine (ty _).mono ?_
  rintro e w2 ⟨rfl, hb⟩
  have HB2 := Lib.hid (HB1.out.trans (hb.mono HB1.out.size))
  have m2_0 := (HB2.out.cell (p := ⟨g, off, none⟩) hga).trans c0a
  have m2_1 := (HB2.out.cell (p := ⟨g, off + 1, none⟩) hga).trans c1a
  clear hb m1_0 m1_1
  obtain ⟨q0, q1, f0, f1, hz⟩ := two (clo.new_kept HB2.out)
  go_wp2_with fail
  exact bodyPost_ret (v := .agg #[.string ⟨#[]⟩, .int .i64 1]) (by simp [results, Try.results29, go_sem, q0, q1]) rfl ⟨rfl, fin3 HB2.out _ _⟩

set_option maxHeartbeats 2000000 in
set_option maxRecDepth 100000 in
theorem two_BBt_false (op x y : Bs) (g off cap : Nat) (w : World) (hg : g < w.heap.size) (c0 : w.cell? ⟨g, off, none⟩ = some (str x)) (c1 : w.cell? ⟨g, off + 1, none⟩ = some (str y))
    (hop : op.length ≤ 8000) (hx : x.length ≤ 4000000) (hy : y.length ≤ 4000000) (hm : many op = 2) (hsec : secret op = false) (rx : (term x).isSome = true) (ry : (term y).isSome = true) (hd : (op == [100, 104]) = false) (tb : (term (say op [x, y])).isSome = true) :
    Calls Try.prog 29 #[str op, .slice (some ⟨g, off, none⟩) 2 cap] w fun e w' => e = .returned (outVal (say op [x, y]) 0) ∧ Below w.heap.size w w' := by
  have c0a : (w.alloc (.cells #[.string ⟨#[]⟩, .int .i64 0] 36)).cell? ⟨g, off, none⟩ = some (str x) := (((Below.refl w.heap.size w).alloc (Nat.le_refl _) _).cell (p := ⟨g, off, none⟩) hg).trans c0
  have c1a : (w.alloc (.cells #[.string ⟨#[]⟩, .int .i64 0] 36)).cell? ⟨g, off + 1, none⟩ = some (str y) := (((Below.refl w.heap.size w).alloc (Nat.le_refl _) _).cell (p := ⟨g, off + 1, none⟩) hg).trans c1
  have hga : g < (w.alloc (.cells #[.string ⟨#[]⟩, .int .i64 0] 36)).heap.size := by simp; omega
  unfold outVal
  clear c0 c1
  have mc := many_at op 2 hm 2 rfl
  have sc := secret_at op false hsec
  have tx := right_big x true hx rx
  have ty := right_big y true hy ry
  obtain ⟨T, hT⟩ : ∃ T, T = say op [x, y] := ⟨_, rfl⟩
  rw [← hT] at tb ⊢
  have tT := right_big T true (by rw [hT]; exact say_len2 op x y hop (right_len rx) (right_len ry)) tb
  have sy := fun (w' : World) k0 k1 => say_two op x y g off cap w' k0 k1 (by omega) hx hy
  rw [← hT] at sy
  have SY := Lib.hid sy
  clear hT sy
  clear hm hsec tb rx ry
  go_enter Try.func29, Try.ntmps29
  go_wp2_with (go_at_call 48; refine (mc _).mono ?_; rintro e w' ⟨rfl, rfl⟩)
  refine wp_loop_rounds 3 ?_
  rw [rounds_succ]
  go_wp2_with fail
  refine (tx _).mono ?_
  rintro e w1 ⟨rfl, hb⟩
  have HB1 := Lib.hid hb
  have m1_0 := (HB1.out.cell (p := ⟨g, off, none⟩) hga).trans c0a
  have m1_1 := (HB1.out.cell (p := ⟨g, off + 1, none⟩) hga).trans c1a
  clear hb
  go_wp2_with (go_at_call 49; refine (sc _).mono ?_; rintro e w' ⟨rfl, rfl⟩)
  rw [rounds_succ]
  go_wp2_with fail
  refine (ty _).mono ?_
  rintro e w2 ⟨rfl, hb⟩
  have HB2 := Lib.hid (HB1.out.trans (hb.mono HB1.out.size))
  have m2_0 := (HB2.out.cell (p := ⟨g, off, none⟩) hga).trans c0a
  have m2_1 := (HB2.out.cell (p := ⟨g, off + 1, none⟩) hga).trans c1a
  clear hb m1_0 m1_1
  go_wp2_with (go_at_call 49; refine (sc _).mono ?_; rintro e w' ⟨rfl, rfl⟩)
  rw [rounds_succ]
  go_wp2_with fail
  refine (SY.out _ m2_0 m2_1).mono ?_
  rintro e w8 ⟨rfl, hb⟩
  have HB8 := Lib.hid (HB2.out.trans (hb.mono HB2.out.size))
  have m8_0 := (HB8.out.cell (p := ⟨g, off, none⟩) hga).trans c0a
  have m8_1 := (HB8.out.cell (p := ⟨g, off + 1, none⟩) hga).trans c1a
  clear hb m2_0 m2_1
  go_wp2_with fail
  refine (tT _).mono ?_
  rintro e w10 ⟨rfl, hb⟩
  have HB10 := Lib.hid (HB8.out.trans (hb.mono HB8.out.size))
  clear hb
  obtain ⟨q0, q1, f0, f1, hz⟩ := two (clo.new_kept HB10.out)
  go_wp2_with fail
  exact bodyPost_ret (v := .agg #[str T, .int .i64 0]) (by simp [results, Try.results29, go_sem, q0, q1]) rfl ⟨rfl, fin3 HB10.out _ _⟩

set_option maxHeartbeats 2000000 in
set_option maxRecDepth 100000 in
theorem two_BBf_false (op x y : Bs) (g off cap : Nat) (w : World) (hg : g < w.heap.size) (c0 : w.cell? ⟨g, off, none⟩ = some (str x)) (c1 : w.cell? ⟨g, off + 1, none⟩ = some (str y))
    (hop : op.length ≤ 8000) (hx : x.length ≤ 4000000) (hy : y.length ≤ 4000000) (hm : many op = 2) (hsec : secret op = false) (rx : (term x).isSome = true) (ry : (term y).isSome = true) (hd : (op == [100, 104]) = false) (tb : (term (say op [x, y])).isSome = false) :
    Calls Try.prog 29 #[str op, .slice (some ⟨g, off, none⟩) 2 cap] w fun e w' => e = .returned (outVal [] 9) ∧ Below w.heap.size w w' := by
  have c0a : (w.alloc (.cells #[.string ⟨#[]⟩, .int .i64 0] 36)).cell? ⟨g, off, none⟩ = some (str x) := (((Below.refl w.heap.size w).alloc (Nat.le_refl _) _).cell (p := ⟨g, off, none⟩) hg).trans c0
  have c1a : (w.alloc (.cells #[.string ⟨#[]⟩, .int .i64 0] 36)).cell? ⟨g, off + 1, none⟩ = some (str y) := (((Below.refl w.heap.size w).alloc (Nat.le_refl _) _).cell (p := ⟨g, off + 1, none⟩) hg).trans c1
  have hga : g < (w.alloc (.cells #[.string ⟨#[]⟩, .int .i64 0] 36)).heap.size := by simp; omega
  unfold outVal
  clear c0 c1
  have mc := many_at op 2 hm 2 rfl
  have sc := secret_at op false hsec
  have tx := right_big x true hx rx
  have ty := right_big y true hy ry
  obtain ⟨T, hT⟩ : ∃ T, T = say op [x, y] := ⟨_, rfl⟩
  rw [← hT] at tb
  have tT := right_big T false (by rw [hT]; exact say_len2 op x y hop (right_len rx) (right_len ry)) tb
  have sy := fun (w' : World) k0 k1 => say_two op x y g off cap w' k0 k1 (by omega) hx hy
  rw [← hT] at sy
  have SY := Lib.hid sy
  clear hT sy
  clear hm hsec tb rx ry
  go_enter Try.func29, Try.ntmps29
  go_wp2_with (go_at_call 48; refine (mc _).mono ?_; rintro e w' ⟨rfl, rfl⟩)
  refine wp_loop_rounds 3 ?_
  rw [rounds_succ]
  go_wp2_with fail
  refine (tx _).mono ?_
  rintro e w1 ⟨rfl, hb⟩
  have HB1 := Lib.hid hb
  have m1_0 := (HB1.out.cell (p := ⟨g, off, none⟩) hga).trans c0a
  have m1_1 := (HB1.out.cell (p := ⟨g, off + 1, none⟩) hga).trans c1a
  clear hb
  go_wp2_with (go_at_call 49; refine (sc _).mono ?_; rintro e w' ⟨rfl, rfl⟩)
  rw [rounds_succ]
  go_wp2_with fail
  refine (ty _).mono ?_
  rintro e w2 ⟨rfl, hb⟩
  have HB2 := Lib.hid (HB1.out.trans (hb.mono HB1.out.size))
  have m2_0 := (HB2.out.cell (p := ⟨g, off, none⟩) hga).trans c0a
  have m2_1 := (HB2.out.cell (p := ⟨g, off + 1, none⟩) hga).trans c1a
  clear hb m1_0 m1_1
  go_wp2_with (go_at_call 49; refine (sc _).mono ?_; rintro e w' ⟨rfl, rfl⟩)
  rw [rounds_succ]
  go_wp2_with fail
  refine (SY.out _ m2_0 m2_1).mono ?_
  rintro e w8 ⟨rfl, hb⟩
  have HB8 := Lib.hid (HB2.out.trans (hb.mono HB2.out.size))
  have m8_0 := (HB8.out.cell (p := ⟨g, off, none⟩) hga).trans c0a
  have m8_1 := (HB8.out.cell (p := ⟨g, off + 1, none⟩) hga).trans c1a
  clear hb m2_0 m2_1
  go_wp2_with fail
  refine (tT _).mono ?_
  rintro e w10 ⟨rfl, hb⟩
  have HB10 := Lib.hid (HB8.out.trans (hb.mono HB8.out.size))
  clear hb
  obtain ⟨q0, q1, f0, f1, hz⟩ := two (clo.new_kept HB10.out)
  go_wp2_with fail
  exact bodyPost_ret (v := .agg #[.string ⟨#[]⟩, .int .i64 9]) (by simp [results, Try.results29, go_sem, q0, q1]) rfl ⟨rfl, fin3 HB10.out _ _⟩

set_option maxHeartbeats 2000000 in
set_option maxRecDepth 100000 in
theorem two_A_true (op x y : Bs) (g off cap : Nat) (w : World) (hg : g < w.heap.size) (c0 : w.cell? ⟨g, off, none⟩ = some (str x)) (c1 : w.cell? ⟨g, off + 1, none⟩ = some (str y))
    (hop : op.length ≤ 8000) (hx : x.length ≤ 4000000) (hy : y.length ≤ 4000000) (hm : many op = 2) (hsec : secret op = true) (rx : (term x).isSome = false) :
    Calls Try.prog 29 #[str op, .slice (some ⟨g, off, none⟩) 2 cap] w fun e w' => e = .returned (outVal [] 1) ∧ Below w.heap.size w w' := by
  have c0a : (w.alloc (.cells #[.string ⟨#[]⟩, .int .i64 0] 36)).cell? ⟨g, off, none⟩ = some (str x) := (((Below.refl w.heap.size w).alloc (Nat.le_refl _) _).cell (p := ⟨g, off, none⟩) hg).trans c0
  have c1a : (w.alloc (.cells #[.string ⟨#[]⟩, .int .i64 0] 36)).cell? ⟨g, off + 1, none⟩ = some (str y) := (((Below.refl w.heap.size w).alloc (Nat.le_refl _) _).cell (p := ⟨g, off + 1, none⟩) hg).trans c1
  have hga : g < (w.alloc (.cells #[.string ⟨#[]⟩, .int .i64 0] 36)).heap.size := by simp; omega
  unfold outVal
  clear c0 c1
  have mc := many_at op 2 hm 2 rfl
  have sc := secret_at op true hsec
  have tx := right_big x false hx rx
  clear hm hsec rx
  go_enter Try.func29, Try.ntmps29
  go_wp2_with (go_at_call 48; refine (mc _).mono ?_; rintro e w' ⟨rfl, rfl⟩)
  refine wp_loop_rounds 3 ?_
  rw [rounds_succ]
  go_wp2_with fail
  refine (tx _).mono ?_
  rintro e w1 ⟨rfl, hb⟩
  have HB1 := Lib.hid hb
  have m1_0 := (HB1.out.cell (p := ⟨g, off, none⟩) hga).trans c0a
  have m1_1 := (HB1.out.cell (p := ⟨g, off + 1, none⟩) hga).trans c1a
  clear hb
  obtain ⟨q0, q1, f0, f1, hz⟩ := two (clo.new_kept HB1.out)
  go_wp2_with fail
  exact bodyPost_ret (v := .agg #[.string ⟨#[]⟩, .int .i64 1]) (by simp [results, Try.results29, go_sem, q0, q1]) rfl ⟨rfl, fin3 HB1.out _ _⟩

set_option maxHeartbeats 2000000 in
set_option maxRecDepth 100000 in
theorem two_C_true (op x y : Bs) (g off cap : Nat) (w : World) (hg : g < w.heap.size) (c0 : w.cell? ⟨g, off, none⟩ = some (str x)) (c1 : w.cell? ⟨g, off + 1, none⟩ = some (str y))
    (hop : op.length ≤ 8000) (hx : x.length ≤ 4000000) (hy : y.length ≤ 4000000) (hm : many op = 2) (hsec : secret op = true) (rx : (term x).isSome = true) (zx : atomR x = false) :
    Calls Try.prog 29 #[str op, .slice (some ⟨g, off, none⟩) 2 cap] w fun e w' => e = .returned (outVal [] 1) ∧ Below w.heap.size w w' := by
  have c0a : (w.alloc (.cells #[.string ⟨#[]⟩, .int .i64 0] 36)).cell? ⟨g, off, none⟩ = some (str x) := (((Below.refl w.heap.size w).alloc (Nat.le_refl _) _).cell (p := ⟨g, off, none⟩) hg).trans c0
  have c1a : (w.alloc (.cells #[.string ⟨#[]⟩, .int .i64 0] 36)).cell? ⟨g, off + 1, none⟩ = some (str y) := (((Below.refl w.heap.size w).alloc (Nat.le_refl _) _).cell (p := ⟨g, off + 1, none⟩) hg).trans c1
  have hga : g < (w.alloc (.cells #[.string ⟨#[]⟩, .int .i64 0] 36)).heap.size := by simp; omega
  unfold outVal
  clear c0 c1
  have mc := many_at op 2 hm 2 rfl
  have sc := secret_at op true hsec
  have tx := right_big x true hx rx
  have ax := atom_at x false rx zx
  clear hm hsec rx zx
  go_enter Try.func29, Try.ntmps29
  go_wp2_with (go_at_call 48; refine (mc _).mono ?_; rintro e w' ⟨rfl, rfl⟩)
  refine wp_loop_rounds 3 ?_
  rw [rounds_succ]
  go_wp2_with fail
  refine (tx _).mono ?_
  rintro e w1 ⟨rfl, hb⟩
  have HB1 := Lib.hid hb
  have m1_0 := (HB1.out.cell (p := ⟨g, off, none⟩) hga).trans c0a
  have m1_1 := (HB1.out.cell (p := ⟨g, off + 1, none⟩) hga).trans c1a
  clear hb
  obtain ⟨q0, q1, f0, f1, hz⟩ := two (clo.new_kept HB1.out)
  go_wp2_with (first | (go_at_call 49; refine (sc _).mono ?_; rintro e w' ⟨rfl, rfl⟩) | (go_at_call 50; refine (ax _).mono ?_; rintro e w' ⟨rfl, rfl⟩))
  exact bodyPost_ret (v := .agg #[.string ⟨#[]⟩, .int .i64 1]) (by simp [results, Try.results29, go_sem, q0, q1]) rfl ⟨rfl, fin3 HB1.out _ _⟩

set_option maxHeartbeats 2000000 in
set_option maxRecDepth 100000 in
theorem two_DA_true (op x y : Bs) (g off cap : Nat) (w : World) (hg : g < w.heap.size) (c0 : w.cell? ⟨g, off, none⟩ = some (str x)) (c1 : w.cell? ⟨g, off + 1, none⟩ = some (str y))
    (hop : op.length ≤ 8000) (hx : x.length ≤ 4000000) (hy : y.length ≤ 4000000) (hm : many op = 2) (hsec : secret op = true) (rx : (term x).isSome = true) (zx : atomR x = true) (ry : (term y).isSome = false) :
    Calls Try.prog 29 #[str op, .slice (some ⟨g, off, none⟩) 2 cap] w fun e w' => e = .returned (outVal [] 1) ∧ Below w.heap.size w w' := by
  have c0a : (w.alloc (.cells #[.string ⟨#[]⟩, .int .i64 0] 36)).cell? ⟨g, off, none⟩ = some (str x) := (((Below.refl w.heap.size w).alloc (Nat.le_refl _) _).cell (p := ⟨g, off, none⟩) hg).trans c0
  have c1a : (w.alloc (.cells #[.string ⟨#[]⟩, .int .i64 0] 36)).cell? ⟨g, off + 1, none⟩ = some (str y) := (((Below.refl w.heap.size w).alloc (Nat.le_refl _) _).cell (p := ⟨g, off + 1, none⟩) hg).trans c1
  have hga : g < (w.alloc (.cells #[.string ⟨#[]⟩, .int .i64 0] 36)).heap.size := by simp; omega
  unfold outVal
  clear c0 c1
  have mc := many_at op 2 hm 2 rfl
  have sc := secret_at op true hsec
  have tx := right_big x true hx rx
  have ax := atom_at x true rx zx
  have ty := right_big y false hy ry
  clear hm hsec rx ry zx
  go_enter Try.func29, Try.ntmps29
  go_wp2_with (go_at_call 48; refine (mc _).mono ?_; rintro e w' ⟨rfl, rfl⟩)
  refine wp_loop_rounds 3 ?_
  rw [rounds_succ]
  go_wp2_with fail
  refine (tx _).mono ?_
  rintro e w1 ⟨rfl, hb⟩
  have HB1 := Lib.hid hb
  have m1_0 := (HB1.out.cell (p := ⟨g, off, none⟩) hga).trans c0a
  have m1_1 := (HB1.out.cell (p := ⟨g, off + 1, none⟩) hga).trans c1a
  clear hb
  go_wp2_with (first | (go_at_call 49; refine (sc _).mono ?_; rintro e w' ⟨rfl, rfl⟩) | (go_at_call 50; refine (ax _).mono ?_; rintro e w' ⟨rfl, rfl⟩))
  rw [rounds_succ]
  go_wp2_with fail
  refine (ty _).mono ?_
  rintro e w2 ⟨rfl, hb⟩
  have HB2 := Lib.hid (HB1.out.trans (hb.mono HB1.out.size))
  have m2_0 := (HB2.out.cell (p := ⟨g, off, none⟩) hga).trans c0a
  have m2_1 := (HB2.out.cell (p := ⟨g, off + 1, none⟩) hga).trans c1a
  clear hb m1_0 m1_1
  obtain ⟨q0, q1, f0, f1, hz⟩ := two (clo.new_kept HB2.out)
  go_wp2_with fail
  exact bodyPost_ret (v := .agg #[.string ⟨#[]⟩, .int .i64 1]) (by simp [results, Try.results29, go_sem, q0, q1]) rfl ⟨rfl, fin3 HB2.out _ _⟩

set_option maxHeartbeats 2000000 in
set_option maxRecDepth 100000 in
theorem two_DC_true (op x y : Bs) (g off cap : Nat) (w : World) (hg : g < w.heap.size) (c0 : w.cell? ⟨g, off, none⟩ = some (str x)) (c1 : w.cell? ⟨g, off + 1, none⟩ = some (str y))
    (hop : op.length ≤ 8000) (hx : x.length ≤ 4000000) (hy : y.length ≤ 4000000) (hm : many op = 2) (hsec : secret op = true) (rx : (term x).isSome = true) (zx : atomR x = true) (ry : (term y).isSome = true) (zy : atomR y = false) :
    Calls Try.prog 29 #[str op, .slice (some ⟨g, off, none⟩) 2 cap] w fun e w' => e = .returned (outVal [] 1) ∧ Below w.heap.size w w' := by
  have c0a : (w.alloc (.cells #[.string ⟨#[]⟩, .int .i64 0] 36)).cell? ⟨g, off, none⟩ = some (str x) := (((Below.refl w.heap.size w).alloc (Nat.le_refl _) _).cell (p := ⟨g, off, none⟩) hg).trans c0
  have c1a : (w.alloc (.cells #[.string ⟨#[]⟩, .int .i64 0] 36)).cell? ⟨g, off + 1, none⟩ = some (str y) := (((Below.refl w.heap.size w).alloc (Nat.le_refl _) _).cell (p := ⟨g, off + 1, none⟩) hg).trans c1
  have hga : g < (w.alloc (.cells #[.string ⟨#[]⟩, .int .i64 0] 36)).heap.size := by simp; omega
  unfold outVal
  clear c0 c1
  have mc := many_at op 2 hm 2 rfl
  have sc := secret_at op true hsec
  have tx := right_big x true hx rx
  have ax := atom_at x true rx zx
  have ty := right_big y true hy ry
  have ay := atom_at y false ry zy
  clear hm hsec rx ry zx zy
  go_enter Try.func29, Try.ntmps29
  go_wp2_with (go_at_call 48; refine (mc _).mono ?_; rintro e w' ⟨rfl, rfl⟩)
  refine wp_loop_rounds 3 ?_
  rw [rounds_succ]
  go_wp2_with fail
  refine (tx _).mono ?_
  rintro e w1 ⟨rfl, hb⟩
  have HB1 := Lib.hid hb
  have m1_0 := (HB1.out.cell (p := ⟨g, off, none⟩) hga).trans c0a
  have m1_1 := (HB1.out.cell (p := ⟨g, off + 1, none⟩) hga).trans c1a
  clear hb
  go_wp2_with (first | (go_at_call 49; refine (sc _).mono ?_; rintro e w' ⟨rfl, rfl⟩) | (go_at_call 50; refine (ax _).mono ?_; rintro e w' ⟨rfl, rfl⟩))
  rw [rounds_succ]
  go_wp2_with fail
  refine (ty _).mono ?_
  rintro e w2 ⟨rfl, hb⟩
  have HB2 := Lib.hid (HB1.out.trans (hb.mono HB1.out.size))
  have m2_0 := (HB2.out.cell (p := ⟨g, off, none⟩) hga).trans c0a
  have m2_1 := (HB2.out.cell (p := ⟨g, off + 1, none⟩) hga).trans c1a
  clear hb m1_0 m1_1
  obtain ⟨q0, q1, f0, f1, hz⟩ := two (clo.new_kept HB2.out)
  go_wp2_with (first | (go_at_call 49; refine (sc _).mono ?_; rintro e w' ⟨rfl, rfl⟩) | (go_at_call 50; refine (ay _).mono ?_; rintro e w' ⟨rfl, rfl⟩))
  exact bodyPost_ret (v := .agg #[.string ⟨#[]⟩, .int .i64 1]) (by simp [results, Try.results29, go_sem, q0, q1]) rfl ⟨rfl, fin3 HB2.out _ _⟩

set_option maxHeartbeats 2000000 in
set_option maxRecDepth 100000 in
theorem two_DDt_true (op x y : Bs) (g off cap : Nat) (w : World) (hg : g < w.heap.size) (c0 : w.cell? ⟨g, off, none⟩ = some (str x)) (c1 : w.cell? ⟨g, off + 1, none⟩ = some (str y))
    (hop : op.length ≤ 8000) (hx : x.length ≤ 4000000) (hy : y.length ≤ 4000000) (hm : many op = 2) (hsec : secret op = true) (rx : (term x).isSome = true) (zx : atomR x = true) (ry : (term y).isSome = true) (zy : atomR y = true) (hd : (op == [100, 104]) = true) (tb : (term (dhS x y)).isSome = true) :
    Calls Try.prog 29 #[str op, .slice (some ⟨g, off, none⟩) 2 cap] w fun e w' => e = .returned (outVal (dhS x y) 0) ∧ Below w.heap.size w w' := by
  have c0a : (w.alloc (.cells #[.string ⟨#[]⟩, .int .i64 0] 36)).cell? ⟨g, off, none⟩ = some (str x) := (((Below.refl w.heap.size w).alloc (Nat.le_refl _) _).cell (p := ⟨g, off, none⟩) hg).trans c0
  have c1a : (w.alloc (.cells #[.string ⟨#[]⟩, .int .i64 0] 36)).cell? ⟨g, off + 1, none⟩ = some (str y) := (((Below.refl w.heap.size w).alloc (Nat.le_refl _) _).cell (p := ⟨g, off + 1, none⟩) hg).trans c1
  have hga : g < (w.alloc (.cells #[.string ⟨#[]⟩, .int .i64 0] 36)).heap.size := by simp; omega
  unfold outVal
  clear c0 c1
  have mc := many_at op 2 hm 2 rfl
  have sc := secret_at op true hsec
  have tx := right_big x true hx rx
  have ax := atom_at x true rx zx
  have ty := right_big y true hy ry
  have ay := atom_at y true ry zy
  obtain ⟨T, hT⟩ : ∃ T, T = dhS x y := ⟨_, rfl⟩
  rw [← hT] at tb ⊢
  have tT := right_big T true (by rw [hT]; exact dhS_len x y (right_len rx) (right_len ry)) tb
  have sy := fun (w' : World) k0 k1 => say_two op x y g off cap w' k0 k1 (by omega) hx hy
  have dc := ssy.dh_calls x y hx hy
  rw [← hT] at dc
  have SY := Lib.hid sy
  clear hT sy
  clear hm hsec tb rx ry zx zy
  go_enter Try.func29, Try.ntmps29
  go_wp2_with (go_at_call 48; refine (mc _).mono ?_; rintro e w' ⟨rfl, rfl⟩)
  refine wp_loop_rounds 3 ?_
  rw [rounds_succ]
  go_wp2_with fail
  refine (tx _).mono ?_
  rintro e w1 ⟨rfl, hb⟩
  have HB1 := Lib.hid hb
  have m1_0 := (HB1.out.cell (p := ⟨g, off, none⟩) hga).trans c0a
  have m1_1 := (HB1.out.cell (p := ⟨g, off + 1, none⟩) hga).trans c1a
  clear hb
  go_wp2_with (first | (go_at_call 49; refine (sc _).mono ?_; rintro e w' ⟨rfl, rfl⟩) | (go_at_call 50; refine (ax _).mono ?_; rintro e w' ⟨rfl, rfl⟩))
  rw [rounds_succ]
  go_wp2_with fail
  refine (ty _).mono ?_
  rintro e w2 ⟨rfl, hb⟩
  have HB2 := Lib.hid (HB1.out.trans (hb.mono HB1.out.size))
  have m2_0 := (HB2.out.cell (p := ⟨g, off, none⟩) hga).trans c0a
  have m2_1 := (HB2.out.cell (p := ⟨g, off + 1, none⟩) hga).trans c1a
  clear hb m1_0 m1_1
  go_wp2_with (first | (go_at_call 49; refine (sc _).mono ?_; rintro e w' ⟨rfl, rfl⟩) | (go_at_call 50; refine (ay _).mono ?_; rintro e w' ⟨rfl, rfl⟩))
  rw [rounds_succ]
  go_wp2_with fail
  refine (SY.out _ m2_0 m2_1).mono ?_
  rintro e w8 ⟨rfl, hb⟩
  have HB8 := Lib.hid (HB2.out.trans (hb.mono HB2.out.size))
  have m8_0 := (HB8.out.cell (p := ⟨g, off, none⟩) hga).trans c0a
  have m8_1 := (HB8.out.cell (p := ⟨g, off + 1, none⟩) hga).trans c1a
  clear hb m2_0 m2_1
  have r0 := fun (d : Nat) (os : Array Obj) => cell_regrown (d := d) (os := os) m8_0
  have r1 := fun (d : Nat) (os : Array Obj) => cell_regrown (d := d) (os := os) m8_1
  go_wp2_with fail
  refine wp_region_quiet_below (by kernel_rfl) (by kernel_rfl) ?_
  repeat (quiet_step (exact Calls.regrown_of (dc _)))
  refine wpQuiet_nil ?_
  rintro w9 ⟨⟨dq, osq⟩, hw2⟩
  have hb2 : Below w8.heap.size w8 w9 := by rw [hw2]; exact below_regrown _ _ _
  have HB9 := Lib.hid (HB8.out.trans (hb2.mono HB8.out.size))
  clear hw2 hb2
  go_wp2_with fail
  refine (tT _).mono ?_
  rintro e w10 ⟨rfl, hb⟩
  have HB10 := Lib.hid (HB9.out.trans (hb.mono HB9.out.size))
  clear hb
  obtain ⟨q0, q1, f0, f1, hz⟩ := two (clo.new_kept HB10.out)
  go_wp2_with fail
  exact bodyPost_ret (v := .agg #[str T, .int .i64 0]) (by simp [results, Try.results29, go_sem, q0, q1]) rfl ⟨rfl, fin3 HB10.out _ _⟩

set_option maxHeartbeats 2000000 in
set_option maxRecDepth 100000 in
theorem two_DDf_true (op x y : Bs) (g off cap : Nat) (w : World) (hg : g < w.heap.size) (c0 : w.cell? ⟨g, off, none⟩ = some (str x)) (c1 : w.cell? ⟨g, off + 1, none⟩ = some (str y))
    (hop : op.length ≤ 8000) (hx : x.length ≤ 4000000) (hy : y.length ≤ 4000000) (hm : many op = 2) (hsec : secret op = true) (rx : (term x).isSome = true) (zx : atomR x = true) (ry : (term y).isSome = true) (zy : atomR y = true) (hd : (op == [100, 104]) = true) (tb : (term (dhS x y)).isSome = false) :
    Calls Try.prog 29 #[str op, .slice (some ⟨g, off, none⟩) 2 cap] w fun e w' => e = .returned (outVal [] 9) ∧ Below w.heap.size w w' := by
  have c0a : (w.alloc (.cells #[.string ⟨#[]⟩, .int .i64 0] 36)).cell? ⟨g, off, none⟩ = some (str x) := (((Below.refl w.heap.size w).alloc (Nat.le_refl _) _).cell (p := ⟨g, off, none⟩) hg).trans c0
  have c1a : (w.alloc (.cells #[.string ⟨#[]⟩, .int .i64 0] 36)).cell? ⟨g, off + 1, none⟩ = some (str y) := (((Below.refl w.heap.size w).alloc (Nat.le_refl _) _).cell (p := ⟨g, off + 1, none⟩) hg).trans c1
  have hga : g < (w.alloc (.cells #[.string ⟨#[]⟩, .int .i64 0] 36)).heap.size := by simp; omega
  unfold outVal
  clear c0 c1
  have mc := many_at op 2 hm 2 rfl
  have sc := secret_at op true hsec
  have tx := right_big x true hx rx
  have ax := atom_at x true rx zx
  have ty := right_big y true hy ry
  have ay := atom_at y true ry zy
  obtain ⟨T, hT⟩ : ∃ T, T = dhS x y := ⟨_, rfl⟩
  rw [← hT] at tb
  have tT := right_big T false (by rw [hT]; exact dhS_len x y (right_len rx) (right_len ry)) tb
  have sy := fun (w' : World) k0 k1 => say_two op x y g off cap w' k0 k1 (by omega) hx hy
  have dc := ssy.dh_calls x y hx hy
  rw [← hT] at dc
  have SY := Lib.hid sy
  clear hT sy
  clear hm hsec tb rx ry zx zy
  go_enter Try.func29, Try.ntmps29
  go_wp2_with (go_at_call 48; refine (mc _).mono ?_; rintro e w' ⟨rfl, rfl⟩)
  refine wp_loop_rounds 3 ?_
  rw [rounds_succ]
  go_wp2_with fail
  refine (tx _).mono ?_
  rintro e w1 ⟨rfl, hb⟩
  have HB1 := Lib.hid hb
  have m1_0 := (HB1.out.cell (p := ⟨g, off, none⟩) hga).trans c0a
  have m1_1 := (HB1.out.cell (p := ⟨g, off + 1, none⟩) hga).trans c1a
  clear hb
  go_wp2_with (first | (go_at_call 49; refine (sc _).mono ?_; rintro e w' ⟨rfl, rfl⟩) | (go_at_call 50; refine (ax _).mono ?_; rintro e w' ⟨rfl, rfl⟩))
  rw [rounds_succ]
  go_wp2_with fail
  refine (ty _).mono ?_
  rintro e w2 ⟨rfl, hb⟩
  have HB2 := Lib.hid (HB1.out.trans (hb.mono HB1.out.size))
  have m2_0 := (HB2.out.cell (p := ⟨g, off, none⟩) hga).trans c0a
  have m2_1 := (HB2.out.cell (p := ⟨g, off + 1, none⟩) hga).trans c1a
  clear hb m1_0 m1_1
  go_wp2_with (first | (go_at_call 49; refine (sc _).mono ?_; rintro e w' ⟨rfl, rfl⟩) | (go_at_call 50; refine (ay _).mono ?_; rintro e w' ⟨rfl, rfl⟩))
  rw [rounds_succ]
  go_wp2_with fail
  refine (SY.out _ m2_0 m2_1).mono ?_
  rintro e w8 ⟨rfl, hb⟩
  have HB8 := Lib.hid (HB2.out.trans (hb.mono HB2.out.size))
  have m8_0 := (HB8.out.cell (p := ⟨g, off, none⟩) hga).trans c0a
  have m8_1 := (HB8.out.cell (p := ⟨g, off + 1, none⟩) hga).trans c1a
  clear hb m2_0 m2_1
  have r0 := fun (d : Nat) (os : Array Obj) => cell_regrown (d := d) (os := os) m8_0
  have r1 := fun (d : Nat) (os : Array Obj) => cell_regrown (d := d) (os := os) m8_1
  go_wp2_with fail
  refine wp_region_quiet_below (by kernel_rfl) (by kernel_rfl) ?_
  repeat (quiet_step (exact Calls.regrown_of (dc _)))
  refine wpQuiet_nil ?_
  rintro w9 ⟨⟨dq, osq⟩, hw2⟩
  have hb2 : Below w8.heap.size w8 w9 := by rw [hw2]; exact below_regrown _ _ _
  have HB9 := Lib.hid (HB8.out.trans (hb2.mono HB8.out.size))
  clear hw2 hb2
  go_wp2_with fail
  refine (tT _).mono ?_
  rintro e w10 ⟨rfl, hb⟩
  have HB10 := Lib.hid (HB9.out.trans (hb.mono HB9.out.size))
  clear hb
  obtain ⟨q0, q1, f0, f1, hz⟩ := two (clo.new_kept HB10.out)
  go_wp2_with fail
  exact bodyPost_ret (v := .agg #[.string ⟨#[]⟩, .int .i64 9]) (by simp [results, Try.results29, go_sem, q0, q1]) rfl ⟨rfl, fin3 HB10.out _ _⟩


theorem makeR_args {op : Bs} {args : List Bs} (h1 : args.length ≤ 400) (h2 : op.length ≤ 8000) (hm : many op ≠ 0) (hl : args.length = many op) : makeR op args = if args.all (rights op) then finR (madeT op args) else ([], 1) := by
  unfold makeR
  rw [if_neg (by omega), if_neg (by omega)]

theorem rights_eq (op x : Bs) : rights op x = ((term x).isSome && (!secret op || atomR x)) := rfl

set_option maxHeartbeats 2000000 in
set_option maxRecDepth 100000 in
theorem specMake_calls (op : Bs) (ad : Option Addr) (n cap : Nat) (args : List Bs) (w : World) (hn : n = args.length) (h : Rds w (.slice ad n cap) args) (hop : op.length ≤ 4000000) (hl : args.length ≤ 4000000) (hs : ∀ x ∈ args, x.length ≤ 4000000) :
    Calls Try.prog 29 #[str op, .slice ad n cap] w fun e w' => e = .returned (outVal (makeR op args).1 (makeR op args).2) ∧ Below w.heap.size w w' := by
  by_cases hsz : 400 < args.length ∨ 8000 < op.length
  · have : makeR op args = ([], 2) := by unfold makeR; rw [if_pos hsz]
    rw [this]
    unfold outVal
    clear this h hs
    by_cases h1 : 400 < args.length
    · have d1 : decide (400 < (n : Int)) = true := by simp; omega
      go_enter Try.func29, Try.ntmps29
      go_wp2_with fail
      exact bodyPost_ret (v := .agg #[.string ⟨#[]⟩, .int .i64 2]) (by simp [results, Try.results29, go_sem]) rfl ⟨rfl, (Below.refl _ _).alloc (Nat.le_refl _) _⟩
    · have d1 : decide (400 < (n : Int)) = false := by simp; omega
      have d2 : decide (8000 < (op.length : Int)) = true := by simp; omega
      go_enter Try.func29, Try.ntmps29
      go_wp2_with fail
      exact bodyPost_ret (v := .agg #[.string ⟨#[]⟩, .int .i64 2]) (by simp [results, Try.results29, go_sem]) rfl ⟨rfl, (Below.refl _ _).alloc (Nat.le_refl _) _⟩
  · have h1 : args.length ≤ 400 := by omega
    have h2 : op.length ≤ 8000 := by omega
    by_cases hsh : many op = 0 ∨ args.length ≠ many op
    · have : makeR op args = ([], 1) := by unfold makeR; rw [if_neg hsz, if_pos hsh]
      rw [this]
      unfold outVal
      have d1 : decide (400 < (n : Int)) = false := by simp; omega
      have d2 : decide (8000 < (op.length : Int)) = false := by simp; omega
      by_cases h0 : many op = 0
      · have mc := many_at op 0 h0 0 rfl
        clear this h hs h0 hsh hsz hn
        go_enter Try.func29, Try.ntmps29
        go_wp2_with (go_at_call 48; refine (mc _).mono ?_; rintro e w' ⟨rfl, rfl⟩)
        exact bodyPost_ret (v := .agg #[.string ⟨#[]⟩, .int .i64 1]) (by simp [results, Try.results29, go_sem]) rfl ⟨rfl, (Below.refl _ _).alloc (Nat.le_refl _) _⟩
      · obtain ⟨m, hm⟩ : ∃ m, many op = m := ⟨_, rfl⟩
        have mc := many_at op m hm m rfl
        have e1 : ((m : Int) == 0) = false := by rw [beq_eq_false_iff_ne]; omega
        have e2 : ((n : Int) == (m : Int)) = false := by rw [beq_eq_false_iff_ne]; omega
        clear this h hs h0 hsh hsz hn hm
        go_enter Try.func29, Try.ntmps29
        go_wp2_with (go_at_call 48; refine (mc _).mono ?_; rintro e w' ⟨rfl, rfl⟩)
        exact bodyPost_ret (v := .agg #[.string ⟨#[]⟩, .int .i64 1]) (by simp [results, Try.results29, go_sem]) rfl ⟨rfl, (Below.refl _ _).alloc (Nat.le_refl _) _⟩
    · have hm0 : many op ≠ 0 := by omega
      have hla : args.length = many op := by omega
      rw [makeR_args h1 h2 hm0 hla]
      have hcase : many op = 1 ∨ many op = 2 := by
        have : many op ≤ 2 := by unfold many; split; omega; split <;> omega
        omega
      subst hn
      rcases hcase with hm | hm
      · obtain ⟨x, rfl⟩ := List.length_eq_one_iff.1 (hla.trans hm)
        rcases h with ⟨h0, _⟩ | ⟨g, off, cap', e, hg, hc⟩
        · cases h0
        cases e
        have c0 : w.cell? ⟨g, off, none⟩ = some (str x) := by simpa using hc 0 x rfl
        have hx := hs x (by simp)
        have hd : op ≠ oDh := by rintro rfl; revert hm; decide
        have hd' : (op == [100, 104]) = false := by rw [beq_eq_false_iff_ne]; exact hd
        have hmt : madeT op [x] = say op [x] := by unfold madeT; rw [if_neg hd]
        rw [hmt]
        simp only [List.all_cons, List.all_nil, Bool.and_true, rights_eq]
        cases rx : (term x).isSome with
        | false =>
          simp only [Bool.false_and, Bool.false_eq_true, if_false]
          cases hsec : secret op with
          | false => exact one_A_false op x g off _ w hg c0 h2 hx hm hsec rx
          | true => exact one_A_true op x g off _ w hg c0 h2 hx hm hsec rx
        | true =>
          cases hsec : secret op with
          | false =>
            simp only [Bool.not_false, Bool.true_or, Bool.and_self, if_true]
            unfold finR
            cases tb : (term (say op [x])).isSome with
            | true => exact one_Bt_false op x g off _ w hg c0 h2 hx hm hsec rx hd' tb
            | false => exact one_Bf_false op x g off _ w hg c0 h2 hx hm hsec rx hd' tb
          | true =>
            cases zx : atomR x with
            | false =>
              simp only [Bool.not_true, Bool.or_self, Bool.and_false, Bool.false_eq_true, if_false]
              exact one_C_true op x g off _ w hg c0 h2 hx hm hsec rx zx
            | true =>
              simp only [Bool.not_true, Bool.or_true, Bool.and_self, if_true]
              unfold finR
              cases tb : (term (say op [x])).isSome with
              | true => exact one_Dt_true op x g off _ w hg c0 h2 hx hm hsec rx zx hd' tb
              | false => exact one_Df_true op x g off _ w hg c0 h2 hx hm hsec rx zx hd' tb
      · obtain ⟨x, y, rfl⟩ : ∃ x y, args = [x, y] := by
          match args, hla.trans hm with
          | [x, y], _ => exact ⟨x, y, rfl⟩
        rcases h with ⟨h0, _⟩ | ⟨g, off, cap', e, hg, hc⟩
        · cases h0
        cases e
        have c0 : w.cell? ⟨g, off, none⟩ = some (str x) := by simpa using hc 0 x rfl
        have c1 : w.cell? ⟨g, off + 1, none⟩ = some (str y) := by simpa using hc 1 y rfl
        have hx := hs x (by simp)
        have hy := hs y (by simp)
        simp only [List.all_cons, List.all_nil, Bool.and_true, rights_eq]
        cases hsec : secret op with
        | false =>
          have hd : op ≠ oDh := by rintro rfl; revert hsec; decide
          have hd' : (op == [100, 104]) = false := by rw [beq_eq_false_iff_ne]; exact hd
          have hmt : madeT op [x, y] = say op [x, y] := by unfold madeT; rw [if_neg hd]
          rw [hmt]
          simp only [Bool.not_false, Bool.true_or, Bool.and_true]
          cases rx : (term x).isSome with
          | false =>
            simp only [Bool.false_and, Bool.false_eq_true, if_false]
            exact two_A_false op x y g off _ w hg c0 c1 h2 hx hy hm hsec rx
          | true =>
            cases ry : (term y).isSome with
            | false =>
              simp only [Bool.and_false, Bool.false_eq_true, if_false]
              exact two_BA_false op x y g off _ w hg c0 c1 h2 hx hy hm hsec rx ry
            | true =>
              simp only [Bool.and_self, if_true]
              unfold finR
              cases tb : (term (say op [x, y])).isSome with
              | true => exact two_BBt_false op x y g off _ w hg c0 c1 h2 hx hy hm hsec rx ry hd' tb
              | false => exact two_BBf_false op x y g off _ w hg c0 c1 h2 hx hy hm hsec rx ry hd' tb
        | true =>
          have hd : op = oDh := by
            by_cases hp : op = oPub
            · subst hp; revert hm; decide
            · unfold secret at hsec
              simpa [hp] using hsec
          have hd' : (op == [100, 104]) = true := by rw [hd]; rfl
          have hmt : madeT op [x, y] = dhS x y := by unfold madeT; rw [if_pos hd]
          rw [hmt]
          simp only [Bool.not_true, Bool.false_or]
          cases rx : (term x).isSome with
          | false =>
            simp only [Bool.false_and, Bool.false_eq_true, if_false]
            exact two_A_true op x y g off _ w hg c0 c1 h2 hx hy hm hsec rx
          | true =>
            cases zx : atomR x with
            | false =>
              simp only [Bool.and_false, Bool.false_and, Bool.false_eq_true, if_false]
              exact two_C_true op x y g off _ w hg c0 c1 h2 hx hy hm hsec rx zx
            | true =>
              cases ry : (term y).isSome with
              | false =>
                simp only [Bool.false_and, Bool.and_false, Bool.false_eq_true, if_false]
                exact two_DA_true op x y g off _ w hg c0 c1 h2 hx hy hm hsec rx zx ry
              | true =>
                cases zy : atomR y with
                | false =>
                  simp only [Bool.and_false, Bool.false_eq_true, if_false]
                  exact two_DC_true op x y g off _ w hg c0 c1 h2 hx hy hm hsec rx zx ry zy
                | true =>
                  simp only [Bool.and_self, if_true]
                  unfold finR
                  cases tb : (term (dhS x y)).isSome with
                  | true => exact two_DDt_true op x y g off _ w hg c0 c1 h2 hx hy hm hsec rx zx ry zy hd' tb
                  | false => exact two_DDf_true op x y g off _ w hg c0 c1 h2 hx hy hm hsec rx zx ry zy hd' tb
end Go.Proofs.Ytdikjmhnjlalbab.smk
