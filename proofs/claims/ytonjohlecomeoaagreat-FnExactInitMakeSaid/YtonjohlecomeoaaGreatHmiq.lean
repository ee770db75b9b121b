/- The small functions of chapter 7, of the program. -/
import Derived.Test.YtonjohlecomeoaaGreatQl
import Derived.Test.YtonjohlecomeoaaGreatQk
import Derived.Test.YtonjohlecomeoaaGreatQj
import Derived.Test.YtonjohlecomeoaaGreatQf
import Derived.Test.YtonjohlecomeoaaGreatQe
namespace Go.Proofs.YtonjohlecomeoaaGreat.hmi
open Go.RowKit Go.Proofs.YtonjohlecomeoaaGreat.tm Go.Proofs.YtonjohlecomeoaaGreat.lib Go.Proofs.YtonjohlecomeoaaGreat.rdr Go.Proofs.YtonjohlecomeoaaGreat.bld Go.Proofs.YtonjohlecomeoaaGreat.prs Go.Proofs.YtonjohlecomeoaaGreat.snd Go.Proofs.YtonjohlecomeoaaGreat.sop Go.Proofs.YtonjohlecomeoaaGreat.iop Go.Proofs.YtonjohlecomeoaaGreat.mkp Go.Proofs.YtonjohlecomeoaaGreat.mrk Go.Proofs.YtonjohlecomeoaaGreat.ltq Go.Proofs.YtonjohlecomeoaaGreat.ltv Go.Proofs.YtonjohlecomeoaaGreat.ltp Go.Proofs.YtonjohlecomeoaaGreat.hdp Go.Proofs.YtonjohlecomeoaaGreat.hdv Go.Proofs.YtonjohlecomeoaaGreat.blw Go.Proofs.YtonjohlecomeoaaGreat.dhs Go.Proofs.YtonjohlecomeoaaGreat.gky Go.Proofs.YtonjohlecomeoaaGreat.ndo
set_option linter.unusedVariables false

def big (ls : List Bs) : Bool := ls.any fun x => decide (8000 < x.length)

set_option maxHeartbeats 1000000 in
set_option maxRecDepth 100000 in
theorem index_calls (ad : Option Addr) (n cap : Nat) (ls : List Bs) (w : World) (hn : n = ls.length) (h : Rds w (.slice ad n cap) ls) (hl : ls.length ≤ 1000) (hs : ∀ x ∈ ls, x.length ≤ 4000000) :
    Calls Tryz.prog 134 #[.slice ad n cap, .func (.func 102) #[] #[]] w fun e w' => ∃ k : Int, e = .returned (.int .i64 k) ∧ w = w' ∧ decide (0 ≤ k) = big ls := by
  have hcf : ∀ (v : Value) (w : World), (callFunc 102 #[v]).run Tryz.prog w = .ok (.enter 102 #[v]) w := fun v w => by kernel_rfl
  have hn2 : n ≤ 1000 := by omega
  have HN := Lib.hid hn
  have HS := Lib.hid hs
  have hat : ∀ j x, ls[j]? = some x → ∃ g off, ad = some ⟨g, off, none⟩ ∧ w.cell? ⟨g, off + j, none⟩ = some (str x) := by
    intro j x hj
    rcases h with ⟨rfl, _⟩ | ⟨g, off, cap', e, hg, hc⟩
    · simp at hj
    · cases e
      exact ⟨g, off, rfl, hc j x hj⟩
  have HA := Lib.hid hat
  clear h hat hs hn
  go_enter Tryz.func134, Tryz.ntmps134
  go_wp2_with fail
  go_loop [4, 5, 8, 9, 10, 11, 12, 13, 14, 15, 16, 17, 18] (fun _ _ vk _ _ _ _ _ _ _ _ _ _ => ∃ k : Nat, k ≤ n ∧ vk = .int .i64 k ∧ Hid (big (ls.take k) = false)) (fun _ _ vk _ _ _ _ _ _ _ _ _ _ => n - (intOf vk).toNat)
  case atStart => exact ⟨0, by omega, rfl, rfl⟩
  case round =>
    obtain ⟨k, hk, rfl, HQ⟩ := hrel
    by_cases hlt : k < n
    · obtain ⟨x, hx⟩ : ∃ x, ls[k]? = some x := ⟨_, List.getElem?_eq_getElem (by have := HN.out; omega)⟩
      obtain ⟨g, off, rfl, c0⟩ := HA.out k x hx
      have hxl := HS.out x (List.mem_of_getElem? hx)
      have htk : big (ls.take (k + 1)) = decide (8000 < x.length) := by
        unfold big
        rw [List.take_add_one, hx, List.any_append]
        have : (ls.take k).any (fun x => decide (8000 < x.length)) = false := HQ.out
        rw [this]
        simp
      have HK := Lib.hid htk
      have HX := Lib.hid hx
      cases hd : decide (8000 < x.length) with
      | true =>
        have T1 := Lib.hid (tooLong_calls x hxl true hd)
        have HD := Lib.hid hd
        clear htk hx hd hxl
        go_wp2_with fail
        refine (T1.out _).mono ?_
        rintro e w1 ⟨rfl, rfl⟩
        go_wp2_with fail
        go_ret
        refine ⟨_, rfl, rfl, ?_⟩
        have hb : big ls = true := by
          rw [← List.take_append_drop (k + 1) ls]
          unfold big
          rw [List.any_append]
          have := HK.out
          unfold big at this
          rw [this, HD.out]
          rfl
        rw [hb]
        simp
      | false =>
        have T1 := Lib.hid (tooLong_calls x hxl false hd)
        rw [hd] at htk
        have HK := Lib.hid htk
        clear htk hx hd hxl
        go_wp2_with fail
        refine (T1.out _).mono ?_
        rintro e w1 ⟨rfl, rfl⟩
        go_wp2_with fail
        go_round
        case rel => exact ⟨k + 1, by omega, by go_num, HK.out⟩
        case measure => simp [intOf]; omega
    · go_wp2_with fail
      go_ret
      refine ⟨_, rfl, rfl, ?_⟩
      have e : k = ls.length := by have := HN.out; omega
      have := HQ.out
      rw [e, List.take_length] at this
      rw [this]
      rfl

set_option maxHeartbeats 1000000 in
set_option maxRecDepth 100000 in
theorem contains_calls (ad : Option Addr) (n cap : Nat) (ls : List Bs) (w : World) (hn : n = ls.length) (h : Rds w (.slice ad n cap) ls) (hl : ls.length ≤ 1000) (hs : ∀ x ∈ ls, x.length ≤ 4000000) :
    Calls Tryz.prog 101 #[.slice ad n cap, .func (.func 102) #[] #[]] w fun e w' => e = .returned (.bool (big ls)) ∧ w = w' := by
  have C := Lib.hid (index_calls ad n cap ls w hn h hl hs)
  clear h hn hl hs
  go_enter Tryz.func101, Tryz.ntmps101
  go_wp2_with fail
  refine C.out.mono ?_
  rintro e w1 ⟨k, rfl, rfl, hk⟩
  have HK := Lib.hid hk
  clear hk
  go_wp2_with fail
  go_ret
  exact ⟨ret_bool HK.out, rfl⟩

theorem need_yes (c : Int) (w : World) : Calls Tryz.prog 50 #[.bool true, .int .i64 c] w fun e w' => e = .returned (.tuple #[]) ∧ w = w' := by
  go_enter Tryz.func50, Tryz.ntmps50
  go_wp2_with fail
  exact bodyPost_end (by simp [results, Tryz.results50, go_sem]) rfl ⟨rfl, rfl⟩
theorem need_no (c : Int) (w : World) : Calls Tryz.prog 50 #[.bool false, .int .i64 c] w fun e w' => e = fault c ∧ w = w' := by
  go_enter Tryz.func50, Tryz.ntmps50
  go_wp2_with (go_at_call 103; refine (refuse_calls _ _).mono ?_; rintro e w' ⟨rfl, rfl⟩)
  exact ⟨rfl, rfl, rfl⟩

set_option maxHeartbeats 1000000 in
set_option maxRecDepth 100000 in
theorem short_yes (ad : Option Addr) (n cap : Nat) (ls : List Bs) (w : World) (hn : n = ls.length) (h : Rds w (.slice ad n cap) ls) (hl : ls.length ≤ 1000) (hs : ∀ x ∈ ls, x.length ≤ 4000000) (hb : big ls = false) :
    Calls Tryz.prog 49 #[.slice ad n cap] w fun e w' => e = .returned (.tuple #[]) ∧ w = w' := by
  have c := contains_calls ad n cap ls w hn h hl hs
  rw [hb] at c
  have C := Lib.hid c
  clear c h hn hl hs
  go_enter Tryz.func49, Tryz.ntmps49
  go_wp2_with fail
  refine C.out.mono ?_
  rintro e w1 ⟨rfl, rfl⟩
  go_wp2_with fail
  refine (need_yes _ _).mono ?_
  rintro e w1 ⟨rfl, rfl⟩
  go_wp2_with fail
  exact bodyPost_end (by simp [results, Tryz.results49, go_sem]) rfl ⟨rfl, rfl⟩
set_option maxHeartbeats 1000000 in
set_option maxRecDepth 100000 in
theorem short_no (ad : Option Addr) (n cap : Nat) (ls : List Bs) (w : World) (hn : n = ls.length) (h : Rds w (.slice ad n cap) ls) (hl : ls.length ≤ 1000) (hs : ∀ x ∈ ls, x.length ≤ 4000000) (hb : big ls = true) :
    Calls Tryz.prog 49 #[.slice ad n cap] w fun e w' => e = fault 2 ∧ w = w' := by
  have c := contains_calls ad n cap ls w hn h hl hs
  rw [hb] at c
  have C := Lib.hid c
  clear c h hn hl hs
  go_enter Tryz.func49, Tryz.ntmps49
  go_wp2_with fail
  refine C.out.mono ?_
  rintro e w1 ⟨rfl, rfl⟩
  go_wp2_with fail
  refine (need_no _ _).mono ?_
  rintro e w1 ⟨rfl, rfl⟩
  exact ⟨rfl, rfl, rfl⟩

set_option maxHeartbeats 1000000 in
set_option maxRecDepth 100000 in
theorem begun_calls (l z : Bs) (hl : l.length ≤ 4000000) (hz : (makeR oHash [l]).1 = z) (w : World) :
    Calls Tryz.prog 56 #[str l] w fun e w' => e = .returned (str z) ∧ Below w.heap.size w w' := by
  have c2 := fun (w : World) (b : Nat) h0 hb => madeOne oHash l b 1 w h0 hb (by decide) hl z hz
  have C2 := Lib.hid c2
  unfold oHash at C2
  clear c2 hl hz
  go_enter Tryz.func56, Tryz.ntmps56
  go_wp2_with fail
  refine (on (al0 _) (C2.out _ _ (by simp [go_sem]) (by simp))).mono ?_
  rintro e w2 ⟨rfl, hb2⟩
  have HB2 := Lib.hid hb2
  clear hb2
  go_wp2_with fail
  go_ret
  exact ⟨rfl, HB2.out⟩

/-- The mixing that goes on from there. -/
def mixer (r : Bs) : Value := .func (.func 57) #[str r] #[]

set_option maxHeartbeats 1000000 in
set_option maxRecDepth 100000 in
theorem mix_calls (x t r : Bs) (hx : x.length ≤ 4000000) (ht : t.length ≤ 4000000) (hr : mixR x t = r) (w : World) :
    Calls Tryz.prog 57 #[str x, str t] w fun e w' => e = .returned (.tuple #[str r, mixer r]) ∧ Below w.heap.size w w' := by
  have hmf : ∀ (fn : Fn) (first cap : Array Value) (w : World), (Instr.makeFunc fn first cap).run Tryz.prog w = .ok (.func fn first cap) w := fun _ _ _ _ => rfl
  have c := fun w => implMix_calls x t hx ht w
  simp only [hr] at c
  have C := Lib.hid c
  unfold mixer
  clear c hx ht hr
  go_enter Tryz.func57, Tryz.ntmps57
  go_wp2_with fail
  refine (C.out _).mono ?_
  rintro e w2 ⟨rfl, hb2⟩
  have HB2 := Lib.hid hb2
  clear hb2
  go_wp2_with fail
  exact bodyPost_ret (v := .tuple #[str r, .func (.func 57) #[str r] #[]]) (by simp [results, Tryz.results57, go_sem]) rfl ⟨rfl, HB2.out⟩
theorem mixer_calls (x : Value) (v : Value) (w : World) : (callFunc 57 #[x, v]).run Tryz.prog w = .ok (.enter 57 #[x, v]) w := by kernel_rfl

set_option maxHeartbeats 1000000 in
set_option maxRecDepth 100000 in
theorem shared_calls (x p s : Bs) (hx : atomR x = true) (h : lockS p = some s) (w : World) :
    Calls Tryz.prog 58 #[str x, str p] w fun e w' => e = .returned (str (dhS x s)) ∧ Below w.heap.size w w' := by
  have hD := dhR_of hx h
  have hxl := atomR_len hx
  have hpl := lock_len h
  have c := fun w => implDh_calls x p _ _ hD (by omega) (by omega) w
  obtain ⟨R, hR⟩ : ∃ R, R = dhS x s := ⟨_, rfl⟩
  rw [← hR] at c ⊢
  unfold sop.outVal at c
  have hfd := out_term R 0
  have C := Lib.hid c
  clear c hR hD hx h hxl hpl
  go_enter Tryz.func58, Tryz.ntmps58
  go_wp2_with fail
  refine (C.out _).mono ?_
  rintro e w2 ⟨rfl, hb2⟩
  have HB2 := Lib.hid hb2
  clear hb2
  go_wp2_with fail
  go_ret
  exact ⟨rfl, HB2.out⟩

theorem opR_lock (t : Bs) : (opR t == [112, 117, 98]) = (lockS t).isSome := by
  unfold opR lockS
  cases term t with
  | none => rfl
  | some T => cases T <;> rfl

set_option maxHeartbeats 1000000 in
set_option maxRecDepth 100000 in
theorem isLock_calls (t : Bs) (ht : t.length ≤ 4000000) (b : Bool) (hb : (lockS t).isSome = b) (w : World) :
    Calls Tryz.prog 53 #[str t] w fun e w' => e = .returned (.bool b) ∧ Below w.heap.size w w' := by
  have c := fun w => ndo.implNodeOf_calls ⟨t.toArray⟩ (by unfold maxLen; show t.toArray.size ≤ _; simp; omega) w
  have d := opR_lock t
  rw [hb] at d
  obtain ⟨O, hO⟩ : ∃ O, O = opR t := ⟨_, rfl⟩
  simp only [← hO] at c d
  have n0 := node_op O
  have C := Lib.hid c
  clear c hO ht hb
  go_enter Tryz.func53, Tryz.ntmps53
  go_wp2_with fail
  refine (C.out _).mono ?_
  rintro e w1 ⟨v, rfl, hb1, hw⟩
  have HB1 := Lib.hid hb1
  have hv : ∃ ad n cap, v = .slice ad n cap := by
    rcases hw with ⟨_, ad, cap, rfl⟩ | ⟨g, off, cap, rfl, _⟩
    · exact ⟨_, _, _, rfl⟩
    · exact ⟨_, _, _, rfl⟩
  obtain ⟨ad, n, cap, rfl⟩ := hv
  clear hb1 hw
  go_wp2_with fail
  go_ret
  exact ⟨rfl, HB1.out⟩

theorem out_code (x : Bs) (y : Int) (w : World) : (Instr.field 87 (.agg #[str x, .int .i64 y]) 1).run Tryz.prog w = .ok (.int .i64 y) w := by kernel_rfl

set_option maxHeartbeats 1000000 in
set_option maxRecDepth 100000 in
/-- What was shut with that key. -/
theorem opened_yes (key p r : Bs) (hk : key.length ≤ 4000000) (hp : p.length ≤ 4000000) (h : inside key p = some r) (w : World) :
    Calls Tryz.prog 69 #[str key, str p] w fun e w' => e = .returned (str r) ∧ Below w.heap.size w w' := by
  obtain ⟨r', c', hO⟩ := open_total key p
  have hc : c' = 0 ∧ r' = r := by
    rcases open_inside hO with ⟨h1, h2⟩ | ⟨h1, _⟩
    · rw [h] at h1; cases h1; exact ⟨h2, rfl⟩
    · rw [h] at h1; cases h1
  obtain ⟨rfl, rfl⟩ := hc
  have c := fun w => implOpen_calls key p _ _ hO hk hp w
  unfold sop.outVal at c
  have C := Lib.hid c
  clear c hO h hk hp
  go_enter Tryz.func69, Tryz.ntmps69
  go_wp2_with fail
  refine (C.out _).mono ?_
  rintro e w1 ⟨rfl, hb1⟩
  have HB1 := Lib.hid hb1
  clear hb1
  go_wp2_with fail
  refine (need_yes _ _).mono ?_
  rintro e w2 ⟨rfl, rfl⟩
  go_wp2_with fail
  go_ret
  exact ⟨rfl, al1 HB1.out _⟩
set_option maxHeartbeats 1000000 in
set_option maxRecDepth 100000 in
theorem opened_no (key p : Bs) (hk : key.length ≤ 4000000) (hp : p.length ≤ 4000000) (h : inside key p = none) (w : World) :
    Calls Tryz.prog 69 #[str key, str p] w fun e w' => e = fault 5 ∧ Below w.heap.size w w' := by
  obtain ⟨r', c', hO⟩ := open_total key p
  have hc : c' ≠ 0 := by
    rcases open_inside hO with ⟨h1, h2⟩ | ⟨h1, h2, _⟩
    · rw [h] at h1; cases h1
    · exact h2
  have d0 : (c' == 0) = false := by rw [beq_eq_false_iff_ne]; exact hc
  have c := fun w => implOpen_calls key p _ _ hO hk hp w
  unfold sop.outVal at c
  have C := Lib.hid c
  clear c hO h hk hp hc
  go_enter Tryz.func69, Tryz.ntmps69
  go_wp2_with fail
  refine (C.out _).mono ?_
  rintro e w1 ⟨rfl, hb1⟩
  have HB1 := Lib.hid hb1
  clear hb1
  go_wp2_with fail
  refine (need_no _ _).mono ?_
  rintro e w2 ⟨rfl, rfl⟩
  exact ⟨rfl, rfl, al1 HB1.out _⟩

set_option maxHeartbeats 1000000 in
set_option maxRecDepth 100000 in
theorem answered_calls (c l a b : Bs) (hc : c.length ≤ 4000000) (hl : l.length ≤ 4000000) (ha : a.length ≤ 4000000) (hb : b.length ≤ 4000000) (z : Bs) (hz : mixR (mixR (mixR c l) a) b = z) (w : World) :
    Calls Tryz.prog 74 #[str c, str l, str a, str b] w fun e w' => e = .returned (str z) ∧ Below w.heap.size w w' := by
  obtain ⟨r1, hr1⟩ : ∃ r, mixR c l = r := ⟨_, rfl⟩
  have l1 : r1.length ≤ 4000000 := by have := mixR_len c l; rw [hr1] at this; omega
  rw [hr1] at hz
  obtain ⟨r2, hr2⟩ : ∃ r, mixR r1 a = r := ⟨_, rfl⟩
  have l2 : r2.length ≤ 4000000 := by have := mixR_len r1 a; rw [hr2] at this; omega
  rw [hr2] at hz
  have c1 := fun w => mix_calls c l r1 hc hl hr1 w
  have c2 := fun w => mix_calls r1 a r2 l1 ha hr2 w
  have c3 := fun w => mix_calls r2 b z l2 hb hz w
  unfold mixer at c1 c2 c3
  have hf := fun x v w => mixer_calls x v w
  have C1 := Lib.hid c1
  have C2 := Lib.hid c2
  have C3 := Lib.hid c3
  clear c1 c2 c3 hc hl ha hb hr1 hr2 hz l1 l2
  go_enter Tryz.func74, Tryz.ntmps74
  go_wp2_with fail
  refine (C1.out _).mono ?_
  rintro e w1 ⟨rfl, hb1⟩
  have HB1 := Lib.hid hb1
  clear hb1
  go_wp2_with fail
  refine (on HB1.out (C2.out _)).mono ?_
  rintro e w2 ⟨rfl, hb2⟩
  have HB2 := Lib.hid hb2
  clear hb2
  go_wp2_with fail
  refine (on HB2.out (C3.out _)).mono ?_
  rintro e w3 ⟨rfl, hb3⟩
  have HB3 := Lib.hid hb3
  clear hb3
  go_wp2_with fail
  go_ret
  exact ⟨rfl, HB3.out⟩

theorem three {w : World} {b : Nat} {x y z : Value} {t : TypeId} (h : w.heap[b]? = some (.cells #[x, y, z] t (0, 0))) :
    w.cell? ⟨b, 0, none⟩ = some x ∧ w.cell? ⟨b, 1, none⟩ = some y ∧ w.cell? ⟨b, 2, none⟩ = some z ∧ w.frozen? ⟨b, 0, none⟩ = false ∧ w.frozen? ⟨b, 1, none⟩ = false ∧ w.frozen? ⟨b, 2, none⟩ = false ∧ b < w.heap.size := by
  obtain ⟨a1, a2, a3, a4, a5, a6⟩ := clo.three_cells h
  exact ⟨a1, a2, a3, a4, a5, a6, (Array.getElem?_eq_some_iff.1 h).1⟩

set_option maxHeartbeats 1000000 in
set_option maxRecDepth 100000 in
theorem keysOf_yes (c a b x y : Bs) (hc : c.length ≤ 4000000) (ha : a.length ≤ 4000000) (hb : b.length ≤ 4000000) (hx : mixR c a = x) (hy : mixR c b = y) (x0 : x ≠ []) (y0 : y ≠ []) (w : World) :
    Calls Tryz.prog 75 #[str c, str a, str b] w fun e w' => e = .returned (.agg #[str x, str y, str c]) ∧ Below w.heap.size w w' := by
  have c1 := fun w => implMix_calls c a hc ha w
  have c2 := fun w => implMix_calls c b hc hb w
  simp only [hx] at c1
  simp only [hy] at c2
  have d1 : (x == []) = false := by rw [beq_eq_false_iff_ne]; exact x0
  have d2 : (y == []) = false := by rw [beq_eq_false_iff_ne]; exact y0
  have C1 := Lib.hid c1
  have C2 := Lib.hid c2
  clear c1 c2 hc ha hb hx hy x0 y0
  have X0 := Lib.hid (heap_alloc_new w (.cells #[.string ⟨#[]⟩, .string ⟨#[]⟩, .string ⟨#[]⟩] 26))
  go_enter Tryz.func75, Tryz.ntmps75
  go_wp2_with fail
  refine (on (Below.refl _ _) (C1.out _)).mono ?_
  rintro e w1 ⟨rfl, hb1⟩
  have HB1 := Lib.hid hb1
  clear hb1
  go_wp2_with fail
  refine (on HB1.out (C2.out _)).mono ?_
  rintro e w2 ⟨rfl, hb2⟩
  have HB2 := Lib.hid hb2
  have Y := keptA (keptB X0.out hb2) (.cells #[str x, str y, str c] 26)
  obtain ⟨c0, c1, c2, f0, f1, f2, hz⟩ := three Y
  clear hb2 Y
  go_wp2_with fail
  refine (need_yes _ _).mono ?_
  rintro e w3 ⟨rfl, rfl⟩
  go_wp2_with fail
  refine bodyPost_ret (v := .agg #[str x, str y, str c]) (by simp [results, Tryz.results75, go_sem, c0, c1, c2]) rfl ⟨rfl, ?_⟩
  exact (((base (al0 _) (al1 HB2.out _)).setCell (by simp) _).setCell (by simp) _).setCell (by simp) _
set_option maxHeartbeats 1000000 in
set_option maxRecDepth 100000 in
theorem keysOf_no (c a b : Bs) (hc : c.length ≤ 4000000) (ha : a.length ≤ 4000000) (hb : b.length ≤ 4000000) (hx : mixR c a = []) (w : World) :
    Calls Tryz.prog 75 #[str c, str a, str b] w fun e w' => e = fault 9 ∧ Below w.heap.size w w' := by
  obtain ⟨y, hy⟩ : ∃ y, y = mixR c b := ⟨_, rfl⟩
  have c1 := fun w => implMix_calls c a hc ha w
  have c2 := fun w => implMix_calls c b hc hb w
  simp only [hx] at c1
  simp only [← hy] at c2
  have C1 := Lib.hid c1
  have C2 := Lib.hid c2
  clear c1 c2 hc ha hb hx hy
  go_enter Tryz.func75, Tryz.ntmps75
  go_wp2_with fail
  refine (on (al0 _) (C1.out _)).mono ?_
  rintro e w1 ⟨rfl, hb1⟩
  have HB1 := Lib.hid hb1
  clear hb1
  go_wp2_with fail
  refine (on HB1.out (C2.out _)).mono ?_
  rintro e w2 ⟨rfl, hb2⟩
  have HB2 := Lib.hid hb2
  clear hb2
  go_wp2_with fail
  refine (need_no _ _).mono ?_
  rintro e w3 ⟨rfl, rfl⟩
  exact ⟨rfl, rfl, al1 HB2.out _⟩
end Go.Proofs.YtonjohlecomeoaaGreat.hmi
