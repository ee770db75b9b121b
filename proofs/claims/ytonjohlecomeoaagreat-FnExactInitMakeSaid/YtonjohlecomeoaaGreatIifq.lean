/- InitMake of the program answers initR (written by wip/gen_iif.py). -/
import Derived.Test.YtonjohlecomeoaaGreatIiaq
namespace Go.Proofs.YtonjohlecomeoaaGreat.iih
open Go.RowKit Go.Proofs.YtonjohlecomeoaaGreat.tm Go.Proofs.YtonjohlecomeoaaGreat.lib Go.Proofs.YtonjohlecomeoaaGreat.rdr Go.Proofs.YtonjohlecomeoaaGreat.bld Go.Proofs.YtonjohlecomeoaaGreat.prs Go.Proofs.YtonjohlecomeoaaGreat.sop Go.Proofs.YtonjohlecomeoaaGreat.mkp Go.Proofs.YtonjohlecomeoaaGreat.mrk Go.Proofs.YtonjohlecomeoaaGreat.mrs Go.Proofs.YtonjohlecomeoaaGreat.ltq Go.Proofs.YtonjohlecomeoaaGreat.ltv Go.Proofs.YtonjohlecomeoaaGreat.ltp Go.Proofs.YtonjohlecomeoaaGreat.trp Go.Proofs.YtonjohlecomeoaaGreat.hdp Go.Proofs.YtonjohlecomeoaaGreat.hdv Go.Proofs.YtonjohlecomeoaaGreat.blw Go.Proofs.YtonjohlecomeoaaGreat.hmi Go.Proofs.YtonjohlecomeoaaGreat.hgo
set_option linter.unusedVariables false

theorem closI (a b c d e : Value) (w : World) : (callFunc 48 #[a, b, c, d, e]).run Tryz.prog w = .ok (.enter 48 #[a, b, c, d, e]) w := by kernel_rfl

set_option maxHeartbeats 4000000 in
set_option maxRecDepth 100000 in
theorem face (f : Int) (me lock eph stamp : Bs) (H : Hd) (hH : H.code ≠ 0 → H = ill H.code) (w : World)
    (hc : ∀ (p0 p1 p2 p3 p4 : Nat) (W : World), (∀ X, Below W.heap.size W X → X.cell? ⟨p0, 0, none⟩ = some (str me) ∧ X.cell? ⟨p1, 0, none⟩ = some (str lock) ∧ X.cell? ⟨p2, 0, none⟩ = some (str eph) ∧ X.cell? ⟨p3, 0, none⟩ = some (str stamp) ∧ X.cell? ⟨p4, 0, none⟩ = some (.int .i64 f)) →
      Calls Tryz.prog 48 #[.pointer (some ⟨p0, 0, none⟩), .pointer (some ⟨p1, 0, none⟩), .pointer (some ⟨p2, 0, none⟩), .pointer (some ⟨p3, 0, none⟩), .pointer (some ⟨p4, 0, none⟩)] W (CEnd H W)) :
    Calls Tryz.prog 10 #[.int .i64 f, str me, str lock, str eph, str stamp] w (HEnd H w) := by
  have hmf : ∀ (fn : Fn) (first cap : Array Value) (w : World), (Instr.makeFunc fn first cap).run Tryz.prog w = .ok (.func fn first cap) w := fun _ _ _ _ => rfl
  obtain ⟨W6, hW6⟩ : ∃ W, W = ((((((w.alloc (.cells #[.int .i64 f] 2)).alloc (.cells #[str me] 9)).alloc (.cells #[str lock] 9)).alloc (.cells #[str eph] 9)).alloc (.cells #[str stamp] 9)).alloc (.cells #[.int .i64 0, .int .i64 0, .int .i64 0, .int .i64 0, .slice none 0 0, .string ⟨#[]⟩, .string ⟨#[]⟩, .string ⟨#[]⟩, .string ⟨#[]⟩, .string ⟨#[]⟩, .string ⟨#[]⟩, .string ⟨#[]⟩, .string ⟨#[]⟩, .string ⟨#[]⟩, .int .i64 0] 28)) := ⟨_, rfl⟩
  have c0 : W6.cell? ⟨w.heap.size + 1, 0, none⟩ = some (str me) := by rw [hW6]; simp [go_sem]
  have c1 : W6.cell? ⟨w.heap.size + 2, 0, none⟩ = some (str lock) := by rw [hW6]; simp [go_sem]
  have c2 : W6.cell? ⟨w.heap.size + 3, 0, none⟩ = some (str eph) := by rw [hW6]; simp [go_sem]
  have c3 : W6.cell? ⟨w.heap.size + 4, 0, none⟩ = some (str stamp) := by rw [hW6]; simp [go_sem]
  have c4 : W6.cell? ⟨w.heap.size, 0, none⟩ = some (.int .i64 f) := by rw [hW6]; simp [go_sem]
  have hz : W6.heap.size = w.heap.size + 6 := by rw [hW6]; simp
  have X5 : W6.heap[w.heap.size + 5]? = some (.cells #[.int .i64 0, .int .i64 0, .int .i64 0, .int .i64 0, .slice none 0 0, .string ⟨#[]⟩, .string ⟨#[]⟩, .string ⟨#[]⟩, .string ⟨#[]⟩, .string ⟨#[]⟩, .string ⟨#[]⟩, .string ⟨#[]⟩, .string ⟨#[]⟩, .string ⟨#[]⟩, .int .i64 0] 28 (0, 0)) := by
    rw [hW6]
    have := heap_alloc_new (((((w.alloc (.cells #[.int .i64 f] 2)).alloc (.cells #[str me] 9)).alloc (.cells #[str lock] 9)).alloc (.cells #[str eph] 9)).alloc (.cells #[str stamp] 9)) (.cells #[.int .i64 0, .int .i64 0, .int .i64 0, .int .i64 0, .slice none 0 0, .string ⟨#[]⟩, .string ⟨#[]⟩, .string ⟨#[]⟩, .string ⟨#[]⟩, .string ⟨#[]⟩, .string ⟨#[]⟩, .string ⟨#[]⟩, .string ⟨#[]⟩, .string ⟨#[]⟩, .int .i64 0] 28)
    rw [show (((((w.alloc (.cells #[.int .i64 f] 2)).alloc (.cells #[str me] 9)).alloc (.cells #[str lock] 9)).alloc (.cells #[str eph] 9)).alloc (.cells #[str stamp] 9)).heap.size = w.heap.size + 5 by simp] at this
    exact this
  have hB : Below w.heap.size w W6 := by rw [hW6]; exact (al1 (al1 (al1 (al1 (al1 (al1 (Below.refl w.heap.size w) (.cells #[.int .i64 f] 2)) (.cells #[str me] 9)) (.cells #[str lock] 9)) (.cells #[str eph] 9)) (.cells #[str stamp] 9)) (.cells #[.int .i64 0, .int .i64 0, .int .i64 0, .int .i64 0, .slice none 0 0, .string ⟨#[]⟩, .string ⟨#[]⟩, .string ⟨#[]⟩, .string ⟨#[]⟩, .string ⟨#[]⟩, .string ⟨#[]⟩, .string ⟨#[]⟩, .string ⟨#[]⟩, .string ⟨#[]⟩, .int .i64 0] 28))
  have ho : Calls Tryz.prog 47 #[.func (.func 48) #[] #[.pointer (some ⟨w.heap.size + 1, 0, none⟩), .pointer (some ⟨w.heap.size + 2, 0, none⟩), .pointer (some ⟨w.heap.size + 3, 0, none⟩), .pointer (some ⟨w.heap.size + 4, 0, none⟩), .pointer (some ⟨w.heap.size, 0, none⟩)]] W6 (HEnd H W6) :=
    hand_calls _ _ H hH (fun w => closI _ _ _ _ _ w) W6 fun w1 k1 => hc _ _ _ _ _ w1 fun X k =>
      ⟨cellB c0 (k1.trans (k.mono k1.size)) (by omega), cellB c1 (k1.trans (k.mono k1.size)) (by omega), cellB c2 (k1.trans (k.mono k1.size)) (by omega), cellB c3 (k1.trans (k.mono k1.size)) (by omega), cellB c4 (k1.trans (k.mono k1.size)) (by omega)⟩
  have HO := Lib.hid ho
  have XX := Lib.hid X5
  have HB := Lib.hid hB
  have HZ := Lib.hid hz
  clear hc hH c0 c1 c2 c3 c4 ho X5 hB hz
  obtain ⟨⟨k', f', t', c', ps, a', b'⟩, pe, st, ep, ch, se, he, ky, cd⟩ := H
  go_enter Tryz.func10, Tryz.ntmps10
  go_wp2_with fail
  rw [← hW6]
  clear hW6
  refine HO.out.mono ?_
  rintro e w7 ⟨u, rfl, hb, hw⟩
  obtain ⟨au, nu, cu, rfl⟩ := tell hw
  have HK := Lib.hid hb
  have HW := Lib.hid hw
  have X7 := Lib.hid (keptB XX.out hb)
  clear hb hw
  unfold hdA
  simp only
  obtain ⟨e0, e1, e2, e3, e4, e5, e6, e7, e8, e9, e10, e11, e12, e13, e14, ez, ef⟩ := fifteen X7.out
  go_wp2_with fail
  generalize hW : World.setCell _ _ _ = W'
  have hXX : W'.heap[w.heap.size + 5]? = some (.cells #[.int .i64 k', .int .i64 f', .int .i64 t', .int .i64 c', .slice au nu cu, str a', str b', str pe, str st, str ep, str ch, str se, str he, str ky, .int .i64 cd] 28 (0, 0)) := by rw [← hW]; exact put15 X7.out _ _ _ _ _ _ _ _ _ _ _ _ _ _ _
  have hKK : Below w.heap.size w W' := by rw [← hW]; exact set15 (base HB.out HK.out) (by omega) _ _ _ _ _ _ _ _ _ _ _ _ _ _ _
  have hRR : Wrs W' w.heap.size (.slice au nu cu) ps := by rw [← hW]; exact wset15 HW.out (by have := HZ.out; omega) (by have := HZ.out; omega) _ _ _ _ _ _ _ _ _ _ _ _ _ _ _
  clear hW e0 e1 e2 e3 e4 e5 e6 e7 e8 e9 e10 e11 e12 e13 e14 ez ef
  obtain ⟨g0, g1, g2, g3, g4, g5, g6, g7, g8, g9, g10, g11, g12, g13, g14, gz, gf⟩ := fifteen hXX
  refine bodyPost_ret (v := .agg #[.int .i64 k', .int .i64 f', .int .i64 t', .int .i64 c', .slice au nu cu, str a', str b', str pe, str st, str ep, str ch, str se, str he, str ky, .int .i64 cd]) (by simp [results, Tryz.results10, go_sem, g0, g1, g2, g3, g4, g5, g6, g7, g8, g9, g10, g11, g12, g13, g14]) rfl ?_
  exact ⟨_, rfl, hKK, hRR⟩

theorem implInit_calls (f : Int) (me lock eph stamp : Bs) (w : World) (h1 : me.length ≤ 4000000) (h2 : lock.length ≤ 4000000) (h3 : eph.length ≤ 4000000) (h4 : stamp.length ≤ 4000000) :
    Calls Tryz.prog 10 #[.int .i64 f, str me, str lock, str eph, str stamp] w (HEnd (initR f me lock eph stamp) w) :=
  face f me lock eph stamp _ initR_ill w fun p0 p1 p2 p3 p4 W hk => clos_calls f me lock eph stamp p0 p1 p2 p3 p4 W hk h1 h2 h3 h4
end Go.Proofs.YtonjohlecomeoaaGreat.iih
