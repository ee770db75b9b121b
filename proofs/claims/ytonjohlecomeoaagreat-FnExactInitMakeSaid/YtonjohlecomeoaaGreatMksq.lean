/- Contract of Make's closure: a region that draws its order, of calls that may leave off. Written by wip/gen_make.py. -/
import Derived.Test.YtonjohlecomeoaaGreatQf
import Derived.BigRegion
import Derived.RegionTactic
import Derived.Orders
import Derived.Lib.QuietBelow
namespace Go.Proofs.YtonjohlecomeoaaGreat.mks
open Go.RowKit Go.Proofs.YtonjohlecomeoaaGreat.tm Go.Proofs.YtonjohlecomeoaaGreat.lib Go.Proofs.YtonjohlecomeoaaGreat.rdr Go.Proofs.YtonjohlecomeoaaGreat.bld Go.Proofs.YtonjohlecomeoaaGreat.app Go.Proofs.YtonjohlecomeoaaGreat.grd Go.Proofs.YtonjohlecomeoaaGreat.sop Go.Proofs.YtonjohlecomeoaaGreat.iop Go.Proofs.YtonjohlecomeoaaGreat.rts
set_option linter.unusedVariables false

theorem Below.drew' (w : World) : Below w.heap.size w w.drew := ((Still.drewN w 1).below _)

set_option maxHeartbeats 2000000 in
set_option maxRecDepth 100000 in
theorem clos_read (p q : Nat) (op : Bs) (ts : List Tm) (tt : TypeId) (tv : Value) (ad : Option Addr) (n cap : Nat) (c : Int) (r : Bs) (w : World) (c0 : w.cell? ⟨p, 0, none⟩ = some (str op)) (c1' : w.cell? ⟨q, 0, none⟩ = some (.slice ad n cap)) (hp : p < w.heap.size) (hq : q < w.heap.size)
    (h2 : ∀ w1, Below w.heap.size w w1 → Calls Tryz.prog 148 #[.slice ad n cap] w1 fun e w' => e = fault c ∧ Below w1.heap.size w1 w') :
    Calls Tryz.prog 144 #[.pointer (some ⟨p, 0, none⟩), .pointer (some ⟨q, 0, none⟩)] w fun e w' => e = fault c ∧ Below w.heap.size w w' := by
  have H2 := Lib.hid h2
  clear h2
  go_enter Tryz.func144, Tryz.ntmps144
  go_wp2_with fail
  refine wp_region_any (by kernel_rfl) ?_
  change wpAny _ _ _ _ _ _ _ (World.drew _)
  refine wpAny_ready (rs := [0, 1]) (by kernel_rfl) (by simp) ?_
  refine AllReady.cons rfl (fun K hK => ?_) ?_
  · go_simp
    refine hK _ _ ?_
    clear hK K
    refine wpAny_ready (rs := [1]) (by kernel_rfl) (by simp) ?_
    refine AllReady.cons rfl (fun K hK => ?_) ?_
    · go_simp
      refine hK _ _ ?_
      clear hK K
      refine wpAny_ready (rs := [2]) (by kernel_rfl) (by simp) ?_
      refine AllReady.cons rfl (fun K hK => ?_) ?_
      · go_simp
        refine (H2.out _ (Below.drew' w)).mono ?_
        rintro e wf ⟨rfl, hb⟩
        exact ⟨rfl, rfl, (Below.drew' w).trans (hb.mono (Below.drew' w).size)⟩
      exact AllReady.nil
    exact AllReady.nil
  refine AllReady.cons rfl (fun K hK => ?_) ?_
  · go_simp
    refine hK _ _ ?_
    clear hK K
    refine wpAny_ready (rs := [0, 2]) (by kernel_rfl) (by simp) ?_
    refine AllReady.cons rfl (fun K hK => ?_) ?_
    · go_simp
      refine hK _ _ ?_
      clear hK K
      refine wpAny_ready (rs := [2]) (by kernel_rfl) (by simp) ?_
      refine AllReady.cons rfl (fun K hK => ?_) ?_
      · go_simp
        refine (H2.out _ (Below.drew' w)).mono ?_
        rintro e wf ⟨rfl, hb⟩
        exact ⟨rfl, rfl, (Below.drew' w).trans (hb.mono (Below.drew' w).size)⟩
      exact AllReady.nil
    refine AllReady.cons rfl (fun K hK => ?_) ?_
    · go_simp
      refine (H2.out _ (Below.drew' w)).mono ?_
      rintro e wf ⟨rfl, hb⟩
      exact ⟨rfl, rfl, (Below.drew' w).trans (hb.mono (Below.drew' w).size)⟩
    exact AllReady.nil
  exact AllReady.nil

set_option maxHeartbeats 2000000 in
set_option maxRecDepth 100000 in
theorem clos_build (p q : Nat) (op : Bs) (ts : List Tm) (tt : TypeId) (tv : Value) (ad : Option Addr) (n cap : Nat) (c : Int) (r : Bs) (w : World) (c0 : w.cell? ⟨p, 0, none⟩ = some (str op)) (c1' : w.cell? ⟨q, 0, none⟩ = some (.slice ad n cap)) (hp : p < w.heap.size) (hq : q < w.heap.size)
    (h2 : ∀ w1, Below w.heap.size w w1 → Calls Tryz.prog 148 #[.slice ad n cap] w1 fun e w' => ∃ a1 n1 c1, e = .returned (.slice a1 n1 c1) ∧ Below w1.heap.size w1 w' ∧ Tms w' w.heap.size (.slice a1 n1 c1) ts)
    (h3 : ∀ w1 v, Tms w1 w.heap.size v ts → Below w.heap.size w w1 → Calls Tryz.prog 147 #[str op, v] w1 fun e w' => e = fault c ∧ Below w1.heap.size w1 w') :
    Calls Tryz.prog 144 #[.pointer (some ⟨p, 0, none⟩), .pointer (some ⟨q, 0, none⟩)] w fun e w' => e = fault c ∧ Below w.heap.size w w' := by
  have H2 := Lib.hid h2
  have H3 := Lib.hid h3
  clear h2 h3
  go_enter Tryz.func144, Tryz.ntmps144
  go_wp2_with fail
  refine wp_region_any (by kernel_rfl) ?_
  change wpAny _ _ _ _ _ _ _ (World.drew _)
  refine wpAny_ready (rs := [0, 1]) (by kernel_rfl) (by simp) ?_
  refine AllReady.cons rfl (fun K hK => ?_) ?_
  · go_simp
    refine hK _ _ ?_
    clear hK K
    refine wpAny_ready (rs := [1]) (by kernel_rfl) (by simp) ?_
    refine AllReady.cons rfl (fun K hK => ?_) ?_
    · go_simp
      refine hK _ _ ?_
      clear hK K
      refine wpAny_ready (rs := [2]) (by kernel_rfl) (by simp) ?_
      refine AllReady.cons rfl (fun K hK => ?_) ?_
      · go_simp
        refine (H2.out _ (Below.drew' w)).mono ?_
        rintro e w1 ⟨a1, n1, c1, rfl, hb, ht⟩
        have HB := Lib.hid ((Below.drew' w).trans (hb.mono (Below.drew' w).size))
        have k0 := kept_cell HB.out c0 hp
        have k1 := kept_cell HB.out c1' hq
        have T1 := Lib.hid ht
        clear hb ht
        refine hK _ _ ?_
        clear hK K
        refine wpAny_ready (rs := [3]) (by kernel_rfl) (by simp) ?_
        refine AllReady.cons rfl (fun K hK => ?_) ?_
        · go_simp
          refine (H3.out _ _ T1.out HB.out).mono ?_
          rintro e wf ⟨rfl, hb⟩
          exact ⟨rfl, rfl, HB.out.trans (hb.mono HB.out.size)⟩
        exact AllReady.nil
      exact AllReady.nil
    exact AllReady.nil
  refine AllReady.cons rfl (fun K hK => ?_) ?_
  · go_simp
    refine hK _ _ ?_
    clear hK K
    refine wpAny_ready (rs := [0, 2]) (by kernel_rfl) (by simp) ?_
    refine AllReady.cons rfl (fun K hK => ?_) ?_
    · go_simp
      refine hK _ _ ?_
      clear hK K
      refine wpAny_ready (rs := [2]) (by kernel_rfl) (by simp) ?_
      refine AllReady.cons rfl (fun K hK => ?_) ?_
      · go_simp
        refine (H2.out _ (Below.drew' w)).mono ?_
        rintro e w1 ⟨a1, n1, c1, rfl, hb, ht⟩
        have HB := Lib.hid ((Below.drew' w).trans (hb.mono (Below.drew' w).size))
        have k0 := kept_cell HB.out c0 hp
        have k1 := kept_cell HB.out c1' hq
        have T1 := Lib.hid ht
        clear hb ht
        refine hK _ _ ?_
        clear hK K
        refine wpAny_ready (rs := [3]) (by kernel_rfl) (by simp) ?_
        refine AllReady.cons rfl (fun K hK => ?_) ?_
        · go_simp
          refine (H3.out _ _ T1.out HB.out).mono ?_
          rintro e wf ⟨rfl, hb⟩
          exact ⟨rfl, rfl, HB.out.trans (hb.mono HB.out.size)⟩
        exact AllReady.nil
      exact AllReady.nil
    refine AllReady.cons rfl (fun K hK => ?_) ?_
    · go_simp
      refine (H2.out _ (Below.drew' w)).mono ?_
      rintro e w1 ⟨a1, n1, c1, rfl, hb, ht⟩
      have HB := Lib.hid ((Below.drew' w).trans (hb.mono (Below.drew' w).size))
      have k0 := kept_cell HB.out c0 hp
      have k1 := kept_cell HB.out c1' hq
      have T1 := Lib.hid ht
      clear hb ht
      refine hK _ _ ?_
      clear hK K
      refine wpAny_ready (rs := [0]) (by kernel_rfl) (by simp) ?_
      refine AllReady.cons rfl (fun K hK => ?_) ?_
      · go_simp
        refine hK _ _ ?_
        clear hK K
        refine wpAny_ready (rs := [3]) (by kernel_rfl) (by simp) ?_
        refine AllReady.cons rfl (fun K hK => ?_) ?_
        · go_simp
          refine (H3.out _ _ T1.out HB.out).mono ?_
          rintro e wf ⟨rfl, hb⟩
          exact ⟨rfl, rfl, HB.out.trans (hb.mono HB.out.size)⟩
        exact AllReady.nil
      exact AllReady.nil
    exact AllReady.nil
  exact AllReady.nil

set_option maxHeartbeats 2000000 in
set_option maxRecDepth 100000 in
theorem clos_fit (p q : Nat) (op : Bs) (ts : List Tm) (tt : TypeId) (tv : Value) (ad : Option Addr) (n cap : Nat) (c : Int) (r : Bs) (w : World) (c0 : w.cell? ⟨p, 0, none⟩ = some (str op)) (c1' : w.cell? ⟨q, 0, none⟩ = some (.slice ad n cap)) (hp : p < w.heap.size) (hq : q < w.heap.size)
    (h2 : ∀ w1, Below w.heap.size w w1 → Calls Tryz.prog 148 #[.slice ad n cap] w1 fun e w' => ∃ a1 n1 c1, e = .returned (.slice a1 n1 c1) ∧ Below w1.heap.size w1 w' ∧ Tms w' w.heap.size (.slice a1 n1 c1) ts)
    (h3 : ∀ w1 v, Tms w1 w.heap.size v ts → Below w.heap.size w w1 → Calls Tryz.prog 147 #[str op, v] w1 fun e w' => e = .returned (.iface tt tv) ∧ Below w1.heap.size w1 w')
    (h4 : ∀ w1, Calls Tryz.prog 146 #[.iface tt tv] w1 fun e w' => e = fault c ∧ Below w1.heap.size w1 w') :
    Calls Tryz.prog 144 #[.pointer (some ⟨p, 0, none⟩), .pointer (some ⟨q, 0, none⟩)] w fun e w' => e = fault c ∧ Below w.heap.size w w' := by
  have H2 := Lib.hid h2
  have H3 := Lib.hid h3
  have H4 := Lib.hid h4
  clear h2 h3 h4
  go_enter Tryz.func144, Tryz.ntmps144
  go_wp2_with fail
  refine wp_region_any (by kernel_rfl) ?_
  change wpAny _ _ _ _ _ _ _ (World.drew _)
  refine wpAny_ready (rs := [0, 1]) (by kernel_rfl) (by simp) ?_
  refine AllReady.cons rfl (fun K hK => ?_) ?_
  · go_simp
    refine hK _ _ ?_
    clear hK K
    refine wpAny_ready (rs := [1]) (by kernel_rfl) (by simp) ?_
    refine AllReady.cons rfl (fun K hK => ?_) ?_
    · go_simp
      refine hK _ _ ?_
      clear hK K
      refine wpAny_ready (rs := [2]) (by kernel_rfl) (by simp) ?_
      refine AllReady.cons rfl (fun K hK => ?_) ?_
      · go_simp
        refine (H2.out _ (Below.drew' w)).mono ?_
        rintro e w1 ⟨a1, n1, c1, rfl, hb, ht⟩
        have HB := Lib.hid ((Below.drew' w).trans (hb.mono (Below.drew' w).size))
        have k0 := kept_cell HB.out c0 hp
        have k1 := kept_cell HB.out c1' hq
        have T1 := Lib.hid ht
        clear hb ht
        refine hK _ _ ?_
        clear hK K
        refine wpAny_ready (rs := [3]) (by kernel_rfl) (by simp) ?_
        refine AllReady.cons rfl (fun K hK => ?_) ?_
        · go_simp
          refine (H3.out _ _ T1.out HB.out).mono ?_
          rintro e w2 ⟨rfl, hb⟩
          have HB2 := Lib.hid (HB.out.trans (hb.mono HB.out.size))
          clear hb
          refine hK _ _ ?_
          clear hK K
          refine wpAny_ready (rs := [4]) (by kernel_rfl) (by simp) ?_
          refine AllReady.cons rfl (fun K hK => ?_) ?_
          · go_simp
            refine (H4.out _).mono ?_
            rintro e wf ⟨rfl, hb⟩
            exact ⟨rfl, rfl, HB2.out.trans (hb.mono HB2.out.size)⟩
          exact AllReady.nil
        exact AllReady.nil
      exact AllReady.nil
    exact AllReady.nil
  refine AllReady.cons rfl (fun K hK => ?_) ?_
  · go_simp
    refine hK _ _ ?_
    clear hK K
    refine wpAny_ready (rs := [0, 2]) (by kernel_rfl) (by simp) ?_
    refine AllReady.cons rfl (fun K hK => ?_) ?_
    · go_simp
      refine hK _ _ ?_
      clear hK K
      refine wpAny_ready (rs := [2]) (by kernel_rfl) (by simp) ?_
      refine AllReady.cons rfl (fun K hK => ?_) ?_
      · go_simp
        refine (H2.out _ (Below.drew' w)).mono ?_
        rintro e w1 ⟨a1, n1, c1, rfl, hb, ht⟩
        have HB := Lib.hid ((Below.drew' w).trans (hb.mono (Below.drew' w).size))
        have k0 := kept_cell HB.out c0 hp
        have k1 := kept_cell HB.out c1' hq
        have T1 := Lib.hid ht
        clear hb ht
        refine hK _ _ ?_
        clear hK K
        refine wpAny_ready (rs := [3]) (by kernel_rfl) (by simp) ?_
        refine AllReady.cons rfl (fun K hK => ?_) ?_
        · go_simp
          refine (H3.out _ _ T1.out HB.out).mono ?_
          rintro e w2 ⟨rfl, hb⟩
          have HB2 := Lib.hid (HB.out.trans (hb.mono HB.out.size))
          clear hb
          refine hK _ _ ?_
          clear hK K
          refine wpAny_ready (rs := [4]) (by kernel_rfl) (by simp) ?_
          refine AllReady.cons rfl (fun K hK => ?_) ?_
          · go_simp
            refine (H4.out _).mono ?_
            rintro e wf ⟨rfl, hb⟩
            exact ⟨rfl, rfl, HB2.out.trans (hb.mono HB2.out.size)⟩
          exact AllReady.nil
        exact AllReady.nil
      exact AllReady.nil
    refine AllReady.cons rfl (fun K hK => ?_) ?_
    · go_simp
      refine (H2.out _ (Below.drew' w)).mono ?_
      rintro e w1 ⟨a1, n1, c1, rfl, hb, ht⟩
      have HB := Lib.hid ((Below.drew' w).trans (hb.mono (Below.drew' w).size))
      have k0 := kept_cell HB.out c0 hp
      have k1 := kept_cell HB.out c1' hq
      have T1 := Lib.hid ht
      clear hb ht
      refine hK _ _ ?_
      clear hK K
      refine wpAny_ready (rs := [0]) (by kernel_rfl) (by simp) ?_
      refine AllReady.cons rfl (fun K hK => ?_) ?_
      · go_simp
        refine hK _ _ ?_
        clear hK K
        refine wpAny_ready (rs := [3]) (by kernel_rfl) (by simp) ?_
        refine AllReady.cons rfl (fun K hK => ?_) ?_
        · go_simp
          refine (H3.out _ _ T1.out HB.out).mono ?_
          rintro e w2 ⟨rfl, hb⟩
          have HB2 := Lib.hid (HB.out.trans (hb.mono HB.out.size))
          clear hb
          refine hK _ _ ?_
          clear hK K
          refine wpAny_ready (rs := [4]) (by kernel_rfl) (by simp) ?_
          refine AllReady.cons rfl (fun K hK => ?_) ?_
          · go_simp
            refine (H4.out _).mono ?_
            rintro e wf ⟨rfl, hb⟩
            exact ⟨rfl, rfl, HB2.out.trans (hb.mono HB2.out.size)⟩
          exact AllReady.nil
        exact AllReady.nil
      exact AllReady.nil
    exact AllReady.nil
  exact AllReady.nil

set_option maxHeartbeats 2000000 in
set_option maxRecDepth 100000 in
theorem clos_ret (p q : Nat) (op : Bs) (ts : List Tm) (tt : TypeId) (tv : Value) (ad : Option Addr) (n cap : Nat) (c : Int) (r : Bs) (w : World) (c0 : w.cell? ⟨p, 0, none⟩ = some (str op)) (c1' : w.cell? ⟨q, 0, none⟩ = some (.slice ad n cap)) (hp : p < w.heap.size) (hq : q < w.heap.size)
    (h2 : ∀ w1, Below w.heap.size w w1 → Calls Tryz.prog 148 #[.slice ad n cap] w1 fun e w' => ∃ a1 n1 c1, e = .returned (.slice a1 n1 c1) ∧ Below w1.heap.size w1 w' ∧ Tms w' w.heap.size (.slice a1 n1 c1) ts)
    (h3 : ∀ w1 v, Tms w1 w.heap.size v ts → Below w.heap.size w w1 → Calls Tryz.prog 147 #[str op, v] w1 fun e w' => e = .returned (.iface tt tv) ∧ Below w1.heap.size w1 w')
    (h4 : ∀ w1, Calls Tryz.prog 146 #[.iface tt tv] w1 fun e w' => e = .returned (.iface tt tv) ∧ Below w1.heap.size w1 w')
    (h5 : ∀ w1, Calls Tryz.prog 145 #[.iface tt tv] w1 fun e w' => e = .returned (str r) ∧ Below w1.heap.size w1 w') :
    Calls Tryz.prog 144 #[.pointer (some ⟨p, 0, none⟩), .pointer (some ⟨q, 0, none⟩)] w fun e w' => e = .returned (str r) ∧ Below w.heap.size w w' := by
  have H2 := Lib.hid h2
  have H3 := Lib.hid h3
  have H4 := Lib.hid h4
  have H5 := Lib.hid h5
  clear h2 h3 h4 h5
  go_enter Tryz.func144, Tryz.ntmps144
  go_wp2_with fail
  refine wp_region_any (by kernel_rfl) ?_
  change wpAny _ _ _ _ _ _ _ (World.drew _)
  refine wpAny_ready (rs := [0, 1]) (by kernel_rfl) (by simp) ?_
  refine AllReady.cons rfl (fun K hK => ?_) ?_
  · go_simp
    refine hK _ _ ?_
    clear hK K
    refine wpAny_ready (rs := [1]) (by kernel_rfl) (by simp) ?_
    refine AllReady.cons rfl (fun K hK => ?_) ?_
    · go_simp
      refine hK _ _ ?_
      clear hK K
      refine wpAny_ready (rs := [2]) (by kernel_rfl) (by simp) ?_
      refine AllReady.cons rfl (fun K hK => ?_) ?_
      · go_simp
        refine (H2.out _ (Below.drew' w)).mono ?_
        rintro e w1 ⟨a1, n1, c1, rfl, hb, ht⟩
        have HB := Lib.hid ((Below.drew' w).trans (hb.mono (Below.drew' w).size))
        have k0 := kept_cell HB.out c0 hp
        have k1 := kept_cell HB.out c1' hq
        have T1 := Lib.hid ht
        clear hb ht
        refine hK _ _ ?_
        clear hK K
        refine wpAny_ready (rs := [3]) (by kernel_rfl) (by simp) ?_
        refine AllReady.cons rfl (fun K hK => ?_) ?_
        · go_simp
          refine (H3.out _ _ T1.out HB.out).mono ?_
          rintro e w2 ⟨rfl, hb⟩
          have HB2 := Lib.hid (HB.out.trans (hb.mono HB.out.size))
          clear hb
          refine hK _ _ ?_
          clear hK K
          refine wpAny_ready (rs := [4]) (by kernel_rfl) (by simp) ?_
          refine AllReady.cons rfl (fun K hK => ?_) ?_
          · go_simp
            refine (H4.out _).mono ?_
            rintro e w4 ⟨rfl, hb⟩
            have HB4 := Lib.hid (HB2.out.trans (hb.mono HB2.out.size))
            clear hb
            refine hK _ _ ?_
            clear hK K
            refine wpAny_ready (rs := [5]) (by kernel_rfl) (by simp) ?_
            refine AllReady.cons rfl (fun K hK => ?_) ?_
            · go_simp
              refine (H5.out _).mono ?_
              rintro e w5 ⟨rfl, hb⟩
              have HB5 := Lib.hid (HB4.out.trans (hb.mono HB4.out.size))
              clear hb
              refine hK _ _ ?_
              clear hK K
              refine wpAny_ready (rs := [6]) (by kernel_rfl) (by simp) ?_
              refine AllReady.cons rfl (fun K hK => ?_) ?_
              · go_simp
                refine hK _ _ ?_
                clear hK K
                refine wpAny_done (by kernel_rfl) ?_ _
                go_wp2_with fail
                go_ret
                exact ⟨rfl, HB5.out⟩
              exact AllReady.nil
            exact AllReady.nil
          exact AllReady.nil
        exact AllReady.nil
      exact AllReady.nil
    exact AllReady.nil
  refine AllReady.cons rfl (fun K hK => ?_) ?_
  · go_simp
    refine hK _ _ ?_
    clear hK K
    refine wpAny_ready (rs := [0, 2]) (by kernel_rfl) (by simp) ?_
    refine AllReady.cons rfl (fun K hK => ?_) ?_
    · go_simp
      refine hK _ _ ?_
      clear hK K
      refine wpAny_ready (rs := [2]) (by kernel_rfl) (by simp) ?_
      refine AllReady.cons rfl (fun K hK => ?_) ?_
      · go_simp
        refine (H2.out _ (Below.drew' w)).mono ?_
        rintro e w1 ⟨a1, n1, c1, rfl, hb, ht⟩
        have HB := Lib.hid ((Below.drew' w).trans (hb.mono (Below.drew' w).size))
        have k0 := kept_cell HB.out c0 hp
        have k1 := kept_cell HB.out c1' hq
        have T1 := Lib.hid ht
        clear hb ht
        refine hK _ _ ?_
        clear hK K
        refine wpAny_ready (rs := [3]) (by kernel_rfl) (by simp) ?_
        refine AllReady.cons rfl (fun K hK => ?_) ?_
        · go_simp
          refine (H3.out _ _ T1.out HB.out).mono ?_
          rintro e w2 ⟨rfl, hb⟩
          have HB2 := Lib.hid (HB.out.trans (hb.mono HB.out.size))
          clear hb
          refine hK _ _ ?_
          clear hK K
          refine wpAny_ready (rs := [4]) (by kernel_rfl) (by simp) ?_
          refine AllReady.cons rfl (fun K hK => ?_) ?_
          · go_simp
            refine (H4.out _).mono ?_
            rintro e w4 ⟨rfl, hb⟩
            have HB4 := Lib.hid (HB2.out.trans (hb.mono HB2.out.size))
            clear hb
            refine hK _ _ ?_
            clear hK K
            refine wpAny_ready (rs := [5]) (by kernel_rfl) (by simp) ?_
            refine AllReady.cons rfl (fun K hK => ?_) ?_
            · go_simp
              refine (H5.out _).mono ?_
              rintro e w5 ⟨rfl, hb⟩
              have HB5 := Lib.hid (HB4.out.trans (hb.mono HB4.out.size))
              clear hb
              refine hK _ _ ?_
              clear hK K
              refine wpAny_ready (rs := [6]) (by kernel_rfl) (by simp) ?_
              refine AllReady.cons rfl (fun K hK => ?_) ?_
              · go_simp
                refine hK _ _ ?_
                clear hK K
                refine wpAny_done (by kernel_rfl) ?_ _
                go_wp2_with fail
                go_ret
                exact ⟨rfl, HB5.out⟩
              exact AllReady.nil
            exact AllReady.nil
          exact AllReady.nil
        exact AllReady.nil
      exact AllReady.nil
    refine AllReady.cons rfl (fun K hK => ?_) ?_
    · go_simp
      refine (H2.out _ (Below.drew' w)).mono ?_
      rintro e w1 ⟨a1, n1, c1, rfl, hb, ht⟩
      have HB := Lib.hid ((Below.drew' w).trans (hb.mono (Below.drew' w).size))
      have k0 := kept_cell HB.out c0 hp
      have k1 := kept_cell HB.out c1' hq
      have T1 := Lib.hid ht
      clear hb ht
      refine hK _ _ ?_
      clear hK K
      refine wpAny_ready (rs := [0]) (by kernel_rfl) (by simp) ?_
      refine AllReady.cons rfl (fun K hK => ?_) ?_
      · go_simp
        refine hK _ _ ?_
        clear hK K
        refine wpAny_ready (rs := [3]) (by kernel_rfl) (by simp) ?_
        refine AllReady.cons rfl (fun K hK => ?_) ?_
        · go_simp
          refine (H3.out _ _ T1.out HB.out).mono ?_
          rintro e w2 ⟨rfl, hb⟩
          have HB2 := Lib.hid (HB.out.trans (hb.mono HB.out.size))
          clear hb
          refine hK _ _ ?_
          clear hK K
          refine wpAny_ready (rs := [4]) (by kernel_rfl) (by simp) ?_
          refine AllReady.cons rfl (fun K hK => ?_) ?_
          · go_simp
            refine (H4.out _).mono ?_
            rintro e w4 ⟨rfl, hb⟩
            have HB4 := Lib.hid (HB2.out.trans (hb.mono HB2.out.size))
            clear hb
            refine hK _ _ ?_
            clear hK K
            refine wpAny_ready (rs := [5]) (by kernel_rfl) (by simp) ?_
            refine AllReady.cons rfl (fun K hK => ?_) ?_
            · go_simp
              refine (H5.out _).mono ?_
              rintro e w5 ⟨rfl, hb⟩
              have HB5 := Lib.hid (HB4.out.trans (hb.mono HB4.out.size))
              clear hb
              refine hK _ _ ?_
              clear hK K
              refine wpAny_ready (rs := [6]) (by kernel_rfl) (by simp) ?_
              refine AllReady.cons rfl (fun K hK => ?_) ?_
              · go_simp
                refine hK _ _ ?_
                clear hK K
                refine wpAny_done (by kernel_rfl) ?_ _
                go_wp2_with fail
                go_ret
                exact ⟨rfl, HB5.out⟩
              exact AllReady.nil
            exact AllReady.nil
          exact AllReady.nil
        exact AllReady.nil
      exact AllReady.nil
    exact AllReady.nil
  exact AllReady.nil

end Go.Proofs.YtonjohlecomeoaaGreat.mks
