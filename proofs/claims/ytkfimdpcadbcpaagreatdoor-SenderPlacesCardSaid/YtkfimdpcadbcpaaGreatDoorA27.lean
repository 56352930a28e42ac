import Derived.Test.YtkfimdpcadbcpaaGreatDoorA23
import Derived.Test.YtkfimdpcadbcpaaGreatDoorA03
import Derived.Test.YtkfimdpcadbcpaaGreatDoorA10
import Derived.Test.YtkfimdpcadbcpaaGreatDoorA12
import Derived.Test.YtkfimdpcadbcpaaGreatDoorA09
import Derived.Test.YtkfimdpcadbcpaaGreatDoorA08
import Derived.Test.YtkfimdpcadbcpaaGreatDoorA01
set_option linter.unusedSimpArgs false
set_option linter.unusedVariables false
set_option maxRecDepth 1000000
set_option maxHeartbeats 8000000
namespace Go.Proofs.YtkfimdpcadbcpaaGreatDoor
section
open Go.RowKit Go.Extern.Stop Go.Stop Go.Extern
def rngB (c : Cfg) : Bool := decide ((0 ≤ c.ses ∧ c.ses ≤ 65535) ∧ (1 ≤ c.g ∧ c.g ≤ 8) ∧ (1 ≤ c.n ∧ c.n ≤ 65536) ∧ (1 ≤ c.every ∧ c.every ≤ 4096))
theorem zAy {w : World} (c : Cfg) : Calls Tryz.prog 51 #[.agg (cfgC c)] w fun e w' => e = .returned (.bool (rngB c)) ∧ Below w.heap.size w w' := by
  obtain ⟨w0, hw0, hb0, hbx⟩ := zAM w c
  have HW0 := lhd hw0
  have HB0 := lhd hb0
  obtain ⟨c0, c1, c2, c3, c4, c5, c6, c7⟩ := hbx.cells
  have HRB : Hid (rngB c = decide ((0 ≤ c.ses ∧ c.ses ≤ 65535) ∧ (1 ≤ c.g ∧ c.g ≤ 8) ∧ (1 ≤ c.n ∧ c.n ≤ 65536) ∧ (1 ≤ c.every ∧ c.every ≤ 4096))) := lhd rfl
  clear hw0 hb0 hbx
  unfold cfgC
  by_cases h0 : 0 ≤ c.ses
  rotate_left
  · have d0 : decide (0 ≤ c.ses) = false := decide_eq_false h0
    have HR : Hid (rngB c = false) := lhd (by rw [HRB.out]; exact decide_eq_false (by omega))
    go_enter Tryz.func51, Tryz.ntmps51
    go_upto_region 1 with fail
    rw [← HW0.out]
    go_wp2
    go_ret
    exact ⟨by rw [HR.out]; rfl, HB0.out⟩
  have d0 : decide (0 ≤ c.ses) = true := decide_eq_true h0
  by_cases h1 : c.ses ≤ 65535
  rotate_left
  · have d1 : decide (c.ses ≤ 65535) = false := decide_eq_false h1
    have HR : Hid (rngB c = false) := lhd (by rw [HRB.out]; exact decide_eq_false (by omega))
    go_enter Tryz.func51, Tryz.ntmps51
    go_upto_region 1 with fail
    rw [← HW0.out]
    go_wp2
    go_ret
    exact ⟨by rw [HR.out]; rfl, HB0.out⟩
  have d1 : decide (c.ses ≤ 65535) = true := decide_eq_true h1
  by_cases h2 : 1 ≤ c.g
  rotate_left
  · have d2 : decide (1 ≤ c.g) = false := decide_eq_false h2
    have HR : Hid (rngB c = false) := lhd (by rw [HRB.out]; exact decide_eq_false (by omega))
    go_enter Tryz.func51, Tryz.ntmps51
    go_upto_region 1 with fail
    rw [← HW0.out]
    go_wp2
    go_ret
    exact ⟨by rw [HR.out]; rfl, HB0.out⟩
  have d2 : decide (1 ≤ c.g) = true := decide_eq_true h2
  by_cases h3 : c.g ≤ 8
  rotate_left
  · have d3 : decide (c.g ≤ 8) = false := decide_eq_false h3
    have HR : Hid (rngB c = false) := lhd (by rw [HRB.out]; exact decide_eq_false (by omega))
    go_enter Tryz.func51, Tryz.ntmps51
    go_upto_region 1 with fail
    rw [← HW0.out]
    go_wp2
    go_ret
    exact ⟨by rw [HR.out]; rfl, HB0.out⟩
  have d3 : decide (c.g ≤ 8) = true := decide_eq_true h3
  by_cases h4 : 1 ≤ c.n
  rotate_left
  · have d4 : decide (1 ≤ c.n) = false := decide_eq_false h4
    have HR : Hid (rngB c = false) := lhd (by rw [HRB.out]; exact decide_eq_false (by omega))
    go_enter Tryz.func51, Tryz.ntmps51
    go_upto_region 1 with fail
    rw [← HW0.out]
    go_wp2
    go_ret
    exact ⟨by rw [HR.out]; rfl, HB0.out⟩
  have d4 : decide (1 ≤ c.n) = true := decide_eq_true h4
  by_cases h5 : c.n ≤ 65536
  rotate_left
  · have d5 : decide (c.n ≤ 65536) = false := decide_eq_false h5
    have HR : Hid (rngB c = false) := lhd (by rw [HRB.out]; exact decide_eq_false (by omega))
    go_enter Tryz.func51, Tryz.ntmps51
    go_upto_region 1 with fail
    rw [← HW0.out]
    go_wp2
    go_ret
    exact ⟨by rw [HR.out]; rfl, HB0.out⟩
  have d5 : decide (c.n ≤ 65536) = true := decide_eq_true h5
  by_cases h6 : 1 ≤ c.every
  rotate_left
  · have d6 : decide (1 ≤ c.every) = false := decide_eq_false h6
    have HR : Hid (rngB c = false) := lhd (by rw [HRB.out]; exact decide_eq_false (by omega))
    go_enter Tryz.func51, Tryz.ntmps51
    go_upto_region 1 with fail
    rw [← HW0.out]
    go_wp2
    go_ret
    exact ⟨by rw [HR.out]; rfl, HB0.out⟩
  have d6 : decide (1 ≤ c.every) = true := decide_eq_true h6
  by_cases h7 : c.every ≤ 4096
  rotate_left
  · have d7 : decide (c.every ≤ 4096) = false := decide_eq_false h7
    have HR : Hid (rngB c = false) := lhd (by rw [HRB.out]; exact decide_eq_false (by omega))
    go_enter Tryz.func51, Tryz.ntmps51
    go_upto_region 1 with fail
    rw [← HW0.out]
    go_wp2
    go_ret
    exact ⟨by rw [HR.out]; rfl, HB0.out⟩
  have d7 : decide (c.every ≤ 4096) = true := decide_eq_true h7
  have HR : Hid (rngB c = true) := lhd (by rw [HRB.out]; exact decide_eq_true (by omega))
  go_enter Tryz.func51, Tryz.ntmps51
  go_upto_region 1 with fail
  rw [← HW0.out]
  go_wp2
  go_ret
  exact ⟨by rw [HR.out]; rfl, HB0.out⟩
def NoPlan (k : Int) (w : World) (e : Ending) (w' : World) : Prop := k ≠ 0 ∧ Below w.heap.size w w' ∧ ∃ E ls, e = .returned (.tuple #[plV 0 0 0 0 0, E]) ∧ Chain w' k ls E
theorem zCy {k : Int} {c : ByteArray} {w : World} {E : Value} (h : ErrAns k c w E) (hk : k ≠ 0) : ∃ ls, Chain w k ls E := by
  obtain ⟨ls, h⟩ := (h.resolve_left (by rintro ⟨h, -⟩; exact hk h)).2
  exact ⟨_, h⟩
theorem Chain.setRow {k : Int} {l : List ByteArray} {W : World} {E : Value} {g : Nat} (h : Chain W k l E) (hg : PlBox W g 0 0 0 0 0) (cs : Array Value) : Chain (W.setRow g cs) k l E :=
  h.kept2 fun x s hc => by
    have n1 : x ≠ g := by
      rintro rfl
      rw [zAa (j := 0) (u := .int .i64 0) hg rfl] at hc
      cases hc
    exact setRow_other _ _ _ _ n1
theorem zD6 {w : World} (c : Cfg) (size : Int) (hR : rngB c = false) : Calls Tryz.prog 30 #[.agg (cfgC c), .int .i64 size] w (NoPlan 1 w) := by
  have HRB := lhd hR
  obtain ⟨w0, hw0, hb0, hx0⟩ := zAM w c
  obtain ⟨w1, hw1, hb1, hp1⟩ := zAv w0 0 0 0 0 0
  have hsz0 : w0.heap.size = w.heap.size + 1 := by rw [hw0]; exact World.size_alloc _ _
  rw [hsz0] at hp1
  have HW0 := lhd hw0
  have HW1 := lhd hw1
  have HB1 := lhd (hb0.trans (hb1.mono hb0.size))
  have HX1 := lhd (hx0.mono hb1)
  have HP1 := lhd hp1
  have HRG := lhd fun V => zAy (w := V) c
  clear hw0 hb0 hw1 hb1 hx0 hp1
  clear hR
  have hsz0' := lhd hsz0
  clear hsz0
  go_enter Tryz.func30, Tryz.ntmps30
  unfold cfgC
  go_upto_region 1 with fail
  rw [← HW0.out, ← HW1.out]
  go_wp2_with ((with_reducible show wpList _ _ _ (⟨some 11, _, _, _, _, _⟩ :: _) _ _); refine wpList_load_row rfl 23 (.tmp 2) rfl w.heap.size rfl 23 (cfgC c) (0, 0) _ HX1.out Tryz.underlying23 rfl (by kernel_rfl) ?_)
  with_reducible refine (HRG.out _).mono ?_
  rintro e w2 ⟨rfl, hb2⟩
  rw [HRB.out]
  have HB2 := lhd (HB1.out.trans (hb2.mono HB1.out.size))
  have HX2 := lhd (HX1.out.mono hb2)
  have HP2 := lhd (HP1.out.mono hb2)
  clear hb2
  go_wp2_with (first
    | ((with_reducible show wpList _ _ _ (⟨some 14, _, _, _, _, _⟩ :: _) _ _); refine zAk rfl 37 _ rfl (plC 0 0 0 0 0) (by kernel_rfl) ?_)
    | ((with_reducible show wpList _ _ _ (⟨none, _, _, _, _, _⟩ :: _) _ _); refine wpList_store_row rfl 37 (.tmp 4) (.tmp 14) rfl (w.heap.size + 1) (plC 0 0 0 0 0) rfl rfl 37 _ HP2.out (by kernel_rfl) (by rfl) (by kernel_rfl) ?_))
  refine bodyPost_ret (zAg rfl _ _ (w.heap.size + 1) 37 _ (0, 0) _ rfl (setRow_heap _ _ _ _ _ _ HP2.out) Tryz.underlying37 rfl (by kernel_rfl)) rfl ?_
  exact ⟨by decide, below_setRow HB2.out (Nat.le_succ _) _, _, _, rfl, Chain.leaf⟩
theorem zD0 {w : World} (hCheck : CaCheckC) (c : Cfg) (size : Int) (hc : CfgI c) (hR : rngB c = true) (hn : ¬ CaOk c.base c.burst 0) : Calls Tryz.prog 30 #[.agg (cfgC c), .int .i64 size] w (NoPlan 1 w) := by
  have HRB := lhd hR
  have HCA : Hid (∀ V : World, Calls Tryz.prog 52 #[.int .i64 c.base, .int .i64 c.burst] V fun e w' => ∃ E ls, e = .returned E ∧ Chain w' 1 ls E ∧ Below V.heap.size V w') := lhd fun V => (hCheck V _ _ hc.base hc.burst).mono (by
    rintro e w' ⟨E, rfl, h, hb⟩
    rw [show caN c.base c.burst 0 = 1 from if_neg hn] at h
    obtain ⟨ls, hch⟩ := zCy h (by decide)
    exact ⟨E, ls, rfl, hch, hb⟩)
  obtain ⟨w0, hw0, hb0, hx0⟩ := zAM w c
  obtain ⟨w1, hw1, hb1, hp1⟩ := zAv w0 0 0 0 0 0
  have hsz0 : w0.heap.size = w.heap.size + 1 := by rw [hw0]; exact World.size_alloc _ _
  rw [hsz0] at hp1
  have HW0 := lhd hw0
  have HW1 := lhd hw1
  have HB1 := lhd (hb0.trans (hb1.mono hb0.size))
  have HX1 := lhd (hx0.mono hb1)
  have HP1 := lhd hp1
  have HRG := lhd fun V => zAy (w := V) c
  clear hw0 hb0 hw1 hb1 hx0 hp1
  clear hR hn hc
  have hsz0' := lhd hsz0
  clear hsz0
  go_enter Tryz.func30, Tryz.ntmps30
  unfold cfgC
  go_upto_region 1 with fail
  rw [← HW0.out, ← HW1.out]
  go_wp2_with ((with_reducible show wpList _ _ _ (⟨some 11, _, _, _, _, _⟩ :: _) _ _); refine wpList_load_row rfl 23 (.tmp 2) rfl w.heap.size rfl 23 (cfgC c) (0, 0) _ HX1.out Tryz.underlying23 rfl (by kernel_rfl) ?_)
  with_reducible refine (HRG.out _).mono ?_
  rintro e w2 ⟨rfl, hb2⟩
  rw [HRB.out]
  have HB2 := lhd (HB1.out.trans (hb2.mono HB1.out.size))
  have HX2 := lhd (HX1.out.mono hb2)
  have HP2 := lhd (HP1.out.mono hb2)
  clear hb2
  obtain ⟨c0, c1, c2, c3, c4, c5, c6, c7⟩ := HX2.out.cells
  go_wp2_with fail
  with_reducible refine (HCA.out _).mono ?_
  rintro e w3 ⟨E, ls, rfl, hch, hb3⟩
  have HB3 := lhd (HB2.out.trans (hb3.mono HB2.out.size))
  have HP3 := lhd (HP2.out.mono hb3)
  have HCH := lhd hch
  obtain ⟨u, x, rfl⟩ := hch.iface
  clear hch hb3 c0 c1 c2 c3 c4 c5 c6 c7
  go_wp2_with (first
    | ((with_reducible show wpList _ _ _ (⟨some 23, _, _, _, _, _⟩ :: _) _ _); refine zAk rfl 37 _ rfl (plC 0 0 0 0 0) (by kernel_rfl) ?_)
    | ((with_reducible show wpList _ _ _ (⟨none, _, _, _, _, _⟩ :: _) _ _); refine wpList_store_row rfl 37 (.tmp 4) (.tmp 23) rfl (w.heap.size + 1) (plC 0 0 0 0 0) rfl rfl 37 _ HP3.out (by kernel_rfl) (by rfl) (by kernel_rfl) ?_))
  refine bodyPost_ret (zAg rfl _ _ (w.heap.size + 1) 37 _ (0, 0) _ rfl (setRow_heap _ _ _ _ _ _ HP3.out) Tryz.underlying37 rfl (by kernel_rfl)) rfl ?_
  exact ⟨by decide, below_setRow HB3.out (Nat.le_succ _) _, _, _, rfl, HCH.out.setRow HP3.out _⟩
theorem zCC {w : World} (hCheck : CaCheckC) (c : Cfg) (size : Int) (hc : CfgI c) (hR : rngB c = true) (hn : CaOk c.base c.burst 0) (k : Int) (hk : k ≠ 0)
    (hof : ∀ V : World, Calls Tryz.prog 53 #[.int .i64 size, .int .i64 c.b, .int .i64 c.k] V fun e w' => ∃ E, e = .returned (.tuple #[plV 0 0 0 0 0, E]) ∧ ErrAns k nameBkOf w' E ∧ Below V.heap.size V w') : Calls Tryz.prog 30 #[.agg (cfgC c), .int .i64 size] w (NoPlan k w) := by
  have HRB := lhd hR
  have HK := lhd hk
  have HOF : Hid (∀ V : World, Calls Tryz.prog 53 #[.int .i64 size, .int .i64 c.b, .int .i64 c.k] V fun e w' => ∃ E ls, e = .returned (.tuple #[.agg (plC 0 0 0 0 0), E]) ∧ Chain w' k ls E ∧ Below V.heap.size V w') := lhd fun V => (hof V).mono (by
    rintro e w' ⟨E, rfl, h, hb⟩
    obtain ⟨ls, hch⟩ := zCy h hk
    exact ⟨E, ls, rfl, hch, hb⟩)
  have HCA : Hid (∀ V : World, Calls Tryz.prog 52 #[.int .i64 c.base, .int .i64 c.burst] V fun e w' => e = .returned .nilIface ∧ Below V.heap.size V w') := lhd fun V => (hCheck V _ _ hc.base hc.burst).mono (by
    rintro e w' ⟨E, rfl, h, hb⟩
    rw [show caN c.base c.burst 0 = 0 from if_pos hn] at h
    exact ⟨by rw [h.nil_of], hb⟩)
  obtain ⟨w0, hw0, hb0, hx0⟩ := zAM w c
  obtain ⟨w1, hw1, hb1, hp1⟩ := zAv w0 0 0 0 0 0
  have hsz0 : w0.heap.size = w.heap.size + 1 := by rw [hw0]; exact World.size_alloc _ _
  rw [hsz0] at hp1
  have HW0 := lhd hw0
  have HW1 := lhd hw1
  have HB1 := lhd (hb0.trans (hb1.mono hb0.size))
  have HX1 := lhd (hx0.mono hb1)
  have HP1 := lhd hp1
  have HRG := lhd fun V => zAy (w := V) c
  clear hw0 hb0 hw1 hb1 hx0 hp1
  clear hR hn hc hof hk
  have hsz0' := lhd hsz0
  clear hsz0
  go_enter Tryz.func30, Tryz.ntmps30
  unfold cfgC
  go_upto_region 1 with fail
  rw [← HW0.out, ← HW1.out]
  go_wp2_with ((with_reducible show wpList _ _ _ (⟨some 11, _, _, _, _, _⟩ :: _) _ _); refine wpList_load_row rfl 23 (.tmp 2) rfl w.heap.size rfl 23 (cfgC c) (0, 0) _ HX1.out Tryz.underlying23 rfl (by kernel_rfl) ?_)
  with_reducible refine (HRG.out _).mono ?_
  rintro e w2 ⟨rfl, hb2⟩
  rw [HRB.out]
  have HB2 := lhd (HB1.out.trans (hb2.mono HB1.out.size))
  have HX2 := lhd (HX1.out.mono hb2)
  have HP2 := lhd (HP1.out.mono hb2)
  clear hb2
  obtain ⟨c0, c1, c2, c3, c4, c5, c6, c7⟩ := HX2.out.cells
  go_wp2_with fail
  with_reducible refine (HCA.out _).mono ?_
  rintro e w3 ⟨rfl, hb3⟩
  have HB3 := lhd (HB2.out.trans (hb3.mono HB2.out.size))
  have HX3 := lhd (HX2.out.mono hb3)
  have HP3 := lhd (HP2.out.mono hb3)
  clear hb3 c0 c1 c2 c3 c4 c5 c6 c7
  obtain ⟨c0, c1, c2, c3, c4, c5, c6, c7⟩ := HX3.out.cells
  go_wp2_with fail
  with_reducible refine (HOF.out _).mono ?_
  rintro e w4 ⟨E, ls, rfl, hch, hb4⟩
  have HB4 := lhd (HB3.out.trans (hb4.mono HB3.out.size))
  have HP4 := lhd (HP3.out.mono hb4)
  have HCH := lhd hch
  obtain ⟨u, x, rfl⟩ := hch.iface
  clear hch hb4 c0 c1 c2 c3 c4 c5 c6 c7
  obtain ⟨w5, hw5⟩ : ∃ W, W = w4.alloc (.cells (plC 0 0 0 0 0) 37) := ⟨_, rfl⟩
  have hb5 : Below w4.heap.size w4 w5 := by rw [hw5]; exact (Below.refl _ _).alloc (Nat.le_refl _) _
  have HB5 := lhd (HB4.out.trans (hb5.mono HB4.out.size))
  have HP5 := lhd (HP4.out.mono hb5)
  have HCH5 := lhd (HCH.out.mono hb5)
  have HW5 : Hid (w4.alloc (.cells (plC 0 0 0 0 0) 37) = w5) := lhd hw5.symm
  clear hw5 hb5
  go_upto_region 7 with ((with_reducible show wpList _ _ _ (⟨none, _, _, _, _, _⟩ :: _) _ _); refine zAf (plC 0 0 0 0 0) rfl 37 (.tmp 7) (.tmp 32) rfl rfl rfl (by kernel_rfl) (by rfl) (by kernel_rfl) ?_)
  rw [HW5.out]
  go_wp2_with (first
    | ((with_reducible show wpList _ _ _ (⟨some 36, _, _, _, _, _⟩ :: _) _ _); refine zAk rfl 37 _ rfl (plC 0 0 0 0 0) (by kernel_rfl) ?_)
    | ((with_reducible show wpList _ _ _ (⟨none, _, _, _, _, _⟩ :: _) _ _); refine wpList_store_row rfl 37 (.tmp 4) (.tmp 36) rfl (w.heap.size + 1) (plC 0 0 0 0 0) rfl rfl 37 _ HP5.out (by kernel_rfl) (by rfl) (by kernel_rfl) ?_))
  refine bodyPost_ret (zAg rfl _ _ (w.heap.size + 1) 37 _ (0, 0) _ rfl (setRow_heap _ _ _ _ _ _ HP5.out) Tryz.underlying37 rfl (by kernel_rfl)) rfl ?_
  exact ⟨HK.out, below_setRow HB5.out (Nat.le_succ _) _, _, _, rfl, HCH5.out.setRow HP5.out _⟩
theorem zCY {w : World} (hCheck : CaCheckC) (c : Cfg) (size : Int) (hc : CfgI c) (hR : rngB c = true) (hn : CaOk c.base c.burst 0) (g n k P s b N L Q most : Nat) (hcg : c.g = g) (hcn : c.n = n) (hk : (g : Int) - 1 = (k : Int)) (hg : g ≤ 8) (hPk : 2 ^ k = P) (hn2 : n ≤ 65536) (hN : N ≤ 16) (hmo : most ≤ 128)
    (hof : ∀ V : World, Calls Tryz.prog 53 #[.int .i64 size, .int .i64 c.b, .int .i64 c.k] V fun e w' => e = .returned (.tuple #[plV s b N L Q, .nilIface]) ∧ Below V.heap.size V w')
    (hsr : ∀ V : World, Calls Tryz.prog 54 #[.agg (plC s b N L Q), .int .i64 0] V fun e w' => e = .returned (.tuple #[.int .i64 (most : Int), .nilIface]) ∧ Below V.heap.size V w') (hy : n % P ≠ 0) : Calls Tryz.prog 30 #[.agg (cfgC c), .int .i64 size] w (NoPlan 2 w) := by
  have HRB := lhd hR
  have HCG := lhd hcg
  have HCN := lhd hcn
  clear hcg hcn
  have HSR := lhd hsr
  have HOF : Hid (∀ V : World, Calls Tryz.prog 53 #[.int .i64 size, .int .i64 c.b, .int .i64 c.k] V fun e w' => e = .returned (.tuple #[.agg (plC s b N L Q), .nilIface]) ∧ Below V.heap.size V w') := lhd hof
  have HCA : Hid (∀ V : World, Calls Tryz.prog 52 #[.int .i64 c.base, .int .i64 c.burst] V fun e w' => e = .returned .nilIface ∧ Below V.heap.size V w') := lhd fun V => (hCheck V _ _ hc.base hc.burst).mono (by
    rintro e w' ⟨E, rfl, h, hb⟩
    rw [show caN c.base c.burst 0 = 0 from if_pos hn] at h
    exact ⟨by rw [h.nil_of], hb⟩)
  have hK1 : (g : Int) - 1 = (k : Int) := hk
  have hkb : k ≤ 7 := by omega
  have hwk : IntKind.i64.wrap (k : Int) = (k : Int) := IntWalk.i64_in _ (by omega)
  have hL2 : (2 : Int) ^ k = (P : Int) := by rw [← hPk]; push_cast; rfl
  have hP : 0 < P := by rw [← hPk]; exact Nat.two_pow_pos k
  have hP2 : P ≤ 128 := by rw [← hPk]; exact Nat.le_trans (zAl (n := 7) (by omega)) (by decide)
  have hPn : ((P : Int) == 0) = false := by simp; omega
  have hPe : ¬ (P : Int) = 0 := by omega
  have hPz : ¬ P = 0 := by omega
  obtain ⟨y, hyy⟩ : ∃ y, n % P = y := ⟨_, rfl⟩
  rw [hyy] at hy
  have hmod : (n : Int).tmod (P : Int) = (y : Int) := by rw [← hyy]; exact Int.ofNat_tmod ..
  have hmod2 : (n : Int) % (P : Int) = (y : Int) := by rw [← hyy]; exact (Int.natCast_emod ..).symm
  have hyn : ((y : Int) == 0) = false := by simp; omega
  have hye : ¬ (y : Int) = 0 := by omega
  obtain ⟨w0, hw0, hb0, hx0⟩ := zAM w c
  obtain ⟨w1, hw1, hb1, hp1⟩ := zAv w0 0 0 0 0 0
  have hsz0 : w0.heap.size = w.heap.size + 1 := by rw [hw0]; exact World.size_alloc _ _
  rw [hsz0] at hp1
  have HW0 := lhd hw0
  have HW1 := lhd hw1
  have HB1 := lhd (hb0.trans (hb1.mono hb0.size))
  have HX1 := lhd (hx0.mono hb1)
  have HP1 := lhd hp1
  have HRG := lhd fun V => zAy (w := V) c
  clear hw0 hb0 hw1 hb1 hx0 hp1
  clear hR hn hc hof hsr hPk hyy hk
  have hsz0' := lhd hsz0
  clear hsz0
  go_enter Tryz.func30, Tryz.ntmps30
  unfold cfgC
  go_upto_region 1 with fail
  rw [← HW0.out, ← HW1.out]
  go_wp2_with ((with_reducible show wpList _ _ _ (⟨some 11, _, _, _, _, _⟩ :: _) _ _); refine wpList_load_row rfl 23 (.tmp 2) rfl w.heap.size rfl 23 (cfgC c) (0, 0) _ HX1.out Tryz.underlying23 rfl (by kernel_rfl) ?_)
  with_reducible refine (HRG.out _).mono ?_
  rintro e w2 ⟨rfl, hb2⟩
  rw [HRB.out]
  have HB2 := lhd (HB1.out.trans (hb2.mono HB1.out.size))
  have HX2 := lhd (HX1.out.mono hb2)
  have HP2 := lhd (HP1.out.mono hb2)
  clear hb2
  obtain ⟨c0, c1, c2, c3, c4, c5, c6, c7⟩ := HX2.out.cells
  go_wp2_with fail
  with_reducible refine (HCA.out _).mono ?_
  rintro e w3 ⟨rfl, hb3⟩
  have HB3 := lhd (HB2.out.trans (hb3.mono HB2.out.size))
  have HX3 := lhd (HX2.out.mono hb3)
  have HP3 := lhd (HP2.out.mono hb3)
  clear hb3 c0 c1 c2 c3 c4 c5 c6 c7
  obtain ⟨c0, c1, c2, c3, c4, c5, c6, c7⟩ := HX3.out.cells
  go_wp2_with fail
  with_reducible refine (HOF.out _).mono ?_
  rintro e w4 ⟨rfl, hb4⟩
  have HB4 := lhd (HB3.out.trans (hb4.mono HB3.out.size))
  have HX4 := lhd (HX3.out.mono hb4)
  have HP4 := lhd (HP3.out.mono hb4)
  clear hb4 c0 c1 c2 c3 c4 c5 c6 c7
  obtain ⟨w5, hw5⟩ : ∃ W, W = w4.alloc (.cells (plC s b N L Q) 37) := ⟨_, rfl⟩
  have hb5 : Below w4.heap.size w4 w5 := by rw [hw5]; exact (Below.refl _ _).alloc (Nat.le_refl _) _
  have HB5 := lhd (HB4.out.trans (hb5.mono HB4.out.size))
  have HX5 := lhd (HX4.out.mono hb5)
  have HP5 := lhd (HP4.out.mono hb5)
  obtain ⟨gq, hgq⟩ : ∃ gq, gq = w4.heap.size := ⟨_, rfl⟩
  have HQ5 : Hid (PlBox w5 gq s b N L Q) := lhd (by rw [hw5, hgq]; exact heap_alloc_new _ _)
  have HW5 : Hid (w4.alloc (.cells (plC s b N L Q) 37) = w5) := lhd hw5.symm
  clear hw5 hb5
  go_upto_region 7 with ((with_reducible show wpList _ _ _ (⟨none, _, _, _, _, _⟩ :: _) _ _); refine zAf (plC s b N L Q) rfl 37 (.tmp 7) (.tmp 32) rfl rfl rfl (by kernel_rfl) (by rfl) (by kernel_rfl) ?_)
  rw [HW5.out, ← hgq]
  clear hgq
  go_wp2_with ((with_reducible show wpList _ _ _ (⟨some 39, _, _, _, _, _⟩ :: _) _ _); refine wpList_load_row rfl 37 (.tmp 7) rfl gq rfl 37 (plC s b N L Q) (0, 0) _ HQ5.out Tryz.underlying37 rfl (by kernel_rfl) ?_)
  with_reducible refine (HSR.out _).mono ?_
  rintro e w6 ⟨rfl, hb6⟩
  have HB6 := lhd (HB5.out.trans (hb6.mono HB5.out.size))
  have HX6 := lhd (HX5.out.mono hb6)
  have HP6 := lhd (HP5.out.mono hb6)
  have HQ6 := lhd (HQ5.out.mono hb6)
  clear hb6
  obtain ⟨c0, c1, c2, c3, c4, c5, c6, c7⟩ := HX6.out.cells
  rw [HCG.out] at c1
  rw [HCN.out] at c2
  go_wp2_with (first
    | ((with_reducible show wpList _ _ _ (⟨some 62, _, _, _, _, _⟩ :: _) _ _); refine zAk rfl 37 _ rfl (plC 0 0 0 0 0) (by kernel_rfl) ?_)
    | ((with_reducible show wpList _ _ _ (⟨none, _, _, _, _, _⟩ :: _) _ _); refine wpList_store_row rfl 37 (.tmp 4) (.tmp 62) rfl (w.heap.size + 1) (plC 0 0 0 0 0) rfl rfl 37 _ HP6.out (by kernel_rfl) (by rfl) (by kernel_rfl) ?_))
  refine bodyPost_ret (zAg rfl _ _ (w.heap.size + 1) 37 _ (0, 0) _ rfl (setRow_heap _ _ _ _ _ _ HP6.out) Tryz.underlying37 rfl (by kernel_rfl)) rfl ?_
  exact ⟨by decide, below_setRow HB6.out (Nat.le_succ _) _, _, _, rfl, Chain.leaf⟩
theorem zC4 {w : World} (hCheck : CaCheckC) (c : Cfg) (size : Int) (hc : CfgI c) (hR : rngB c = true) (hn : CaOk c.base c.burst 0) (g n k P s b N L Q most : Nat) (hcg : c.g = g) (hcn : c.n = n) (hk : (g : Int) - 1 = (k : Int)) (hg : g ≤ 8) (hPk : 2 ^ k = P) (hn2 : n ≤ 65536) (hN : N ≤ 16) (hmo : most ≤ 128)
    (hof : ∀ V : World, Calls Tryz.prog 53 #[.int .i64 size, .int .i64 c.b, .int .i64 c.k] V fun e w' => e = .returned (.tuple #[plV s b N L Q, .nilIface]) ∧ Below V.heap.size V w')
    (hsr : ∀ V : World, Calls Tryz.prog 54 #[.agg (plC s b N L Q), .int .i64 0] V fun e w' => e = .returned (.tuple #[.int .i64 (most : Int), .nilIface]) ∧ Below V.heap.size V w') (hy : n % P = 0) (hlt : n < most) : Calls Tryz.prog 30 #[.agg (cfgC c), .int .i64 size] w (NoPlan 2 w) := by
  have HRB := lhd hR
  have HCG := lhd hcg
  have HCN := lhd hcn
  clear hcg hcn
  have HSR := lhd hsr
  have HOF : Hid (∀ V : World, Calls Tryz.prog 53 #[.int .i64 size, .int .i64 c.b, .int .i64 c.k] V fun e w' => e = .returned (.tuple #[.agg (plC s b N L Q), .nilIface]) ∧ Below V.heap.size V w') := lhd hof
  have HCA : Hid (∀ V : World, Calls Tryz.prog 52 #[.int .i64 c.base, .int .i64 c.burst] V fun e w' => e = .returned .nilIface ∧ Below V.heap.size V w') := lhd fun V => (hCheck V _ _ hc.base hc.burst).mono (by
    rintro e w' ⟨E, rfl, h, hb⟩
    rw [show caN c.base c.burst 0 = 0 from if_pos hn] at h
    exact ⟨by rw [h.nil_of], hb⟩)
  have hK1 : (g : Int) - 1 = (k : Int) := hk
  have hkb : k ≤ 7 := by omega
  have hwk : IntKind.i64.wrap (k : Int) = (k : Int) := IntWalk.i64_in _ (by omega)
  have hL2 : (2 : Int) ^ k = (P : Int) := by rw [← hPk]; push_cast; rfl
  have hP : 0 < P := by rw [← hPk]; exact Nat.two_pow_pos k
  have hP2 : P ≤ 128 := by rw [← hPk]; exact Nat.le_trans (zAl (n := 7) (by omega)) (by decide)
  have hPn : ((P : Int) == 0) = false := by simp; omega
  have hPe : ¬ (P : Int) = 0 := by omega
  have hPz : ¬ P = 0 := by omega
  have hmod : (n : Int).tmod (P : Int) = 0 := by have := Int.ofNat_tmod n P; rw [hy] at this; exact this.symm
  have hmod2 : (n : Int) % (P : Int) = 0 := by have := Int.natCast_emod n P; rw [hy] at this; exact this.symm
  have hd1 : decide ((n : Int) < (most : Int)) = true := decide_eq_true (by omega)
  obtain ⟨w0, hw0, hb0, hx0⟩ := zAM w c
  obtain ⟨w1, hw1, hb1, hp1⟩ := zAv w0 0 0 0 0 0
  have hsz0 : w0.heap.size = w.heap.size + 1 := by rw [hw0]; exact World.size_alloc _ _
  rw [hsz0] at hp1
  have HW0 := lhd hw0
  have HW1 := lhd hw1
  have HB1 := lhd (hb0.trans (hb1.mono hb0.size))
  have HX1 := lhd (hx0.mono hb1)
  have HP1 := lhd hp1
  have HRG := lhd fun V => zAy (w := V) c
  clear hw0 hb0 hw1 hb1 hx0 hp1
  clear hR hn hc hof hsr hPk hy hk
  have hsz0' := lhd hsz0
  clear hsz0
  go_enter Tryz.func30, Tryz.ntmps30
  unfold cfgC
  go_upto_region 1 with fail
  rw [← HW0.out, ← HW1.out]
  go_wp2_with ((with_reducible show wpList _ _ _ (⟨some 11, _, _, _, _, _⟩ :: _) _ _); refine wpList_load_row rfl 23 (.tmp 2) rfl w.heap.size rfl 23 (cfgC c) (0, 0) _ HX1.out Tryz.underlying23 rfl (by kernel_rfl) ?_)
  with_reducible refine (HRG.out _).mono ?_
  rintro e w2 ⟨rfl, hb2⟩
  rw [HRB.out]
  have HB2 := lhd (HB1.out.trans (hb2.mono HB1.out.size))
  have HX2 := lhd (HX1.out.mono hb2)
  have HP2 := lhd (HP1.out.mono hb2)
  clear hb2
  obtain ⟨c0, c1, c2, c3, c4, c5, c6, c7⟩ := HX2.out.cells
  go_wp2_with fail
  with_reducible refine (HCA.out _).mono ?_
  rintro e w3 ⟨rfl, hb3⟩
  have HB3 := lhd (HB2.out.trans (hb3.mono HB2.out.size))
  have HX3 := lhd (HX2.out.mono hb3)
  have HP3 := lhd (HP2.out.mono hb3)
  clear hb3 c0 c1 c2 c3 c4 c5 c6 c7
  obtain ⟨c0, c1, c2, c3, c4, c5, c6, c7⟩ := HX3.out.cells
  go_wp2_with fail
  with_reducible refine (HOF.out _).mono ?_
  rintro e w4 ⟨rfl, hb4⟩
  have HB4 := lhd (HB3.out.trans (hb4.mono HB3.out.size))
  have HX4 := lhd (HX3.out.mono hb4)
  have HP4 := lhd (HP3.out.mono hb4)
  clear hb4 c0 c1 c2 c3 c4 c5 c6 c7
  obtain ⟨w5, hw5⟩ : ∃ W, W = w4.alloc (.cells (plC s b N L Q) 37) := ⟨_, rfl⟩
  have hb5 : Below w4.heap.size w4 w5 := by rw [hw5]; exact (Below.refl _ _).alloc (Nat.le_refl _) _
  have HB5 := lhd (HB4.out.trans (hb5.mono HB4.out.size))
  have HX5 := lhd (HX4.out.mono hb5)
  have HP5 := lhd (HP4.out.mono hb5)
  obtain ⟨gq, hgq⟩ : ∃ gq, gq = w4.heap.size := ⟨_, rfl⟩
  have HQ5 : Hid (PlBox w5 gq s b N L Q) := lhd (by rw [hw5, hgq]; exact heap_alloc_new _ _)
  have HW5 : Hid (w4.alloc (.cells (plC s b N L Q) 37) = w5) := lhd hw5.symm
  clear hw5 hb5
  go_upto_region 7 with ((with_reducible show wpList _ _ _ (⟨none, _, _, _, _, _⟩ :: _) _ _); refine zAf (plC s b N L Q) rfl 37 (.tmp 7) (.tmp 32) rfl rfl rfl (by kernel_rfl) (by rfl) (by kernel_rfl) ?_)
  rw [HW5.out, ← hgq]
  clear hgq
  go_wp2_with ((with_reducible show wpList _ _ _ (⟨some 39, _, _, _, _, _⟩ :: _) _ _); refine wpList_load_row rfl 37 (.tmp 7) rfl gq rfl 37 (plC s b N L Q) (0, 0) _ HQ5.out Tryz.underlying37 rfl (by kernel_rfl) ?_)
  with_reducible refine (HSR.out _).mono ?_
  rintro e w6 ⟨rfl, hb6⟩
  have HB6 := lhd (HB5.out.trans (hb6.mono HB5.out.size))
  have HX6 := lhd (HX5.out.mono hb6)
  have HP6 := lhd (HP5.out.mono hb6)
  have HQ6 := lhd (HQ5.out.mono hb6)
  clear hb6
  obtain ⟨c0, c1, c2, c3, c4, c5, c6, c7⟩ := HX6.out.cells
  rw [HCG.out] at c1
  rw [HCN.out] at c2
  go_wp2_with (first
    | ((with_reducible show wpList _ _ _ (⟨some 62, _, _, _, _, _⟩ :: _) _ _); refine zAk rfl 37 _ rfl (plC 0 0 0 0 0) (by kernel_rfl) ?_)
    | ((with_reducible show wpList _ _ _ (⟨none, _, _, _, _, _⟩ :: _) _ _); refine wpList_store_row rfl 37 (.tmp 4) (.tmp 62) rfl (w.heap.size + 1) (plC 0 0 0 0 0) rfl rfl 37 _ HP6.out (by kernel_rfl) (by rfl) (by kernel_rfl) ?_))
  refine bodyPost_ret (zAg rfl _ _ (w.heap.size + 1) 37 _ (0, 0) _ rfl (setRow_heap _ _ _ _ _ _ HP6.out) Tryz.underlying37 rfl (by kernel_rfl)) rfl ?_
  exact ⟨by decide, below_setRow HB6.out (Nat.le_succ _) _, _, _, rfl, Chain.leaf⟩
theorem zDA {w : World} (hCheck : CaCheckC) (c : Cfg) (size : Int) (hc : CfgI c) (hR : rngB c = true) (hn : CaOk c.base c.burst 0) (g n k P s b N L Q most : Nat) (hcg : c.g = g) (hcn : c.n = n) (hk : (g : Int) - 1 = (k : Int)) (hg : g ≤ 8) (hPk : 2 ^ k = P) (hn2 : n ≤ 65536) (hN : N ≤ 16) (hmo : most ≤ 128)
    (hof : ∀ V : World, Calls Tryz.prog 53 #[.int .i64 size, .int .i64 c.b, .int .i64 c.k] V fun e w' => e = .returned (.tuple #[plV s b N L Q, .nilIface]) ∧ Below V.heap.size V w')
    (hsr : ∀ V : World, Calls Tryz.prog 54 #[.agg (plC s b N L Q), .int .i64 0] V fun e w' => e = .returned (.tuple #[.int .i64 (most : Int), .nilIface]) ∧ Below V.heap.size V w') (hRate : StRateC) (r : Nat) (hr : r = rateN k) (hg1 : 1 ≤ g) (hy : n % P = 0) (hmn : most ≤ n) (hl : 4096 < 2 * r * (n / P) * N) : Calls Tryz.prog 30 #[.agg (cfgC c), .int .i64 size] w (NoPlan 3 w) := by
  have HRB := lhd hR
  have HCG := lhd hcg
  have HCN := lhd hcn
  clear hcg hcn
  have HSR := lhd hsr
  have HOF : Hid (∀ V : World, Calls Tryz.prog 53 #[.int .i64 size, .int .i64 c.b, .int .i64 c.k] V fun e w' => e = .returned (.tuple #[.agg (plC s b N L Q), .nilIface]) ∧ Below V.heap.size V w') := lhd hof
  have HCA : Hid (∀ V : World, Calls Tryz.prog 52 #[.int .i64 c.base, .int .i64 c.burst] V fun e w' => e = .returned .nilIface ∧ Below V.heap.size V w') := lhd fun V => (hCheck V _ _ hc.base hc.burst).mono (by
    rintro e w' ⟨E, rfl, h, hb⟩
    rw [show caN c.base c.burst 0 = 0 from if_pos hn] at h
    exact ⟨by rw [h.nil_of], hb⟩)
  have hK1 : (g : Int) - 1 = (k : Int) := hk
  have hkb : k ≤ 7 := by omega
  have hwk : IntKind.i64.wrap (k : Int) = (k : Int) := IntWalk.i64_in _ (by omega)
  have hL2 : (2 : Int) ^ k = (P : Int) := by rw [← hPk]; push_cast; rfl
  have hP : 0 < P := by rw [← hPk]; exact Nat.two_pow_pos k
  have hP2 : P ≤ 128 := by rw [← hPk]; exact Nat.le_trans (zAl (n := 7) (by omega)) (by decide)
  have hPn : ((P : Int) == 0) = false := by simp; omega
  have hPe : ¬ (P : Int) = 0 := by omega
  have hPz : ¬ P = 0 := by omega
  have hmod : (n : Int).tmod (P : Int) = 0 := by have := Int.ofNat_tmod n P; rw [hy] at this; exact this.symm
  have hmod2 : (n : Int) % (P : Int) = 0 := by have := Int.natCast_emod n P; rw [hy] at this; exact this.symm
  have hd1 : decide ((n : Int) < (most : Int)) = false := decide_eq_false (by omega)
  have HRT : Hid (∀ V : World, Calls Tryz.prog 55 #[.int .i64 (g : Int), .int .i64 (k : Int)] V fun e w' => e = .returned (.int .i64 (r : Int)) ∧ Below V.heap.size V w') := lhd fun V => (hRate V (g : Int) (k : Int) ⟨by omega, by omega⟩ ⟨by omega, by omega⟩).mono (by
    rintro e w' ⟨rfl, hb⟩
    rw [if_pos (show mayB (g : Int) (k : Int) = true from decide_eq_true ⟨by omega, by omega, by omega, by omega⟩), Int.toNat_natCast, ← hr]
    exact ⟨rfl, hb⟩)
  have hrb : r ≤ 64 := by rw [hr]; exact zEi (by omega)
  obtain ⟨z, hz⟩ : ∃ z, n / P = z := ⟨_, rfl⟩
  rw [hz] at hl
  have hdiv : (n : Int).tdiv (P : Int) = (z : Int) := by rw [← hz]; exact Int.ofNat_tdiv ..
  have hdiv2 : (n : Int) / (P : Int) = (z : Int) := by rw [← hz]; exact (Int.natCast_ediv ..).symm
  have hzb : z ≤ 65536 := by rw [← hz]; exact Nat.le_trans (Nat.div_le_self n P) hn2
  obtain ⟨m1, hm1⟩ : ∃ m1, m1 = 2 * r * z := ⟨_, rfl⟩
  obtain ⟨m2, hm2⟩ : ∃ m2, m2 = m1 * N := ⟨_, rfl⟩
  have hmi1 : 2 * (r : Int) * (z : Int) = (m1 : Int) := by rw [hm1]; push_cast; rfl
  have hmi2 : (m1 : Int) * (N : Int) = (m2 : Int) := by rw [hm2]; push_cast; rfl
  have hm1b : m1 ≤ 128 * 65536 := by rw [hm1]; exact Nat.mul_le_mul (by omega) hzb
  have hm2b : m2 ≤ 128 * 65536 * 16 := by rw [hm2]; exact Nat.mul_le_mul hm1b hN
  rw [← hm1, ← hm2] at hl
  have hw1 : IntKind.i64.wrap (2 * (r : Int)) = 2 * (r : Int) := IntWalk.i64_in _ (by omega)
  have hw2 : IntKind.i64.wrap (z : Int) = (z : Int) := IntWalk.i64_in _ (by omega)
  have hw3 : IntKind.i64.wrap (m1 : Int) = (m1 : Int) := IntWalk.i64_in _ (by omega)
  have hw4 : IntKind.i64.wrap (m2 : Int) = (m2 : Int) := IntWalk.i64_in _ (by omega)
  have hd2 : decide ((4096 : Int) < (m2 : Int)) = true := decide_eq_true (by omega)
  obtain ⟨w0, hw0, hb0, hx0⟩ := zAM w c
  obtain ⟨w1, hw1, hb1, hp1⟩ := zAv w0 0 0 0 0 0
  have hsz0 : w0.heap.size = w.heap.size + 1 := by rw [hw0]; exact World.size_alloc _ _
  rw [hsz0] at hp1
  have HW0 := lhd hw0
  have HW1 := lhd hw1
  have HB1 := lhd (hb0.trans (hb1.mono hb0.size))
  have HX1 := lhd (hx0.mono hb1)
  have HP1 := lhd hp1
  have HRG := lhd fun V => zAy (w := V) c
  clear hw0 hb0 hw1 hb1 hx0 hp1
  clear hR hn hc hof hsr hPk hy hr hz hm1 hm2
  have hsz0' := lhd hsz0
  clear hsz0
  go_enter Tryz.func30, Tryz.ntmps30
  unfold cfgC
  go_upto_region 1 with fail
  rw [← HW0.out, ← HW1.out]
  go_wp2_with ((with_reducible show wpList _ _ _ (⟨some 11, _, _, _, _, _⟩ :: _) _ _); refine wpList_load_row rfl 23 (.tmp 2) rfl w.heap.size rfl 23 (cfgC c) (0, 0) _ HX1.out Tryz.underlying23 rfl (by kernel_rfl) ?_)
  with_reducible refine (HRG.out _).mono ?_
  rintro e w2 ⟨rfl, hb2⟩
  rw [HRB.out]
  have HB2 := lhd (HB1.out.trans (hb2.mono HB1.out.size))
  have HX2 := lhd (HX1.out.mono hb2)
  have HP2 := lhd (HP1.out.mono hb2)
  clear hb2
  obtain ⟨c0, c1, c2, c3, c4, c5, c6, c7⟩ := HX2.out.cells
  go_wp2_with fail
  with_reducible refine (HCA.out _).mono ?_
  rintro e w3 ⟨rfl, hb3⟩
  have HB3 := lhd (HB2.out.trans (hb3.mono HB2.out.size))
  have HX3 := lhd (HX2.out.mono hb3)
  have HP3 := lhd (HP2.out.mono hb3)
  clear hb3 c0 c1 c2 c3 c4 c5 c6 c7
  obtain ⟨c0, c1, c2, c3, c4, c5, c6, c7⟩ := HX3.out.cells
  go_wp2_with fail
  with_reducible refine (HOF.out _).mono ?_
  rintro e w4 ⟨rfl, hb4⟩
  have HB4 := lhd (HB3.out.trans (hb4.mono HB3.out.size))
  have HX4 := lhd (HX3.out.mono hb4)
  have HP4 := lhd (HP3.out.mono hb4)
  clear hb4 c0 c1 c2 c3 c4 c5 c6 c7
  obtain ⟨w5, hw5⟩ : ∃ W, W = w4.alloc (.cells (plC s b N L Q) 37) := ⟨_, rfl⟩
  have hb5 : Below w4.heap.size w4 w5 := by rw [hw5]; exact (Below.refl _ _).alloc (Nat.le_refl _) _
  have HB5 := lhd (HB4.out.trans (hb5.mono HB4.out.size))
  have HX5 := lhd (HX4.out.mono hb5)
  have HP5 := lhd (HP4.out.mono hb5)
  obtain ⟨gq, hgq⟩ : ∃ gq, gq = w4.heap.size := ⟨_, rfl⟩
  have HQ5 : Hid (PlBox w5 gq s b N L Q) := lhd (by rw [hw5, hgq]; exact heap_alloc_new _ _)
  have HW5 : Hid (w4.alloc (.cells (plC s b N L Q) 37) = w5) := lhd hw5.symm
  clear hw5 hb5
  go_upto_region 7 with ((with_reducible show wpList _ _ _ (⟨none, _, _, _, _, _⟩ :: _) _ _); refine zAf (plC s b N L Q) rfl 37 (.tmp 7) (.tmp 32) rfl rfl rfl (by kernel_rfl) (by rfl) (by kernel_rfl) ?_)
  rw [HW5.out, ← hgq]
  clear hgq
  go_wp2_with ((with_reducible show wpList _ _ _ (⟨some 39, _, _, _, _, _⟩ :: _) _ _); refine wpList_load_row rfl 37 (.tmp 7) rfl gq rfl 37 (plC s b N L Q) (0, 0) _ HQ5.out Tryz.underlying37 rfl (by kernel_rfl) ?_)
  with_reducible refine (HSR.out _).mono ?_
  rintro e w6 ⟨rfl, hb6⟩
  have HB6 := lhd (HB5.out.trans (hb6.mono HB5.out.size))
  have HX6 := lhd (HX5.out.mono hb6)
  have HP6 := lhd (HP5.out.mono hb6)
  have HQ6 := lhd (HQ5.out.mono hb6)
  clear hb6
  obtain ⟨c0, c1, c2, c3, c4, c5, c6, c7⟩ := HX6.out.cells
  rw [HCG.out] at c1
  rw [HCN.out] at c2
  go_upto_region 15 with fail
  have HBD : Below w6.heap.size w6 w6.drew := (Below.refl _ _).drew
  refine wp_region_held_drew (S := fun V => Below w6.heap.size w6 V) (by kernel_rfl) HBD (fun _ => ?_)
  (refine wpAnyH_take (i := 0) (v := ?_) rfl (by kernel_rfl) (by kernel_rfl) (by kernel_rfl) (fun _ _ _ h => h) (Or.inl ⟨by rfl, ?_⟩) HBD ?_; rotate_left; (focus (intro V hV; go_simp; first | done | with_reducible rfl)); (try simp only [nrz, Act.put]); refine wpAnyH_take (i := 2) (v := ?_) rfl (by kernel_rfl) (by kernel_rfl) (by kernel_rfl) (fun _ _ _ h => h) (Or.inl ⟨by rfl, ?_⟩) HBD ?_; rotate_left; (focus (intro V hV; go_simp; first | done | with_reducible rfl)); (try simp only [nrz, Act.put]); refine wpAnyH_take (i := 7) (v := ?_) rfl (by kernel_rfl) (by kernel_rfl) (by kernel_rfl) (fun _ _ _ h => h) (Or.inl ⟨by rfl, ?_⟩) HBD ?_; rotate_left; (focus (intro V hV; go_simp; first | done | with_reducible rfl)); (try simp only [nrz, Act.put]); refine wpAnyH_take (i := 9) (v := ?_) rfl (by kernel_rfl) (by kernel_rfl) (by kernel_rfl) (fun _ _ _ h => h) (Or.inl ⟨by rfl, ?_⟩) HBD ?_; rotate_left; (focus (intro V hV; go_simp; first | done | with_reducible rfl)); (try simp only [nrz, Act.put]); refine wpAnyH_take (i := 12) (v := ?_) rfl (by kernel_rfl) (by kernel_rfl) (by kernel_rfl) (fun _ _ _ h => h) (Or.inl ⟨by rfl, ?_⟩) HBD ?_; rotate_left; (focus (intro V hV; go_simp; first | done | with_reducible rfl)); (try simp only [nrz, Act.put]); refine wpAnyH_take (i := 1) (v := .int .i64 (g : Int)) rfl (by kernel_rfl) (by kernel_rfl) (by kernel_rfl) (fun _ _ _ h => h) (Or.inl ⟨by rfl, ?_⟩) HBD ?_; (focus (intro V hV; have c := HX6.out.mono hV; obtain ⟨c0, c1, c2, c3, c4, c5, c6, c7⟩ := c.cells; rw [HCG.out] at c1; rw [HCN.out] at c2; go_simp)); (try simp only [nrz, Act.put]); refine wpAnyH_take (i := 3) (v := .int .i64 (g : Int)) rfl (by kernel_rfl) (by kernel_rfl) (by kernel_rfl) (fun _ _ _ h => h) (Or.inl ⟨by rfl, ?_⟩) HBD ?_; (focus (intro V hV; have c := HX6.out.mono hV; obtain ⟨c0, c1, c2, c3, c4, c5, c6, c7⟩ := c.cells; rw [HCG.out] at c1; rw [HCN.out] at c2; go_simp)); (try simp only [nrz, Act.put]); refine wpAnyH_take (i := 4) (v := ?_) rfl (by kernel_rfl) (by kernel_rfl) (by kernel_rfl) (fun _ _ _ h => h) (Or.inl ⟨by rfl, ?_⟩) HBD ?_; rotate_left; (focus (intro V hV; go_simp; first | done | with_reducible rfl)); (try simp only [nrz, Act.put]); refine wpAnyH_take (i := 8) (v := .int .i64 (n : Int)) rfl (by kernel_rfl) (by kernel_rfl) (by kernel_rfl) (fun _ _ _ h => h) (Or.inl ⟨by rfl, ?_⟩) HBD ?_; (focus (intro V hV; have c := HX6.out.mono hV; obtain ⟨c0, c1, c2, c3, c4, c5, c6, c7⟩ := c.cells; rw [HCG.out] at c1; rw [HCN.out] at c2; go_simp)); (try simp only [nrz, Act.put]); refine wpAnyH_take (i := 10) (v := ?_) rfl (by kernel_rfl) (by kernel_rfl) (by kernel_rfl) (fun _ _ _ h => h) (Or.inl ⟨by rfl, ?_⟩) HBD ?_; rotate_left; (focus (intro V hV; go_simp; first | done | with_reducible rfl)); (try simp only [nrz, Act.put]); refine wpAnyH_take (i := 13) (v := .int .i64 (N : Int)) rfl (by kernel_rfl) (by kernel_rfl) (by kernel_rfl) (fun _ _ _ h => h) (Or.inl ⟨by rfl, ?_⟩) HBD ?_; (focus (intro V hV; have c := (HQ6.out.mono hV).cells.2.2.1; go_simp)); (try simp only [nrz, Act.put]); refine wpAnyH_ready (rs := [5]) (by kernel_rfl) (by simp) ?_; refine AllReadyH.cons rfl (fun K hK => ?_) (AllReadyH.nil); go_simp; go_at_call 55; (with_reducible refine (HRT.out _).mono ?_); rintro e w7 ⟨rfl, hb7⟩; have HB7 : Below w6.heap.size w6 w7 := Below.trans HBD (hb7.mono (Below.size HBD)); clear hb7; refine Shut.out hK _ _ HB7 (fun _ => ?_); clear hK K; (try simp only [nrz, Act.put]); refine wpAnyH_take (i := 6) (v := ?_) rfl (by kernel_rfl) (by kernel_rfl) (by kernel_rfl) (fun _ _ _ h => h) (Or.inl ⟨by rfl, ?_⟩) HB7 ?_; rotate_left; (focus (intro V hV; go_simp; first | done | with_reducible rfl)); (try simp only [nrz, Act.put]); refine wpAnyH_take (i := 11) (v := ?_) rfl (by kernel_rfl) (by kernel_rfl) (by kernel_rfl) (fun _ _ _ h => h) (Or.inl ⟨by rfl, ?_⟩) HB7 ?_; rotate_left; (focus (intro V hV; go_simp; first | done | with_reducible rfl)); (try simp only [nrz, Act.put]); refine wpAnyH_take (i := 14) (v := ?_) rfl (by kernel_rfl) (by kernel_rfl) (by kernel_rfl) (fun _ _ _ h => h) (Or.inl ⟨by rfl, ?_⟩) HB7 ?_; rotate_left; (focus (intro V hV; go_simp; first | done | with_reducible rfl)); (try simp only [nrz, Act.put]); refine wpAnyH_take (i := 15) (v := ?_) rfl (by kernel_rfl) (by kernel_rfl) (by kernel_rfl) (fun _ _ _ h => h) (Or.inl ⟨by rfl, ?_⟩) HB7 ?_; rotate_left; (focus (intro V hV; go_simp; first | done | with_reducible rfl)); (try simp only [nrz, Act.put]))
  all_goals refine wpAnyH_done (by kernel_rfl) ?_ _
  have HB67 := lhd HB7
  have HB8 := lhd (HB6.out.trans (Below.mono HB7 HB6.out.size))
  have HP8 := lhd (HP6.out.mono HB7)
  have HQ8 := lhd (HQ6.out.mono HB7)
  clear HB7 HBD c0 c1 c2 c3 c4 c5 c6 c7
  go_wp2_with (first
    | ((with_reducible show wpList _ _ _ (⟨some 80, _, _, _, _, _⟩ :: _) _ _); refine zAk rfl 37 _ rfl (plC 0 0 0 0 0) (by kernel_rfl) ?_)
    | ((with_reducible show wpList _ _ _ (⟨none, _, _, _, _, _⟩ :: _) _ _); refine wpList_store_row rfl 37 (.tmp 4) (.tmp 80) rfl (w.heap.size + 1) (plC 0 0 0 0 0) rfl rfl 37 _ HP8.out (by kernel_rfl) (by rfl) (by kernel_rfl) ?_))
  refine bodyPost_ret (zAg rfl _ _ (w.heap.size + 1) 37 _ (0, 0) _ rfl (setRow_heap _ _ _ _ _ _ HP8.out) Tryz.underlying37 rfl (by kernel_rfl)) rfl ?_
  exact ⟨by decide, below_setRow HB8.out (Nat.le_succ _) _, _, _, rfl, Chain.leaf⟩
theorem zE5 {w : World} (hCheck : CaCheckC) (c : Cfg) (size : Int) (hc : CfgI c) (hR : rngB c = true) (hn : CaOk c.base c.burst 0) (g n k P s b N L Q most : Nat) (hcg : c.g = g) (hcn : c.n = n) (hk : (g : Int) - 1 = (k : Int)) (hg : g ≤ 8) (hPk : 2 ^ k = P) (hn2 : n ≤ 65536) (hN : N ≤ 16) (hmo : most ≤ 128)
    (hof : ∀ V : World, Calls Tryz.prog 53 #[.int .i64 size, .int .i64 c.b, .int .i64 c.k] V fun e w' => e = .returned (.tuple #[plV s b N L Q, .nilIface]) ∧ Below V.heap.size V w')
    (hsr : ∀ V : World, Calls Tryz.prog 54 #[.agg (plC s b N L Q), .int .i64 0] V fun e w' => e = .returned (.tuple #[.int .i64 (most : Int), .nilIface]) ∧ Below V.heap.size V w') (hRate : StRateC) (r : Nat) (hr : r = rateN k) (hg1 : 1 ≤ g) (hy : n % P = 0) (hmn : most ≤ n) (hl : 2 * r * (n / P) * N ≤ 4096) : Calls Tryz.prog 30 #[.agg (cfgC c), .int .i64 size] w fun e w' => e = .returned (.tuple #[.agg (plC s b N L Q), .nilIface]) ∧ Below w.heap.size w w' := by
  have HRB := lhd hR
  have HCG := lhd hcg
  have HCN := lhd hcn
  clear hcg hcn
  have HSR := lhd hsr
  have HOF : Hid (∀ V : World, Calls Tryz.prog 53 #[.int .i64 size, .int .i64 c.b, .int .i64 c.k] V fun e w' => e = .returned (.tuple #[.agg (plC s b N L Q), .nilIface]) ∧ Below V.heap.size V w') := lhd hof
  have HCA : Hid (∀ V : World, Calls Tryz.prog 52 #[.int .i64 c.base, .int .i64 c.burst] V fun e w' => e = .returned .nilIface ∧ Below V.heap.size V w') := lhd fun V => (hCheck V _ _ hc.base hc.burst).mono (by
    rintro e w' ⟨E, rfl, h, hb⟩
    rw [show caN c.base c.burst 0 = 0 from if_pos hn] at h
    exact ⟨by rw [h.nil_of], hb⟩)
  have hK1 : (g : Int) - 1 = (k : Int) := hk
  have hkb : k ≤ 7 := by omega
  have hwk : IntKind.i64.wrap (k : Int) = (k : Int) := IntWalk.i64_in _ (by omega)
  have hL2 : (2 : Int) ^ k = (P : Int) := by rw [← hPk]; push_cast; rfl
  have hP : 0 < P := by rw [← hPk]; exact Nat.two_pow_pos k
  have hP2 : P ≤ 128 := by rw [← hPk]; exact Nat.le_trans (zAl (n := 7) (by omega)) (by decide)
  have hPn : ((P : Int) == 0) = false := by simp; omega
  have hPe : ¬ (P : Int) = 0 := by omega
  have hPz : ¬ P = 0 := by omega
  have hmod : (n : Int).tmod (P : Int) = 0 := by have := Int.ofNat_tmod n P; rw [hy] at this; exact this.symm
  have hmod2 : (n : Int) % (P : Int) = 0 := by have := Int.natCast_emod n P; rw [hy] at this; exact this.symm
  have hd1 : decide ((n : Int) < (most : Int)) = false := decide_eq_false (by omega)
  have HRT : Hid (∀ V : World, Calls Tryz.prog 55 #[.int .i64 (g : Int), .int .i64 (k : Int)] V fun e w' => e = .returned (.int .i64 (r : Int)) ∧ Below V.heap.size V w') := lhd fun V => (hRate V (g : Int) (k : Int) ⟨by omega, by omega⟩ ⟨by omega, by omega⟩).mono (by
    rintro e w' ⟨rfl, hb⟩
    rw [if_pos (show mayB (g : Int) (k : Int) = true from decide_eq_true ⟨by omega, by omega, by omega, by omega⟩), Int.toNat_natCast, ← hr]
    exact ⟨rfl, hb⟩)
  have hrb : r ≤ 64 := by rw [hr]; exact zEi (by omega)
  obtain ⟨z, hz⟩ : ∃ z, n / P = z := ⟨_, rfl⟩
  rw [hz] at hl
  have hdiv : (n : Int).tdiv (P : Int) = (z : Int) := by rw [← hz]; exact Int.ofNat_tdiv ..
  have hdiv2 : (n : Int) / (P : Int) = (z : Int) := by rw [← hz]; exact (Int.natCast_ediv ..).symm
  have hzb : z ≤ 65536 := by rw [← hz]; exact Nat.le_trans (Nat.div_le_self n P) hn2
  obtain ⟨m1, hm1⟩ : ∃ m1, m1 = 2 * r * z := ⟨_, rfl⟩
  obtain ⟨m2, hm2⟩ : ∃ m2, m2 = m1 * N := ⟨_, rfl⟩
  have hmi1 : 2 * (r : Int) * (z : Int) = (m1 : Int) := by rw [hm1]; push_cast; rfl
  have hmi2 : (m1 : Int) * (N : Int) = (m2 : Int) := by rw [hm2]; push_cast; rfl
  have hm1b : m1 ≤ 128 * 65536 := by rw [hm1]; exact Nat.mul_le_mul (by omega) hzb
  have hm2b : m2 ≤ 128 * 65536 * 16 := by rw [hm2]; exact Nat.mul_le_mul hm1b hN
  rw [← hm1, ← hm2] at hl
  have hw1 : IntKind.i64.wrap (2 * (r : Int)) = 2 * (r : Int) := IntWalk.i64_in _ (by omega)
  have hw2 : IntKind.i64.wrap (z : Int) = (z : Int) := IntWalk.i64_in _ (by omega)
  have hw3 : IntKind.i64.wrap (m1 : Int) = (m1 : Int) := IntWalk.i64_in _ (by omega)
  have hw4 : IntKind.i64.wrap (m2 : Int) = (m2 : Int) := IntWalk.i64_in _ (by omega)
  have hd2 : decide ((4096 : Int) < (m2 : Int)) = false := decide_eq_false (by omega)
  obtain ⟨w0, hw0, hb0, hx0⟩ := zAM w c
  obtain ⟨w1, hw1, hb1, hp1⟩ := zAv w0 0 0 0 0 0
  have hsz0 : w0.heap.size = w.heap.size + 1 := by rw [hw0]; exact World.size_alloc _ _
  rw [hsz0] at hp1
  have HW0 := lhd hw0
  have HW1 := lhd hw1
  have HB1 := lhd (hb0.trans (hb1.mono hb0.size))
  have HX1 := lhd (hx0.mono hb1)
  have HP1 := lhd hp1
  have HRG := lhd fun V => zAy (w := V) c
  clear hw0 hb0 hw1 hb1 hx0 hp1
  clear hR hn hc hof hsr hPk hy hr hz hm1 hm2
  have hsz0' := lhd hsz0
  clear hsz0
  go_enter Tryz.func30, Tryz.ntmps30
  unfold cfgC
  go_upto_region 1 with fail
  rw [← HW0.out, ← HW1.out]
  go_wp2_with ((with_reducible show wpList _ _ _ (⟨some 11, _, _, _, _, _⟩ :: _) _ _); refine wpList_load_row rfl 23 (.tmp 2) rfl w.heap.size rfl 23 (cfgC c) (0, 0) _ HX1.out Tryz.underlying23 rfl (by kernel_rfl) ?_)
  with_reducible refine (HRG.out _).mono ?_
  rintro e w2 ⟨rfl, hb2⟩
  rw [HRB.out]
  have HB2 := lhd (HB1.out.trans (hb2.mono HB1.out.size))
  have HX2 := lhd (HX1.out.mono hb2)
  have HP2 := lhd (HP1.out.mono hb2)
  clear hb2
  obtain ⟨c0, c1, c2, c3, c4, c5, c6, c7⟩ := HX2.out.cells
  go_wp2_with fail
  with_reducible refine (HCA.out _).mono ?_
  rintro e w3 ⟨rfl, hb3⟩
  have HB3 := lhd (HB2.out.trans (hb3.mono HB2.out.size))
  have HX3 := lhd (HX2.out.mono hb3)
  have HP3 := lhd (HP2.out.mono hb3)
  clear hb3 c0 c1 c2 c3 c4 c5 c6 c7
  obtain ⟨c0, c1, c2, c3, c4, c5, c6, c7⟩ := HX3.out.cells
  go_wp2_with fail
  with_reducible refine (HOF.out _).mono ?_
  rintro e w4 ⟨rfl, hb4⟩
  have HB4 := lhd (HB3.out.trans (hb4.mono HB3.out.size))
  have HX4 := lhd (HX3.out.mono hb4)
  have HP4 := lhd (HP3.out.mono hb4)
  clear hb4 c0 c1 c2 c3 c4 c5 c6 c7
  obtain ⟨w5, hw5⟩ : ∃ W, W = w4.alloc (.cells (plC s b N L Q) 37) := ⟨_, rfl⟩
  have hb5 : Below w4.heap.size w4 w5 := by rw [hw5]; exact (Below.refl _ _).alloc (Nat.le_refl _) _
  have HB5 := lhd (HB4.out.trans (hb5.mono HB4.out.size))
  have HX5 := lhd (HX4.out.mono hb5)
  have HP5 := lhd (HP4.out.mono hb5)
  obtain ⟨gq, hgq⟩ : ∃ gq, gq = w4.heap.size := ⟨_, rfl⟩
  have HQ5 : Hid (PlBox w5 gq s b N L Q) := lhd (by rw [hw5, hgq]; exact heap_alloc_new _ _)
  have HW5 : Hid (w4.alloc (.cells (plC s b N L Q) 37) = w5) := lhd hw5.symm
  clear hw5 hb5
  go_upto_region 7 with ((with_reducible show wpList _ _ _ (⟨none, _, _, _, _, _⟩ :: _) _ _); refine zAf (plC s b N L Q) rfl 37 (.tmp 7) (.tmp 32) rfl rfl rfl (by kernel_rfl) (by rfl) (by kernel_rfl) ?_)
  rw [HW5.out, ← hgq]
  clear hgq
  go_wp2_with ((with_reducible show wpList _ _ _ (⟨some 39, _, _, _, _, _⟩ :: _) _ _); refine wpList_load_row rfl 37 (.tmp 7) rfl gq rfl 37 (plC s b N L Q) (0, 0) _ HQ5.out Tryz.underlying37 rfl (by kernel_rfl) ?_)
  with_reducible refine (HSR.out _).mono ?_
  rintro e w6 ⟨rfl, hb6⟩
  have HB6 := lhd (HB5.out.trans (hb6.mono HB5.out.size))
  have HX6 := lhd (HX5.out.mono hb6)
  have HP6 := lhd (HP5.out.mono hb6)
  have HQ6 := lhd (HQ5.out.mono hb6)
  clear hb6
  obtain ⟨c0, c1, c2, c3, c4, c5, c6, c7⟩ := HX6.out.cells
  rw [HCG.out] at c1
  rw [HCN.out] at c2
  go_upto_region 15 with fail
  have HBD : Below w6.heap.size w6 w6.drew := (Below.refl _ _).drew
  refine wp_region_held_drew (S := fun V => Below w6.heap.size w6 V) (by kernel_rfl) HBD (fun _ => ?_)
  (refine wpAnyH_take (i := 0) (v := ?_) rfl (by kernel_rfl) (by kernel_rfl) (by kernel_rfl) (fun _ _ _ h => h) (Or.inl ⟨by rfl, ?_⟩) HBD ?_; rotate_left; (focus (intro V hV; go_simp; first | done | with_reducible rfl)); (try simp only [nrz, Act.put]); refine wpAnyH_take (i := 2) (v := ?_) rfl (by kernel_rfl) (by kernel_rfl) (by kernel_rfl) (fun _ _ _ h => h) (Or.inl ⟨by rfl, ?_⟩) HBD ?_; rotate_left; (focus (intro V hV; go_simp; first | done | with_reducible rfl)); (try simp only [nrz, Act.put]); refine wpAnyH_take (i := 7) (v := ?_) rfl (by kernel_rfl) (by kernel_rfl) (by kernel_rfl) (fun _ _ _ h => h) (Or.inl ⟨by rfl, ?_⟩) HBD ?_; rotate_left; (focus (intro V hV; go_simp; first | done | with_reducible rfl)); (try simp only [nrz, Act.put]); refine wpAnyH_take (i := 9) (v := ?_) rfl (by kernel_rfl) (by kernel_rfl) (by kernel_rfl) (fun _ _ _ h => h) (Or.inl ⟨by rfl, ?_⟩) HBD ?_; rotate_left; (focus (intro V hV; go_simp; first | done | with_reducible rfl)); (try simp only [nrz, Act.put]); refine wpAnyH_take (i := 12) (v := ?_) rfl (by kernel_rfl) (by kernel_rfl) (by kernel_rfl) (fun _ _ _ h => h) (Or.inl ⟨by rfl, ?_⟩) HBD ?_; rotate_left; (focus (intro V hV; go_simp; first | done | with_reducible rfl)); (try simp only [nrz, Act.put]); refine wpAnyH_take (i := 1) (v := .int .i64 (g : Int)) rfl (by kernel_rfl) (by kernel_rfl) (by kernel_rfl) (fun _ _ _ h => h) (Or.inl ⟨by rfl, ?_⟩) HBD ?_; (focus (intro V hV; have c := HX6.out.mono hV; obtain ⟨c0, c1, c2, c3, c4, c5, c6, c7⟩ := c.cells; rw [HCG.out] at c1; rw [HCN.out] at c2; go_simp)); (try simp only [nrz, Act.put]); refine wpAnyH_take (i := 3) (v := .int .i64 (g : Int)) rfl (by kernel_rfl) (by kernel_rfl) (by kernel_rfl) (fun _ _ _ h => h) (Or.inl ⟨by rfl, ?_⟩) HBD ?_; (focus (intro V hV; have c := HX6.out.mono hV; obtain ⟨c0, c1, c2, c3, c4, c5, c6, c7⟩ := c.cells; rw [HCG.out] at c1; rw [HCN.out] at c2; go_simp)); (try simp only [nrz, Act.put]); refine wpAnyH_take (i := 4) (v := ?_) rfl (by kernel_rfl) (by kernel_rfl) (by kernel_rfl) (fun _ _ _ h => h) (Or.inl ⟨by rfl, ?_⟩) HBD ?_; rotate_left; (focus (intro V hV; go_simp; first | done | with_reducible rfl)); (try simp only [nrz, Act.put]); refine wpAnyH_take (i := 8) (v := .int .i64 (n : Int)) rfl (by kernel_rfl) (by kernel_rfl) (by kernel_rfl) (fun _ _ _ h => h) (Or.inl ⟨by rfl, ?_⟩) HBD ?_; (focus (intro V hV; have c := HX6.out.mono hV; obtain ⟨c0, c1, c2, c3, c4, c5, c6, c7⟩ := c.cells; rw [HCG.out] at c1; rw [HCN.out] at c2; go_simp)); (try simp only [nrz, Act.put]); refine wpAnyH_take (i := 10) (v := ?_) rfl (by kernel_rfl) (by kernel_rfl) (by kernel_rfl) (fun _ _ _ h => h) (Or.inl ⟨by rfl, ?_⟩) HBD ?_; rotate_left; (focus (intro V hV; go_simp; first | done | with_reducible rfl)); (try simp only [nrz, Act.put]); refine wpAnyH_take (i := 13) (v := .int .i64 (N : Int)) rfl (by kernel_rfl) (by kernel_rfl) (by kernel_rfl) (fun _ _ _ h => h) (Or.inl ⟨by rfl, ?_⟩) HBD ?_; (focus (intro V hV; have c := (HQ6.out.mono hV).cells.2.2.1; go_simp)); (try simp only [nrz, Act.put]); refine wpAnyH_ready (rs := [5]) (by kernel_rfl) (by simp) ?_; refine AllReadyH.cons rfl (fun K hK => ?_) (AllReadyH.nil); go_simp; go_at_call 55; (with_reducible refine (HRT.out _).mono ?_); rintro e w7 ⟨rfl, hb7⟩; have HB7 : Below w6.heap.size w6 w7 := Below.trans HBD (hb7.mono (Below.size HBD)); clear hb7; refine Shut.out hK _ _ HB7 (fun _ => ?_); clear hK K; (try simp only [nrz, Act.put]); refine wpAnyH_take (i := 6) (v := ?_) rfl (by kernel_rfl) (by kernel_rfl) (by kernel_rfl) (fun _ _ _ h => h) (Or.inl ⟨by rfl, ?_⟩) HB7 ?_; rotate_left; (focus (intro V hV; go_simp; first | done | with_reducible rfl)); (try simp only [nrz, Act.put]); refine wpAnyH_take (i := 11) (v := ?_) rfl (by kernel_rfl) (by kernel_rfl) (by kernel_rfl) (fun _ _ _ h => h) (Or.inl ⟨by rfl, ?_⟩) HB7 ?_; rotate_left; (focus (intro V hV; go_simp; first | done | with_reducible rfl)); (try simp only [nrz, Act.put]); refine wpAnyH_take (i := 14) (v := ?_) rfl (by kernel_rfl) (by kernel_rfl) (by kernel_rfl) (fun _ _ _ h => h) (Or.inl ⟨by rfl, ?_⟩) HB7 ?_; rotate_left; (focus (intro V hV; go_simp; first | done | with_reducible rfl)); (try simp only [nrz, Act.put]); refine wpAnyH_take (i := 15) (v := ?_) rfl (by kernel_rfl) (by kernel_rfl) (by kernel_rfl) (fun _ _ _ h => h) (Or.inl ⟨by rfl, ?_⟩) HB7 ?_; rotate_left; (focus (intro V hV; go_simp; first | done | with_reducible rfl)); (try simp only [nrz, Act.put]))
  all_goals refine wpAnyH_done (by kernel_rfl) ?_ _
  have HB67 := lhd HB7
  have HB8 := lhd (HB6.out.trans (Below.mono HB7 HB6.out.size))
  have HP8 := lhd (HP6.out.mono HB7)
  have HQ8 := lhd (HQ6.out.mono HB7)
  clear HB7 HBD c0 c1 c2 c3 c4 c5 c6 c7
  go_wp2_with (first
    | ((with_reducible show wpList _ _ _ (⟨some 82, _, _, _, _, _⟩ :: _) _ _); refine wpList_load_row rfl 37 (.tmp 7) rfl gq rfl 37 (plC s b N L Q) (0, 0) _ HQ8.out Tryz.underlying37 rfl (by kernel_rfl) ?_)
    | ((with_reducible show wpList _ _ _ (⟨none, _, _, _, _, _⟩ :: _) _ _); refine wpList_store_row rfl 37 (.tmp 4) (.tmp 82) rfl (w.heap.size + 1) (plC s b N L Q) rfl rfl 37 _ HP8.out (by kernel_rfl) (by rfl) (by kernel_rfl) ?_))
  refine bodyPost_ret (zAg rfl _ _ (w.heap.size + 1) 37 _ (0, 0) _ rfl (setRow_heap _ _ _ _ _ _ HP8.out) Tryz.underlying37 rfl (by kernel_rfl)) rfl ?_
  exact ⟨rfl, below_setRow HB8.out (Nat.le_succ _) _⟩
end
end Go.Proofs.YtkfimdpcadbcpaaGreatDoor
