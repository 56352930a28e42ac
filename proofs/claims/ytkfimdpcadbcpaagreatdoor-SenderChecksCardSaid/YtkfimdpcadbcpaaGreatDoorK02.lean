import Derived.Test.YtkfimdpcadbcpaaGreatDoorChecked
import Derived.WalkKit
import Derived.ProofKit
import Derived.OpenShut
import Derived.Lib.Hide
import Derived.Laws.AppendOwn
import Derived.Laws.OwnMore
import Derived.Laws.MakeOwn
import Derived.Laws.AppendOwnNone
import Derived.Deep.Draws
import Derived.OwnWalk
import Derived.WalkSpells
import Derived.WalkLawsBesides
import Derived.Deep.LoopGhost
import Derived.Deep.RegionHeld
import Derived.Laws.Bits128
import Derived.Lib.BitFns
import Derived.Lib.TrailingZeros
import Derived.Laws.Bits64b
import Derived.BigQuiet
import Derived.WalkSmall
import Derived.Deep.QuietTactic
import Derived.Laws.ShiftsVar
import Derived.Deep.DeepHandedRow
import Derived.Deep.Strs
import Derived.LaidHandle
import Derived.Laws.BytesArg
import Derived.ChangeSlices
import Derived.SizedLaws
import Derived.Deep.Matrix
import Derived.Deep.Grids
import Derived.Lib.SmallJoins
import Derived.Laws.CopyOwn
import Derived.Deep.AppendLies
import Derived.Deep.RegionLaw
import Derived.Deep.RegionHeld3
import Derived.Maps.AppendAt
import Derived.Deep.WholeRow
import Derived.Laws.Tables
import Derived.Test.YtkfimdpcadbcpaaGreatDoorK01
import Derived.Deep.Cut
import Derived.LaidLaws
import Derived.ChangeArms
import Derived.ChangeSame
import Derived.FnData
import Derived.Shelf.Strconv.Itoa0
import Derived.Shelf.Spec.TrailingZeros
import Derived.Lib.SlBytesConst
import Derived.Lib.AppendZerosOnto
import Derived.Lib.AppendZeros
import Derived.Laws.Append
import Derived.Lib.LazyBuf
import Derived.Laws.StructEq
import Derived.WalkMore
import Derived.Deep.MidRow
import Derived.Test.YtkfimdpcadbcpaaGreatDoorA33
set_option linter.unusedSimpArgs false
set_option linter.unusedVariables false
set_option maxRecDepth 1000000
set_option maxHeartbeats 8000000
namespace Go.Proofs.YtkfimdpcadbcpaaGreatDoor
section
open Go.RowKit Go.Extern.Stop Go.Stop Go.Extern
section
variable {W W' : World} {g : Nat} {c : Cfg}
end
theorem yAf {w : World} (n a b : Int) : Calls Tryz.prog 32 #[.int .i64 n, .int .i64 a, .int .i64 b] w fun e w' => e = .returned (.bool (decide (a ≤ n ∧ n ≤ b))) ∧ w = w' := by
  by_cases h1 : a ≤ n
  · by_cases h2 : n ≤ b
    · rw [decide_eq_true ⟨h1, h2⟩]
      go_enter Tryz.func32, Tryz.ntmps32
      go_wp2
      go_ret
      exact ⟨by simp [h1, h2], rfl⟩
    · rw [decide_eq_false (fun h => h2 h.2)]
      go_enter Tryz.func32, Tryz.ntmps32
      go_wp2
      go_ret
      exact ⟨by simp [h1, h2], rfl⟩
  · rw [decide_eq_false (fun h => h1 h.1)]
    go_enter Tryz.func32, Tryz.ntmps32
    go_wp2
    go_ret
    exact ⟨by simp [h1], rfl⟩
theorem yAa {n a b : Int} (h : a ≤ n ∧ n ≤ b) (V : World) : Calls Tryz.prog 32 #[.int .i64 n, .int .i64 a, .int .i64 b] V fun e w' => e = .returned (.bool true) ∧ V = w' := by
  have := yAf (w := V) n a b
  rwa [decide_eq_true h] at this
theorem yAb {n a b : Int} (h : ¬ (a ≤ n ∧ n ≤ b)) (V : World) : Calls Tryz.prog 32 #[.int .i64 n, .int .i64 a, .int .i64 b] V fun e w' => e = .returned (.bool false) ∧ V = w' := by
  have := yAf (w := V) n a b
  rwa [decide_eq_false h] at this
theorem yAq {w : World} (c : Cfg) (size : Int)  (hx : ¬ (0 ≤ c.ses ∧ c.ses ≤ 65535)) : Calls Tryz.prog 11 #[cfgV c, .int .i64 size] w fun e w' => e = .returned (.int .i64 1) ∧ Below w.heap.size w w' := by
  have H0 := lhd fun V => yAb hx V
  obtain ⟨w0, hw0, hb0, hbx⟩ := zAM w c
  have HW0 := lhd hw0
  have HB0 := lhd hb0
  have HBX := lhd hbx
  unfold cfgV cfgC
  obtain ⟨c0, c1, c2, c3, c4, c5, c6, c7⟩ := hbx.cells
  clear hw0 hb0 hbx hx
  go_enter Tryz.func11, Tryz.ntmps11
  go_upto_region 1 with fail
  rw [← HW0.out]
  go_wp2_with fail
  with_reducible refine (H0.out _).mono ?_
  rintro e w1 ⟨rfl, rfl⟩
  go_wp2
  go_ret
  exact ⟨rfl, HB0.out⟩
theorem yAm {w : World} (c : Cfg) (size : Int) (h0 : 0 ≤ c.ses ∧ c.ses ≤ 65535) (hx : ¬ (1 ≤ c.g ∧ c.g ≤ 8)) : Calls Tryz.prog 11 #[cfgV c, .int .i64 size] w fun e w' => e = .returned (.int .i64 1) ∧ Below w.heap.size w w' := by
  have H0 := lhd fun V => yAa h0 V
  have H1 := lhd fun V => yAb hx V
  obtain ⟨w0, hw0, hb0, hbx⟩ := zAM w c
  have HW0 := lhd hw0
  have HB0 := lhd hb0
  have HBX := lhd hbx
  unfold cfgV cfgC
  obtain ⟨c0, c1, c2, c3, c4, c5, c6, c7⟩ := hbx.cells
  clear hw0 hb0 hbx hx h0
  go_enter Tryz.func11, Tryz.ntmps11
  go_upto_region 1 with fail
  rw [← HW0.out]
  go_wp2_with fail
  with_reducible refine (H0.out _).mono ?_
  rintro e w1 ⟨rfl, rfl⟩
  go_wp2_with fail
  with_reducible refine (H1.out _).mono ?_
  rintro e w1 ⟨rfl, rfl⟩
  go_wp2
  go_ret
  exact ⟨rfl, HB0.out⟩
theorem yAp {w : World} (c : Cfg) (size : Int) (h0 : 0 ≤ c.ses ∧ c.ses ≤ 65535) (h1 : 1 ≤ c.g ∧ c.g ≤ 8) (hx : ¬ (1 ≤ c.n ∧ c.n ≤ 65536)) : Calls Tryz.prog 11 #[cfgV c, .int .i64 size] w fun e w' => e = .returned (.int .i64 1) ∧ Below w.heap.size w w' := by
  have H0 := lhd fun V => yAa h0 V
  have H1 := lhd fun V => yAa h1 V
  have H2 := lhd fun V => yAb hx V
  obtain ⟨w0, hw0, hb0, hbx⟩ := zAM w c
  have HW0 := lhd hw0
  have HB0 := lhd hb0
  have HBX := lhd hbx
  unfold cfgV cfgC
  obtain ⟨c0, c1, c2, c3, c4, c5, c6, c7⟩ := hbx.cells
  clear hw0 hb0 hbx hx h0 h1
  go_enter Tryz.func11, Tryz.ntmps11
  go_upto_region 1 with fail
  rw [← HW0.out]
  go_wp2_with fail
  with_reducible refine (H0.out _).mono ?_
  rintro e w1 ⟨rfl, rfl⟩
  go_wp2_with fail
  with_reducible refine (H1.out _).mono ?_
  rintro e w1 ⟨rfl, rfl⟩
  go_wp2_with fail
  with_reducible refine (H2.out _).mono ?_
  rintro e w1 ⟨rfl, rfl⟩
  go_wp2
  go_ret
  exact ⟨rfl, HB0.out⟩
theorem yAo {w : World} (c : Cfg) (size : Int) (h0 : 0 ≤ c.ses ∧ c.ses ≤ 65535) (h1 : 1 ≤ c.g ∧ c.g ≤ 8) (h2 : 1 ≤ c.n ∧ c.n ≤ 65536) (hx : ¬ (1 ≤ c.every ∧ c.every ≤ 4096)) : Calls Tryz.prog 11 #[cfgV c, .int .i64 size] w fun e w' => e = .returned (.int .i64 1) ∧ Below w.heap.size w w' := by
  have H0 := lhd fun V => yAa h0 V
  have H1 := lhd fun V => yAa h1 V
  have H2 := lhd fun V => yAa h2 V
  have H3 := lhd fun V => yAb hx V
  obtain ⟨w0, hw0, hb0, hbx⟩ := zAM w c
  have HW0 := lhd hw0
  have HB0 := lhd hb0
  have HBX := lhd hbx
  unfold cfgV cfgC
  obtain ⟨c0, c1, c2, c3, c4, c5, c6, c7⟩ := hbx.cells
  clear hw0 hb0 hbx hx h0 h1 h2
  go_enter Tryz.func11, Tryz.ntmps11
  go_upto_region 1 with fail
  rw [← HW0.out]
  go_wp2_with fail
  with_reducible refine (H0.out _).mono ?_
  rintro e w1 ⟨rfl, rfl⟩
  go_wp2_with fail
  with_reducible refine (H1.out _).mono ?_
  rintro e w1 ⟨rfl, rfl⟩
  go_wp2_with fail
  with_reducible refine (H2.out _).mono ?_
  rintro e w1 ⟨rfl, rfl⟩
  go_wp2_with fail
  with_reducible refine (H3.out _).mono ?_
  rintro e w1 ⟨rfl, rfl⟩
  go_wp2
  go_ret
  exact ⟨rfl, HB0.out⟩
theorem yAn {w : World} (c : Cfg) (size : Int) (h0 : 0 ≤ c.ses ∧ c.ses ≤ 65535) (h1 : 1 ≤ c.g ∧ c.g ≤ 8) (h2 : 1 ≤ c.n ∧ c.n ≤ 65536) (h3 : 1 ≤ c.every ∧ c.every ≤ 4096) (hx : ¬ CaOk c.base c.burst 0) (ib : I64 c.base) (iu : I64 c.burst) : Calls Tryz.prog 11 #[cfgV c, .int .i64 size] w fun e w' => e = .returned (.int .i64 1) ∧ Below w.heap.size w w' := by
  have H0 := lhd fun V => yAa h0 V
  have H1 := lhd fun V => yAa h1 V
  have H2 := lhd fun V => yAa h2 V
  have H3 := lhd fun V => yAa h3 V
  have H4 : Hid (∀ V : World, Calls Tryz.prog 33 #[.int .i64 c.base, .int .i64 c.burst, .int .i64 0] V fun e w' => e = .returned (.int .i64 1) ∧ V = w') := lhd fun V => by
    have := yAd (w := V) c.base c.burst 0 ib iu ⟨by decide, by decide⟩
    rwa [zMq hx] at this
  obtain ⟨w0, hw0, hb0, hbx⟩ := zAM w c
  have HW0 := lhd hw0
  have HB0 := lhd hb0
  have HBX := lhd hbx
  unfold cfgV cfgC
  obtain ⟨c0, c1, c2, c3, c4, c5, c6, c7⟩ := hbx.cells
  clear hw0 hb0 hbx hx h0 h1 h2 h3 ib iu
  go_enter Tryz.func11, Tryz.ntmps11
  go_upto_region 1 with fail
  rw [← HW0.out]
  go_wp2_with fail
  with_reducible refine (H0.out _).mono ?_
  rintro e w1 ⟨rfl, rfl⟩
  go_wp2_with fail
  with_reducible refine (H1.out _).mono ?_
  rintro e w1 ⟨rfl, rfl⟩
  go_wp2_with fail
  with_reducible refine (H2.out _).mono ?_
  rintro e w1 ⟨rfl, rfl⟩
  go_wp2_with fail
  with_reducible refine (H3.out _).mono ?_
  rintro e w1 ⟨rfl, rfl⟩
  go_wp2_with fail
  with_reducible refine (H4.out _).mono ?_
  rintro e w1 ⟨rfl, rfl⟩
  go_wp2
  go_ret
  exact ⟨rfl, HB0.out⟩
theorem yAs {w : World} (c : Cfg) (hc : CfgI c) (size : Int) (h : ¬ CfgR c) : Calls Tryz.prog 11 #[cfgV c, .int .i64 size] w fun e w' => e = .returned (.int .i64 1) ∧ Below w.heap.size w w' := by
  by_cases h0 : 0 ≤ c.ses ∧ c.ses ≤ 65535
  · by_cases h1 : 1 ≤ c.g ∧ c.g ≤ 8
    · by_cases h2 : 1 ≤ c.n ∧ c.n ≤ 65536
      · by_cases h3 : 1 ≤ c.every ∧ c.every ≤ 4096
        · exact yAn c size h0 h1 h2 h3 (fun h4 => h ⟨h0, h1, h2, h3, h4⟩) hc.base hc.burst
        · exact yAo c size h0 h1 h2 h3
      · exact yAp c size h0 h1 h2
    · exact yAm c size h0 h1
  · exact yAq c size h0
theorem yAe {w : World} (c : Cfg) (hc : CfgI c) (size k : Int) (hR : CfgR c) (hk : k ≠ 0) (hO : ∀ V : World, Calls Tryz.prog 34 #[.int .i64 size, .int .i64 c.b, .int .i64 c.k] V fun e w' => e = .returned (.tuple #[plV 0 0 0 0 0, .int .i64 k]) ∧ Below V.heap.size V w') :
    Calls Tryz.prog 11 #[cfgV c, .int .i64 size] w fun e w' => e = .returned (.int .i64 k) ∧ Below w.heap.size w w' := by
  have hR0 := hR
  obtain ⟨h0, h1, h2, h3, h4⟩ := hR0
  have H0 := lhd fun V => yAa h0 V
  have H1 := lhd fun V => yAa h1 V
  have H2 := lhd fun V => yAa h2 V
  have H3 := lhd fun V => yAa h3 V
  have H4 : Hid (∀ V : World, Calls Tryz.prog 33 #[.int .i64 c.base, .int .i64 c.burst, .int .i64 0] V fun e w' => e = .returned (.int .i64 0) ∧ V = w') := lhd fun V => by
    have := yAd (w := V) c.base c.burst 0 hc.base hc.burst ⟨by decide, by decide⟩
    rwa [caN_zero.2 h4] at this
  obtain ⟨w0, hw0, hb0, hbx⟩ := zAM w c
  have HW0 := lhd hw0
  have HB0 := lhd hb0
  have HBX := lhd hbx
  have HO := lhd hO
  have hkn : (k == 0) = false := by simpa using hk
  unfold cfgV cfgC
  obtain ⟨c0, c1, c2, c3, c4, c5, c6, c7⟩ := hbx.cells
  clear hw0 hb0 hbx hO hR h0 h1 h2 h3 h4 hc
  go_enter Tryz.func11, Tryz.ntmps11
  go_upto_region 1 with fail
  rw [← HW0.out]
  go_wp2_with fail
  with_reducible refine (H0.out _).mono ?_
  rintro e w1 ⟨rfl, rfl⟩
  go_wp2_with fail
  with_reducible refine (H1.out _).mono ?_
  rintro e w1 ⟨rfl, rfl⟩
  go_wp2_with fail
  with_reducible refine (H2.out _).mono ?_
  rintro e w1 ⟨rfl, rfl⟩
  go_wp2_with fail
  with_reducible refine (H3.out _).mono ?_
  rintro e w1 ⟨rfl, rfl⟩
  go_wp2_with fail
  with_reducible refine (H4.out _).mono ?_
  rintro e w1 ⟨rfl, rfl⟩
  go_wp2_with fail
  with_reducible refine (HO.out _).mono ?_
  rintro e w1 ⟨rfl, hb1⟩
  have HB1 := lhd (HB0.out.trans (hb1.mono HB0.out.size))
  clear hb1 c0 c1 c2 c3 c4 c5 c6 c7
  unfold plV plC
  go_wp2
  go_ret
  exact ⟨rfl, HB1.out.alloc HB1.out.size _⟩
theorem yAj {w : World} (ses g n b k base burst every size N L Q : Nat) (hR : CfgR ⟨ses, g, n, b, k, base, burst, every⟩) (hc : CfgI ⟨ses, g, n, b, k, base, burst, every⟩) (hp : PlanOk size b N L Q)
    (hO : ∀ V : World, Calls Tryz.prog 34 #[.int .i64 (size : Int), .int .i64 (b : Int), .int .i64 (k : Int)] V fun e w' => e = .returned (.tuple #[plV size b N L Q, .int .i64 0]) ∧ Below V.heap.size V w') :
    Calls Tryz.prog 11 #[cfgV ⟨ses, g, n, b, k, base, burst, every⟩, .int .i64 (size : Int)] w fun e w' => e = .returned (.int .i64 (lastE g n N L Q)) ∧ Below w.heap.size w w' := by
  obtain ⟨c, hcd⟩ : ∃ c : Cfg, c = ⟨ses, g, n, b, k, base, burst, every⟩ := ⟨_, rfl⟩
  rw [← hcd] at hR hc ⊢
  have hR0 := hR
  obtain ⟨h0, h1, h2, h3, h4⟩ := hR0
  have H0 := lhd fun V => yAa h0 V
  have H1 := lhd fun V => yAa h1 V
  have H2 := lhd fun V => yAa h2 V
  have H3 := lhd fun V => yAa h3 V
  have H4 : Hid (∀ V : World, Calls Tryz.prog 33 #[.int .i64 c.base, .int .i64 c.burst, .int .i64 0] V fun e w' => e = .returned (.int .i64 0) ∧ V = w') := lhd fun V => by
    have := yAd (w := V) c.base c.burst 0 hc.base hc.burst ⟨by decide, by decide⟩
    rwa [caN_zero.2 h4] at this
  obtain ⟨w0, hw0, hb0, hbx⟩ := zAM w c
  have HW0 := lhd hw0
  have HB0 := lhd hb0
  have HBX := lhd hbx
  subst hcd
  have HO := lhd hO
  simp only at h0 h1 h2 h3
  obtain ⟨G1, hG1⟩ : ∃ G1, g = G1 + 1 := ⟨g - 1, by omega⟩
  have e1 : (g : Int) - 1 = (G1 : Int) := by omega
  have hPW : Hid (∀ V : World, Calls Tryz.prog 24 #[.int .i64 (G1 : Int)] V fun e w' => e = .returned (.int .i64 ((2 ^ G1 : Nat) : Int)) ∧ V = w') := lhd fun V => yAh G1 (by omega)
  have HSR : Hid (∀ V : World, Calls Tryz.prog 35 #[.agg #[.int .i64 (size : Int), .int .i64 (b : Int), .int .i64 (N : Int), .int .i64 (L : Int), .int .i64 (Q : Int)], .int .i64 0] V fun e w' => e = .returned (.int .i64 ((cntP L Q 0 : Nat) : Int)) ∧ Below V.heap.size V w') := lhd fun V => yAr hp 0
  have HE : Hid (lastE g n N L Q = if n % 2 ^ G1 ≠ 0 ∨ n < cntP L Q 0 then 2 else if 4096 < 2 * rateN G1 * (n / 2 ^ G1) * N then 3 else 0) := lhd (by
    unfold lastE
    rw [show g - 1 = G1 by omega])
  have hP1 : 2 ^ G1 ≤ 2 ^ 7 := zAl (by omega)
  have hP0 : 0 < 2 ^ G1 := Nat.two_pow_pos G1
  have hcq : cntP L Q 0 ≤ 128 := (hp.cnt 0).2
  have hN := hp.n16
  have hRT : G1 = 0 ∧ rateN G1 = 1 ∨ ∃ j, G1 = j + 1 ∧ rateN G1 = 2 ^ j := by
    cases G1 with
    | zero => exact .inl ⟨rfl, rfl⟩
    | succ j => exact .inr ⟨j, rfl, rfl⟩
  have hRB : rateN G1 ≤ 64 := zEi (by omega)
  have hmod : (n : Int).tmod ((2 ^ G1 : Nat) : Int) = ((n % 2 ^ G1 : Nat) : Int) := Int.ofNat_tmod ..
  have hdiv : (n : Int).tdiv ((2 ^ G1 : Nat) : Int) = ((n / 2 ^ G1 : Nat) : Int) := Int.ofNat_tdiv ..
  have hnz : n / 2 ^ G1 ≤ n := Nat.div_le_self ..
  obtain ⟨R, hRR⟩ : ∃ R, R = rateN G1 := ⟨_, rfl⟩
  rw [← hRR] at hRT hRB HE
  generalize cntP L Q 0 = CQ at *
  generalize hz : n / 2 ^ G1 = z at *
  generalize hm : n % 2 ^ G1 = m at *
  generalize hPP : 2 ^ G1 = P at *
  obtain ⟨x, hx⟩ : ∃ x, x = 2 * R * z := ⟨_, rfl⟩
  obtain ⟨y, hy⟩ : ∃ y, y = x * N := ⟨_, rfl⟩
  have hxb : x ≤ 128 * 65536 := by rw [hx]; exact Nat.mul_le_mul (by omega) (by omega)
  have hyb : y ≤ 128 * 65536 * 16 := by rw [hy]; exact Nat.mul_le_mul hxb hN
  have hxi : 2 * (R : Int) * (z : Int) = (x : Int) := by rw [hx]; push_cast; rfl
  have hyi : (x : Int) * (N : Int) = (y : Int) := by rw [hy]; push_cast; rfl
  rw [← hx, ← hy] at HE
  have hPn : ((P : Int) == 0) = false := by simp; omega
  have hPe : ¬ (P : Int) = 0 := by omega
  have hPz : ¬ P = 0 := by omega
  have hgb := h1
  have hnb := h2
  have HG := lhd hG1
  unfold cfgV cfgC
  obtain ⟨c0, c1, c2, c3, c4, c5, c6, c7⟩ := hbx.cells
  clear hw0 hb0 hO hR h0 h1 h2 h3 h4 hc hx hy hz hm hPP hRR hp hG1
  go_enter Tryz.func11, Tryz.ntmps11
  go_upto_region 1 with fail
  rw [← HW0.out]
  go_wp2_with fail
  with_reducible refine (H0.out _).mono ?_
  rintro e w1 ⟨rfl, rfl⟩
  go_wp2_with fail
  with_reducible refine (H1.out _).mono ?_
  rintro e w1 ⟨rfl, rfl⟩
  go_wp2_with fail
  with_reducible refine (H2.out _).mono ?_
  rintro e w1 ⟨rfl, rfl⟩
  go_wp2_with fail
  with_reducible refine (H3.out _).mono ?_
  rintro e w1 ⟨rfl, rfl⟩
  go_wp2_with fail
  with_reducible refine (H4.out _).mono ?_
  rintro e w1 ⟨rfl, rfl⟩
  go_wp2_with fail
  with_reducible refine (HO.out _).mono ?_
  rintro e w1 ⟨rfl, hb1⟩
  obtain ⟨w2, hw2, hb2, hy2⟩ := zAv w1 (size : Int) (b : Int) (N : Int) (L : Int) (Q : Int)
  have HW2 := lhd hw2
  have HB2 := lhd (HB0.out.trans ((hb1.trans (hb2.mono hb1.size)).mono HB0.out.size))
  have HBX2 := lhd ((HBX.out.mono hb1).mono hb2)
  have HPL := lhd hy2
  clear hb1 hw2 hb2 hy2 hbx c0 c1 c2 c3 c4 c5 c6 c7
  unfold plV plC
  go_upto_region 4 with fail
  rw [← HW2.out]
  have HSAT : Hid (∀ V, Below w2.heap.size w2 V → V.cell? ⟨w.heap.size, 1, none⟩ = some (.int .i64 (g : Int)) ∧ V.cell? ⟨w.heap.size, 2, none⟩ = some (.int .i64 (n : Int)) ∧ V.cell? ⟨w1.heap.size, 0, none⟩ = some (.int .i64 (size : Int)) ∧ V.cell? ⟨w1.heap.size, 1, none⟩ = some (.int .i64 (b : Int)) ∧ V.cell? ⟨w1.heap.size, 2, none⟩ = some (.int .i64 (N : Int)) ∧ V.cell? ⟨w1.heap.size, 3, none⟩ = some (.int .i64 (L : Int)) ∧ V.cell? ⟨w1.heap.size, 4, none⟩ = some (.int .i64 (Q : Int)) ∧ True ∧ True) := lhd fun V hV => by
    have h := (HBX2.out.mono hV).cells
    have h2 := (HPL.out.mono hV).cells
    exact ⟨h.2.1, h.2.2.1, h2.1, h2.2.1, h2.2.2.1, h2.2.2.2.1, h2.2.2.2.2, trivial, trivial⟩
  have c1 := (HSAT.out w2 (Below.refl _ _)).1
  go_wp2_with fail
  with_reducible refine (hPW.out _).mono ?_
  rintro e w3 ⟨rfl, rfl⟩
  go_upto_region 7 with fail
  by_cases hm0 : m = 0
  · have dm : ((m : Int) != 0) = false := by simp; omega
    by_cases hnc : n < CQ
    · have dn : decide ((n : Int) < (CQ : Int)) = true := decide_eq_true (by omega)
      refine wp_region_quiet (C := fun V => Below w2.heap.size w2 V) (by kernel_rfl) (by kernel_rfl) (Below.refl _ _).drew ?_
      dsimp only
      repeat (first | go_big_quiet_step (fail) | (refine wpQuiet_step (fun K hK => ?_); go_simp; refine ⟨_, fun _ _ => rfl, hK _ ?_⟩; clear hK K))
      refine BigFrame.wpQuiet_want rfl (fun K hK => ⟨.int .i64 (n : Int), fun V hV => ?_, hK _ ?_⟩)
      · obtain ⟨p0, p1, p2, p3, p4, p5, p6, p7, p8⟩ := HSAT.out V hV
        go_simp
      clear hK K
      repeat (first | go_big_quiet_step (fail) | (refine wpQuiet_step (fun K hK => ?_); go_simp; refine ⟨_, fun _ _ => rfl, hK _ ?_⟩; clear hK K))
      refine BigFrame.wpQuiet_want rfl (fun K hK => ⟨.int .i64 (n : Int), fun V hV => ?_, hK _ ?_⟩)
      · obtain ⟨p0, p1, p2, p3, p4, p5, p6, p7, p8⟩ := HSAT.out V hV
        go_simp
      clear hK K
      repeat (first | go_big_quiet_step (fail) | (refine wpQuiet_step (fun K hK => ?_); go_simp; refine ⟨_, fun _ _ => rfl, hK _ ?_⟩; clear hK K))
      refine BigFrame.wpQuiet_want rfl (fun K hK => ⟨.agg #[.int .i64 (size : Int), .int .i64 (b : Int), .int .i64 (N : Int), .int .i64 (L : Int), .int .i64 (Q : Int)], fun V hV => ?_, hK _ ?_⟩)
      · obtain ⟨p0, p1, p2, p3, p4, p5, p6, p7, p8⟩ := HSAT.out V hV
        go_simp
      clear hK K
      repeat (first | go_big_quiet_step (fail) | (refine wpQuiet_step (fun K hK => ?_); go_simp; refine ⟨_, fun _ _ => rfl, hK _ ?_⟩; clear hK K))
      refine BigFrame.wpQuiet_want rfl (fun K hK => ⟨.int .i64 (CQ : Int), fun V hV => ?_, hK _ ?_⟩)
      · go_simp
        refine (HSR.out V).mono ?_
        rintro e w' ⟨rfl, hb⟩
        exact ⟨rfl, hV.trans (hb.mono hV.size)⟩
      clear hK K
      repeat (first | go_big_quiet_step (fail) | (refine wpQuiet_step (fun K hK => ?_); go_simp; refine ⟨_, fun _ _ => rfl, hK _ ?_⟩; clear hK K))
      refine wpQuiet_nil ?_
      intro w3 hb3
      have HB3 := lhd (HB2.out.trans (Below.mono hb3 HB2.out.size))
      clear hb3
      go_wp2
      go_ret
      exact ⟨by rw [HE.out, if_pos (.inr hnc)]; rfl, HB3.out⟩
    · have dn : decide ((n : Int) < (CQ : Int)) = false := decide_eq_false (by omega)
      refine wp_region_quiet (C := fun V => Below w2.heap.size w2 V) (by kernel_rfl) (by kernel_rfl) (Below.refl _ _).drew ?_
      dsimp only
      repeat (first | go_big_quiet_step (fail) | (refine wpQuiet_step (fun K hK => ?_); go_simp; refine ⟨_, fun _ _ => rfl, hK _ ?_⟩; clear hK K))
      refine BigFrame.wpQuiet_want rfl (fun K hK => ⟨.int .i64 (n : Int), fun V hV => ?_, hK _ ?_⟩)
      · obtain ⟨p0, p1, p2, p3, p4, p5, p6, p7, p8⟩ := HSAT.out V hV
        go_simp
      clear hK K
      repeat (first | go_big_quiet_step (fail) | (refine wpQuiet_step (fun K hK => ?_); go_simp; refine ⟨_, fun _ _ => rfl, hK _ ?_⟩; clear hK K))
      refine BigFrame.wpQuiet_want rfl (fun K hK => ⟨.int .i64 (n : Int), fun V hV => ?_, hK _ ?_⟩)
      · obtain ⟨p0, p1, p2, p3, p4, p5, p6, p7, p8⟩ := HSAT.out V hV
        go_simp
      clear hK K
      repeat (first | go_big_quiet_step (fail) | (refine wpQuiet_step (fun K hK => ?_); go_simp; refine ⟨_, fun _ _ => rfl, hK _ ?_⟩; clear hK K))
      refine BigFrame.wpQuiet_want rfl (fun K hK => ⟨.agg #[.int .i64 (size : Int), .int .i64 (b : Int), .int .i64 (N : Int), .int .i64 (L : Int), .int .i64 (Q : Int)], fun V hV => ?_, hK _ ?_⟩)
      · obtain ⟨p0, p1, p2, p3, p4, p5, p6, p7, p8⟩ := HSAT.out V hV
        go_simp
      clear hK K
      repeat (first | go_big_quiet_step (fail) | (refine wpQuiet_step (fun K hK => ?_); go_simp; refine ⟨_, fun _ _ => rfl, hK _ ?_⟩; clear hK K))
      refine BigFrame.wpQuiet_want rfl (fun K hK => ⟨.int .i64 (CQ : Int), fun V hV => ?_, hK _ ?_⟩)
      · go_simp
        refine (HSR.out V).mono ?_
        rintro e w' ⟨rfl, hb⟩
        exact ⟨rfl, hV.trans (hb.mono hV.size)⟩
      clear hK K
      repeat (first | go_big_quiet_step (fail) | (refine wpQuiet_step (fun K hK => ?_); go_simp; refine ⟨_, fun _ _ => rfl, hK _ ?_⟩; clear hK K))
      refine wpQuiet_nil ?_
      intro w3 hb3
      have HB3 := lhd (HB2.out.trans (Below.mono hb3 HB2.out.size))
      have HS3 : Hid (∀ V, Below w3.heap.size w3 V → V.cell? ⟨w.heap.size, 1, none⟩ = some (.int .i64 (g : Int)) ∧ V.cell? ⟨w.heap.size, 2, none⟩ = some (.int .i64 (n : Int)) ∧ V.cell? ⟨w1.heap.size, 0, none⟩ = some (.int .i64 (size : Int)) ∧ V.cell? ⟨w1.heap.size, 1, none⟩ = some (.int .i64 (b : Int)) ∧ V.cell? ⟨w1.heap.size, 2, none⟩ = some (.int .i64 (N : Int)) ∧ V.cell? ⟨w1.heap.size, 3, none⟩ = some (.int .i64 (L : Int)) ∧ V.cell? ⟨w1.heap.size, 4, none⟩ = some (.int .i64 (Q : Int)) ∧ True ∧ True) := lhd fun V hV => HSAT.out V (Below.trans hb3 (hV.mono (Below.size hb3)))
      have c1 := (HS3.out w3 (Below.refl _ _)).1
      clear hb3
      rcases hRT with ⟨hg0, hr1⟩ | ⟨j, hgj, hrj⟩
      · have dg : decide (1 < (g : Int)) = false := decide_eq_false (by have := HG.out; omega)
        have hxz : (2 : Int) * (z : Int) = (x : Int) := by rw [← hxi, hr1]; omega
        have ww2 : IntKind.i64.wrap 2 = 2 := rfl
        have wwz : IntKind.i64.wrap (z : Int) = (z : Int) := IntWalk.i64_in _ (by omega)
        have wwx : IntKind.i64.wrap (x : Int) = (x : Int) := IntWalk.i64_in _ (by omega)
        have wwy : IntKind.i64.wrap (y : Int) = (y : Int) := IntWalk.i64_in _ (by omega)
        by_cases hbig : 4096 < y
        · have db : decide (4096 < (y : Int)) = true := decide_eq_true (by omega)
          go_upto_region 12 with fail
          refine wp_region_quiet (C := fun V => Below w3.heap.size w3 V) (by kernel_rfl) (by kernel_rfl) (Below.refl _ _).drew ?_
          dsimp only
          repeat (first | go_big_quiet_step (fail) | (refine wpQuiet_step (fun K hK => ?_); go_simp; refine ⟨_, fun _ _ => rfl, hK _ ?_⟩; clear hK K))
          refine BigFrame.wpQuiet_want rfl (fun K hK => ⟨.int .i64 (n : Int), fun V hV => ?_, hK _ ?_⟩)
          · obtain ⟨p0, p1, p2, p3, p4, p5, p6, p7, p8⟩ := HS3.out V hV
            go_simp
          clear hK K
          repeat (first | go_big_quiet_step (fail) | (refine wpQuiet_step (fun K hK => ?_); go_simp; refine ⟨_, fun _ _ => rfl, hK _ ?_⟩; clear hK K))
          refine BigFrame.wpQuiet_want rfl (fun K hK => ⟨.int .i64 (N : Int), fun V hV => ?_, hK _ ?_⟩)
          · obtain ⟨p0, p1, p2, p3, p4, p5, p6, p7, p8⟩ := HS3.out V hV
            go_simp
          clear hK K
          repeat (first | go_big_quiet_step (fail) | (refine wpQuiet_step (fun K hK => ?_); go_simp; refine ⟨_, fun _ _ => rfl, hK _ ?_⟩; clear hK K))
          refine wpQuiet_nil ?_
          intro w4 hb4
          have HB4 := lhd (HB3.out.trans (Below.mono hb4 HB3.out.size))
          clear hb4
          go_wp2
          go_ret
          exact ⟨by rw [HE.out, if_neg (by omega), if_pos hbig]; rfl, HB4.out⟩
        · have db : decide (4096 < (y : Int)) = false := decide_eq_false (by omega)
          go_upto_region 12 with fail
          refine wp_region_quiet (C := fun V => Below w3.heap.size w3 V) (by kernel_rfl) (by kernel_rfl) (Below.refl _ _).drew ?_
          dsimp only
          repeat (first | go_big_quiet_step (fail) | (refine wpQuiet_step (fun K hK => ?_); go_simp; refine ⟨_, fun _ _ => rfl, hK _ ?_⟩; clear hK K))
          refine BigFrame.wpQuiet_want rfl (fun K hK => ⟨.int .i64 (n : Int), fun V hV => ?_, hK _ ?_⟩)
          · obtain ⟨p0, p1, p2, p3, p4, p5, p6, p7, p8⟩ := HS3.out V hV
            go_simp
          clear hK K
          repeat (first | go_big_quiet_step (fail) | (refine wpQuiet_step (fun K hK => ?_); go_simp; refine ⟨_, fun _ _ => rfl, hK _ ?_⟩; clear hK K))
          refine BigFrame.wpQuiet_want rfl (fun K hK => ⟨.int .i64 (N : Int), fun V hV => ?_, hK _ ?_⟩)
          · obtain ⟨p0, p1, p2, p3, p4, p5, p6, p7, p8⟩ := HS3.out V hV
            go_simp
          clear hK K
          repeat (first | go_big_quiet_step (fail) | (refine wpQuiet_step (fun K hK => ?_); go_simp; refine ⟨_, fun _ _ => rfl, hK _ ?_⟩; clear hK K))
          refine wpQuiet_nil ?_
          intro w4 hb4
          have HB4 := lhd (HB3.out.trans (Below.mono hb4 HB3.out.size))
          clear hb4
          go_wp2
          go_ret
          exact ⟨by rw [HE.out, if_neg (by omega), if_neg hbig]; rfl, HB4.out⟩
      · have dg : decide (1 < (g : Int)) = true := decide_eq_true (by have := HG.out; omega)
        have e2 : (g : Int) - 2 = (j : Int) := by have := HG.out; omega
        have HPJ : Hid (∀ V : World, Calls Tryz.prog 24 #[.int .i64 (j : Int)] V fun e w' => e = .returned (.int .i64 (R : Int)) ∧ V = w') := lhd fun V => by
          have := yAh (w := V) j (by have := HG.out; omega)
          rwa [← hrj] at this
        clear hrj
        have ww2 : IntKind.i64.wrap (2 * (R : Int)) = 2 * (R : Int) := IntWalk.i64_in _ (by omega)
        have wwz : IntKind.i64.wrap (z : Int) = (z : Int) := IntWalk.i64_in _ (by omega)
        have wwx : IntKind.i64.wrap (x : Int) = (x : Int) := IntWalk.i64_in _ (by omega)
        have wwy : IntKind.i64.wrap (y : Int) = (y : Int) := IntWalk.i64_in _ (by omega)
        go_wp2_with fail
        with_reducible refine (HPJ.out _).mono ?_
        rintro e w4 ⟨rfl, rfl⟩
        by_cases hbig : 4096 < y
        · have db : decide (4096 < (y : Int)) = true := decide_eq_true (by omega)
          go_upto_region 12 with fail
          refine wp_region_quiet (C := fun V => Below w3.heap.size w3 V) (by kernel_rfl) (by kernel_rfl) (Below.refl _ _).drew ?_
          dsimp only
          repeat (first | go_big_quiet_step (fail) | (refine wpQuiet_step (fun K hK => ?_); go_simp; refine ⟨_, fun _ _ => rfl, hK _ ?_⟩; clear hK K))
          refine BigFrame.wpQuiet_want rfl (fun K hK => ⟨.int .i64 (n : Int), fun V hV => ?_, hK _ ?_⟩)
          · obtain ⟨p0, p1, p2, p3, p4, p5, p6, p7, p8⟩ := HS3.out V hV
            go_simp
          clear hK K
          repeat (first | go_big_quiet_step (fail) | (refine wpQuiet_step (fun K hK => ?_); go_simp; refine ⟨_, fun _ _ => rfl, hK _ ?_⟩; clear hK K))
          refine BigFrame.wpQuiet_want rfl (fun K hK => ⟨.int .i64 (N : Int), fun V hV => ?_, hK _ ?_⟩)
          · obtain ⟨p0, p1, p2, p3, p4, p5, p6, p7, p8⟩ := HS3.out V hV
            go_simp
          clear hK K
          repeat (first | go_big_quiet_step (fail) | (refine wpQuiet_step (fun K hK => ?_); go_simp; refine ⟨_, fun _ _ => rfl, hK _ ?_⟩; clear hK K))
          refine wpQuiet_nil ?_
          intro w4 hb4
          have HB4 := lhd (HB3.out.trans (Below.mono hb4 HB3.out.size))
          clear hb4
          go_wp2
          go_ret
          exact ⟨by rw [HE.out, if_neg (by omega), if_pos hbig]; rfl, HB4.out⟩
        · have db : decide (4096 < (y : Int)) = false := decide_eq_false (by omega)
          go_upto_region 12 with fail
          refine wp_region_quiet (C := fun V => Below w3.heap.size w3 V) (by kernel_rfl) (by kernel_rfl) (Below.refl _ _).drew ?_
          dsimp only
          repeat (first | go_big_quiet_step (fail) | (refine wpQuiet_step (fun K hK => ?_); go_simp; refine ⟨_, fun _ _ => rfl, hK _ ?_⟩; clear hK K))
          refine BigFrame.wpQuiet_want rfl (fun K hK => ⟨.int .i64 (n : Int), fun V hV => ?_, hK _ ?_⟩)
          · obtain ⟨p0, p1, p2, p3, p4, p5, p6, p7, p8⟩ := HS3.out V hV
            go_simp
          clear hK K
          repeat (first | go_big_quiet_step (fail) | (refine wpQuiet_step (fun K hK => ?_); go_simp; refine ⟨_, fun _ _ => rfl, hK _ ?_⟩; clear hK K))
          refine BigFrame.wpQuiet_want rfl (fun K hK => ⟨.int .i64 (N : Int), fun V hV => ?_, hK _ ?_⟩)
          · obtain ⟨p0, p1, p2, p3, p4, p5, p6, p7, p8⟩ := HS3.out V hV
            go_simp
          clear hK K
          repeat (first | go_big_quiet_step (fail) | (refine wpQuiet_step (fun K hK => ?_); go_simp; refine ⟨_, fun _ _ => rfl, hK _ ?_⟩; clear hK K))
          refine wpQuiet_nil ?_
          intro w4 hb4
          have HB4 := lhd (HB3.out.trans (Below.mono hb4 HB3.out.size))
          clear hb4
          go_wp2
          go_ret
          exact ⟨by rw [HE.out, if_neg (by omega), if_neg hbig]; rfl, HB4.out⟩
  · have dm : ((m : Int) != 0) = true := by simp; omega
    refine wp_region_quiet (C := fun V => Below w2.heap.size w2 V) (by kernel_rfl) (by kernel_rfl) (Below.refl _ _).drew ?_
    dsimp only
    repeat (first | go_big_quiet_step (fail) | (refine wpQuiet_step (fun K hK => ?_); go_simp; refine ⟨_, fun _ _ => rfl, hK _ ?_⟩; clear hK K))
    refine BigFrame.wpQuiet_want rfl (fun K hK => ⟨.int .i64 (n : Int), fun V hV => ?_, hK _ ?_⟩)
    · obtain ⟨p0, p1, p2, p3, p4, p5, p6, p7, p8⟩ := HSAT.out V hV
      go_simp
    clear hK K
    repeat (first | go_big_quiet_step (fail) | (refine wpQuiet_step (fun K hK => ?_); go_simp; refine ⟨_, fun _ _ => rfl, hK _ ?_⟩; clear hK K))
    refine wpQuiet_nil ?_
    intro w3 hb3
    have HB3 := lhd (HB2.out.trans (Below.mono hb3 HB2.out.size))
    clear hb3
    go_wp2
    go_ret
    exact ⟨by rw [HE.out, if_pos (.inl hm0)]; rfl, HB3.out⟩
theorem yAl {w : World} (c : Cfg) (hc : CfgI c) (size : Int) (hs : I64 size) : Calls Tryz.prog 11 #[cfgV c, .int .i64 size] w fun e w' => e = .returned (.int .i64 (snN c size)) ∧ Below w.heap.size w w' := by
  by_cases hR : CfgR c
  · by_cases hO : OutOf size c.b c.k
    · have hE : planE size c.b c.k = 1 := if_pos hO
      have hN : snN c size = 1 := by unfold snN; rw [if_neg (not_not_intro hR), hE, if_pos (by decide)]
      rw [hN]
      exact yAe c hc size 1 hR (by decide) fun V => yAu size c.b c.k hO
    · have hO2 := hO
      unfold OutOf at hO2
      obtain ⟨ses, g, n, b, k, base, burst, every, rfl⟩ := hR.nat (by omega) (by omega)
      simp only at hO hO2
      obtain ⟨s, rfl⟩ := Int.eq_ofNat_of_zero_le (show 0 ≤ size by omega)
      by_cases h16 : 16 < upN k (symT s b)
      · have hE : planE (s : Int) (b : Int) (k : Int) = 3 := by
          unfold planE
          rw [if_neg hO]
          exact if_pos h16
        have hN : snN ⟨ses, g, n, b, k, base, burst, every⟩ (s : Int) = 3 := by unfold snN; rw [if_neg (not_not_intro hR), hE, if_pos (by decide)]
        rw [hN]
        refine yAe _ hc (s : Int) 3 hR (by decide) fun V => (yAt s b k (by have := hs.2; omega) (by omega) (by omega) (by omega) (by omega)).mono ?_
        rintro e w' (⟨-, h⟩ | ⟨h, -⟩)
        · exact h
        · omega
      · have hE : planE (s : Int) (b : Int) (k : Int) = 0 := by
          unfold planE
          rw [if_neg hO]
          exact if_neg h16
        have hN : snN ⟨ses, g, n, b, k, base, burst, every⟩ (s : Int) = lastE g n (plN s b k) (plL s b k) (plQ s b k) := by unfold snN; rw [if_neg (not_not_intro hR), hE, if_neg (by decide)]; rfl
        rw [hN]
        have hpl : PlanOf s b k (plN s b k) (plL s b k) (plQ s b k) := ⟨by omega, by omega, by omega, by omega, rfl, rfl, rfl⟩
        refine yAj ses g n b k base burst every s _ _ _ hR hc (hpl.ok (by unfold plN; omega)) fun V => (yAt s b k (by have := hs.2; omega) (by omega) (by omega) (by omega) (by omega)).mono ?_
        rintro e w' (⟨h, -⟩ | ⟨-, h⟩)
        · omega
        · exact h
  · have hN : snN c size = 1 := by unfold snN; rw [if_pos hR]
    rw [hN]
    exact yAs c hc size hR
end

section
open Go.RowKit Go.Extern.Stop Go.Stop Go.Extern
theorem checks19 {At : SndAt} (hA : SnRep At) {w : World} (c : Cfg) (size : Int) (hc : CfgI c) (hs : I64 size) (hg : Laid w) (hD : DgTab w) (hT : Tab w) :
    Calls Tryz.prog 3 #[cfgV c, .int .i64 size] w fun e w' => e = .returned (.bool true) ∧ Below w.heap.size w w' := by
  obtain ⟨w0, hw0, hb0, hx0⟩ := zAM w c
  have HW0 := lhd hw0
  have HB0 := lhd hb0
  have HX := lhd hx0
  have HCK : Hid (∀ V : World, Calls Tryz.prog 10 #[.agg (cfgC c), .int .i64 size] V fun e w' => ∃ E, e = .returned E ∧ ErrAns (snN c size) nameSnCheck w' E ∧ Below V.heap.size V w') := lhd fun V => hA.check V c size hc hs
  have HRC : Hid (∀ V : World, Calls Tryz.prog 11 #[.agg (cfgC c), .int .i64 size] V fun e w' => e = .returned (.int .i64 (snN c size)) ∧ Below V.heap.size V w') := lhd fun V => yAl c hc size hs
  have HG : Hid (∀ V, Below w0.heap.size w0 V → Laid V) := lhd fun V hV => hg.mono (hb0.trans (hV.mono hb0.size))
  have HAW : Hid (∀ V, Below w0.heap.size w0 V → Calls Tryz.prog 12 #[] V fun e w' => e = .returned (.bool true) ∧ Below V.heap.size V w') := lhd fun V hV => zMX hA (PairsAt.mono hD (hb0.trans (hV.mono hb0.size))) (hT.mono (hb0.trans (hV.mono hb0.size)))
  unfold cfgV cfgC
  clear hA hw0 hb0 hx0 hg hD hT hc hs
  go_enter Tryz.func3, Tryz.ntmps3
  go_upto_region 1 with fail
  rw [← HW0.out]
  have HBD : Below w0.heap.size w0 w0.drew := (Below.refl _ _).drew
  refine wp_region_held_drew (S := fun V => Below w0.heap.size w0 V) (by kernel_rfl) HBD (fun _ => ?_)
  (refine wpAnyH_take (i := 1) (v := ?_) rfl (by kernel_rfl) (by kernel_rfl) (by kernel_rfl) (fun _ _ _ h => h) (Or.inl ⟨by rfl, ?_⟩) HBD ?_; rotate_left; (focus (intro V hV; go_simp; first | done | with_reducible rfl)); (try simp only [nrz, Act.put]); refine wpAnyH_take (i := 4) (v := ?_) rfl (by kernel_rfl) (by kernel_rfl) (by kernel_rfl) (fun _ _ _ h => h) (Or.inl ⟨by rfl, ?_⟩) HBD ?_; rotate_left; (focus (intro V hV; go_simp; first | done | with_reducible rfl)); (try simp only [nrz, Act.put]); refine wpAnyH_take (i := 0) (v := .agg (cfgC c)) rfl (by kernel_rfl) (by kernel_rfl) (by kernel_rfl) (fun _ _ _ h => h) (Or.inl ⟨by rfl, ?_⟩) HBD ?_; (focus (intro V hV; exact zEZ 23 (.tmp 2) (by rfl) w.heap.size (by rfl) 23 (0, 0) _ (HX.out.mono hV) Tryz.underlying23 rfl (by kernel_rfl))); (try simp only [nrz, Act.put]); refine wpAnyH_take (i := 3) (v := .agg (cfgC c)) rfl (by kernel_rfl) (by kernel_rfl) (by kernel_rfl) (fun _ _ _ h => h) (Or.inl ⟨by rfl, ?_⟩) HBD ?_; (focus (intro V hV; exact zEZ 23 (.tmp 2) (by rfl) w.heap.size (by rfl) 23 (0, 0) _ (HX.out.mono hV) Tryz.underlying23 rfl (by kernel_rfl))); (try simp only [nrz, Act.put]); refine wpAnyH_ready (rs := [2]) (by kernel_rfl) (by simp) ?_; refine AllReadyH.cons rfl (fun K hK => ?_) (AllReadyH.nil); go_simp; go_at_call 10; (with_reducible refine (HCK.out _).mono ?_); rintro e w2 ⟨E, rfl, he, hb2⟩; have HB2 : Below w0.heap.size w0 w2 := Below.trans HBD (hb2.mono (Below.size HBD)); have HE2 := lhd he; clear he hb2; refine Shut.out hK _ _ HB2 (fun _ => ?_); clear hK K; (try simp only [nrz, Act.put]); refine wpAnyH_ready (rs := [5]) (by kernel_rfl) (by simp) ?_; refine AllReadyH.cons rfl (fun K hK => ?_) (AllReadyH.nil); go_simp; go_at_call 11; (with_reducible refine (HRC.out _).mono ?_); rintro e w3 ⟨rfl, hb3⟩; have HB3 : Below w0.heap.size w0 w3 := Below.trans HB2 (hb3.mono (Below.size HB2)); have HTL := lhd (zCW _ _ _ (HE2.out.mono hb3) (HG.out _ HB3)); clear hb3; refine Shut.out hK _ _ HB3 (fun _ => ?_); clear hK K; (try simp only [nrz, Act.put]); refine wpAnyH_ready (rs := [6]) (by kernel_rfl) (by simp) ?_; refine AllReadyH.cons rfl (fun K hK => ?_) (AllReadyH.nil); go_simp; go_at_call 9; (refine HTL.out.mono ?_); rintro e w4 ⟨rfl, hb4⟩; have HB4 : Below w0.heap.size w0 w4 := Below.trans HB3 (hb4.mono (Below.size HB3)); clear hb4; refine Shut.out hK _ _ HB4 (fun _ => ?_); clear hK K; (try simp only [nrz, Act.put]); refine wpAnyH_take (i := 7) (v := ?_) rfl (by kernel_rfl) (by kernel_rfl) (by kernel_rfl) (fun _ _ _ h => h) (Or.inl ⟨by rfl, ?_⟩) HB4 ?_; rotate_left; (focus (intro V hV; go_simp; first | done | with_reducible rfl)); (try simp only [nrz, Act.put]); refine wpAnyH_ready (rs := [8]) (by kernel_rfl) (by simp) ?_; refine AllReadyH.cons rfl (fun K hK => ?_) (AllReadyH.nil); go_simp; go_at_call 12; (with_reducible refine (HAW.out _ HB4).mono ?_); rintro e w5 ⟨rfl, hb5⟩; have HB5 : Below w0.heap.size w0 w5 := Below.trans HB4 (hb5.mono (Below.size HB4)); clear hb5; refine Shut.out hK _ _ HB5 (fun _ => ?_); clear hK K; (try simp only [nrz, Act.put]); refine wpAnyH_take (i := 9) (v := ?_) rfl (by kernel_rfl) (by kernel_rfl) (by kernel_rfl) (fun _ _ _ h => h) (Or.inl ⟨by rfl, ?_⟩) HB5 ?_; rotate_left; (focus (intro V hV; go_simp; first | done | with_reducible rfl)); (try simp only [nrz, Act.put]); refine wpAnyH_take (i := 10) (v := ?_) rfl (by kernel_rfl) (by kernel_rfl) (by kernel_rfl) (fun _ _ _ h => h) (Or.inl ⟨by rfl, ?_⟩) HB5 ?_; rotate_left; (focus (intro V hV; go_simp; first | done | with_reducible rfl)); (try simp only [nrz, Act.put]))
  all_goals refine wpAnyH_done (by kernel_rfl) ?_ _
  all_goals
    go_wp2
    go_ret
    exact ⟨rfl, HB0.out.trans (Below.mono HB5 HB0.out.size)⟩
end
end Go.Proofs.YtkfimdpcadbcpaaGreatDoor
