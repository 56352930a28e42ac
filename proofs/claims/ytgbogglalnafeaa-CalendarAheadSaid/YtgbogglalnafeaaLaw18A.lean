/- The eighteenth layer's laws CalendarAhead, CalendarBelow (plain seat). -/
import Derived.Test.YtgbogglalnafeaaLaw18
namespace Go.Proofs.Ytgbogglalnafeaa
open Go.RowKit Go.Extern.Stop Go.Stop Go.Extern

theorem ca_mod (n : Int) (k : Nat) (hk : 0 < k) : ∃ a : Nat, (IntKind.u64.wrap n).tmod (k : Int) = (a : Int) ∧ a < k := by
  have h0 : 0 ≤ IntKind.u64.wrap n := by rw [IntKind.wrap_u64]; omega
  have h1 := Int.tmod_lt_of_pos (IntKind.u64.wrap n) (b := (k : Int)) (by omega)
  have h2 := Int.tmod_nonneg (k : Int) h0
  exact ⟨((IntKind.u64.wrap n).tmod (k : Int)).toNat, by omega, by omega⟩

set_option linter.unusedSimpArgs false in
set_option linter.unusedVariables false in
set_option maxRecDepth 1000000 in
set_option maxHeartbeats 8000000 in
theorem ahead18 (hR : CaRowC) (hS : CaSyncC) (hB : CaBurstC) {w : World} (b u t : Int) (ib : I64 b) (iu : I64 u) (it : I64 t) :
    Calls Try.prog 4 #[.int .i64 b, .int .i64 u, .int .i64 t] w fun e w' => e = .returned (.bool true) ∧ Below w.heap.size w w' := by
  obtain ⟨a, ha0, ha⟩ := ca_mod b 100 (by decide)
  have ha' : (IntKind.u64.wrap b).tmod 100 = (a : Int) := ha0
  obtain ⟨c, hc0, hc⟩ := ca_mod u (1 + a) (by omega)
  obtain ⟨r, hr0, hr⟩ := ca_mod t 1000000 (by decide)
  have hr' : (IntKind.u64.wrap t).tmod 1000000 = (r : Int) := hr0
  obtain ⟨B, hB'⟩ : ∃ B, B = 2 + a := ⟨_, rfl⟩
  obtain ⟨H, hH⟩ : ∃ H, H = 1 + a := ⟨_, rfl⟩
  obtain ⟨U, hU⟩ : ∃ U, U = 1 + c := ⟨_, rfl⟩
  rw [← hH] at hc0 hc
  have e1 : IntKind.i64.wrap (a : Int) = (a : Int) := IntWalk.i64_in _ (by omega)
  have e2 : (2 : Int) + (a : Int) = (B : Int) := by omega
  have e3 : IntKind.i64.wrap (B : Int) = (B : Int) := IntWalk.i64_in _ (by omega)
  have e4 : (B : Int) - 1 = (H : Int) := by omega
  have e5 : IntKind.i64.wrap (H : Int) = (H : Int) := IntWalk.i64_in _ (by omega)
  have e6 : IntKind.u64.wrap (H : Int) = (H : Int) := by rw [IntKind.wrap_u64]; omega
  have e7 : IntKind.i64.wrap (c : Int) = (c : Int) := IntWalk.i64_in _ (by omega)
  have e8 : (1 : Int) + (c : Int) = (U : Int) := by omega
  have e9 : IntKind.i64.wrap (U : Int) = (U : Int) := IntWalk.i64_in _ (by omega)
  have e10 : IntKind.i64.wrap (r : Int) = (r : Int) := IntWalk.i64_in _ (by omega)
  have hnz : ((H : Int) == 0) = false := by simp; omega
  have hnz2 : ¬ (H : Int) = 0 := by omega
  have hnz3 : ¬ H = 0 := by omega
  have b1 : B ≤ 101 := by omega
  have b2 : H ≤ 100 := by omega
  have b3 : U ≤ 101 := by omega
  have b4 : a ≤ 100 := by omega
  have b5 : c ≤ 100 := by omega
  have b6 : r ≤ 1000000 := by omega
  have HUB : Hid (1 ≤ U ∧ U < B ∧ 2 ≤ B) := Lib.hid (by omega)
  obtain ⟨T, hT⟩ : ∃ T, T = r * B := ⟨_, rfl⟩
  have hTb : T ≤ 101000000 := by rw [hT]; exact Nat.le_trans (Nat.mul_le_mul b6 b1) (by decide)
  have t1 : (r : Int) * (B : Int) = (T : Int) := by rw [hT]; push_cast; rfl
  obtain ⟨R1, hR1⟩ : ∃ R1, R1 = r + 1 := ⟨_, rfl⟩
  have r1 : (r : Int) + 1 = (R1 : Int) := by omega
  have r2 : IntKind.i64.wrap (R1 : Int) = (R1 : Int) := IntWalk.i64_in _ (by omega)
  have r3 : R1 ≤ 1000001 := by omega
  obtain ⟨T1, hT1⟩ : ∃ T1, T1 = R1 * B := ⟨_, rfl⟩
  have hT1b : T1 ≤ 101000101 := by rw [hT1]; exact Nat.le_trans (Nat.mul_le_mul r3 b1) (by decide)
  have t2 : (R1 : Int) * (B : Int) = (T1 : Int) := by rw [hT1]; push_cast; rfl
  obtain ⟨D, hD⟩ : ∃ D, D = B - U := ⟨_, rfl⟩
  have d0 : (B : Int) - (U : Int) = (D : Int) := by omega
  have d0w : IntKind.i64.wrap (D : Int) = (D : Int) := IntWalk.i64_in _ (by omega)
  have d0b : D ≤ 101 := by omega
  have HBC : Hid (∀ (i : Nat), i < B → ∀ V : World, Calls Try.prog 8 #[.int .i64 (B : Int), .int .i64 (U : Int), .int .i64 ((T + i : Nat) : Int)] V fun e w' => e = .returned (.tuple #[.bool (decide (D ≤ i)), .nilIface]) ∧ Below V.heap.size V w') := Lib.hid fun i hi V => by
    refine (hB V (B : Int) (U : Int) ((T + i : Nat) : Int) ⟨by omega, by omega⟩ ⟨by omega, by omega⟩ ⟨by omega, by omega⟩).mono ?_
    rintro e w' ⟨hb', ⟨h, -⟩ | ⟨-, rfl⟩⟩
    · exact absurd ⟨by omega, by omega, by omega, by omega, by omega, by omega⟩ h
    · refine ⟨?_, hb'⟩
      simp only [Int.toNat_natCast]
      rw [hT, burst_at hi, hD]
  have HSC : Hid (∀ V : World, Calls Try.prog 9 #[.int .i64 (B : Int), .int .i64 8, .int .i64 (T1 : Int)] V fun e w' => ∃ z : Int, 0 ≤ z ∧ e = .returned (.tuple #[.int .i64 z, .nilIface]) ∧ Below V.heap.size V w') := Lib.hid fun V => by
    refine (hS V (B : Int) 8 (T1 : Int) ⟨by omega, by omega⟩ ⟨by omega, by omega⟩ ⟨by omega, by omega⟩).mono ?_
    rintro e w' ⟨hb', ⟨h, -⟩ | ⟨-, rfl⟩⟩
    · exact absurd ⟨⟨by omega, by omega, by omega, by omega, by omega, by omega⟩, by decide, by decide⟩ h
    · refine ⟨_, ?_, rfl, hb'⟩
      simp only [Int.toNat_natCast]
      exact syncZ_nonneg (b := B) (t := T1) (by rw [hT1]; exact Nat.mul_pos (by omega) (by omega)) (by rw [hT1, Nat.mul_mod_left]) 7
  have HAW : Hid (∀ V : World, Calls Try.prog 7 #[] V fun e w' => e = .returned (.bool true) ∧ Below V.heap.size V w') := Lib.hid fun V => awake18 hR hS
  clear hR hS hB ha0 hr0 hB' hH hU hT hR1 hT1 hD ha hc hr
  go_enter Try.func4, Try.ntmps4
  go_wp2_with fail
  go_loopw [7] (fun i wr => ∃ j : Nat, j ≤ B ∧ i = .int .i64 (j : Int) ∧ Below w.heap.size w wr) (fun i _ => B - (intOf i).toNat)
  case atStart => exact ⟨0, Nat.zero_le _, rfl, Below.refl _ _⟩
  case round =>
    obtain ⟨j, hj, rfl, hbel⟩ := hrel
    have HBL := Lib.hid hbel
    clear hbel
    by_cases hlt : j < B
    · have d1 : decide ((j : Int) < (B : Int)) = true := decide_eq_true (by omega)
      have HB1 := Lib.hid (HBC.out j hlt)
      obtain ⟨y, hy⟩ : ∃ y, y = T + j := ⟨_, rfl⟩
      rw [← hy] at HB1
      have y1 : (T : Int) + (j : Int) = (y : Int) := by omega
      have y2 : IntKind.i64.wrap (y : Int) = (y : Int) := IntWalk.i64_in _ (by omega)
      have y3 : y ≤ 200000000 := by omega
      clear hy
      by_cases hd : D ≤ j
      · rw [decide_eq_true hd] at HB1
        have d2 : decide ((D : Int) ≤ (j : Int)) = true := decide_eq_true (by omega)
        go_wp2_with fail
        with_reducible refine (HB1.out _).mono ?_
        rintro e w1 ⟨rfl, hb1⟩
        have HB2 := Lib.hid (HBL.out.trans (hb1.mono HBL.out.size))
        clear hb1
        go_wp2_with fail
        go_roundw
        case rel => exact ⟨j + 1, hlt, by go_num, HB2.out⟩
        case measure => simp [intOf]; omega
      · rw [decide_eq_false hd] at HB1
        have d2 : decide ((D : Int) ≤ (j : Int)) = false := decide_eq_false (by omega)
        go_wp2_with fail
        with_reducible refine (HB1.out _).mono ?_
        rintro e w1 ⟨rfl, hb1⟩
        have HB2 := Lib.hid (HBL.out.trans (hb1.mono HBL.out.size))
        clear hb1
        go_wp2_with fail
        go_roundw
        case rel => exact ⟨j + 1, hlt, by go_num, HB2.out⟩
        case measure => simp [intOf]; omega
    · obtain rfl : j = B := by omega
      have d1 : decide ((j : Int) < (j : Int)) = false := decide_eq_false (by omega)
      go_wp2_with fail
      with_reducible refine (HSC.out _).mono ?_
      rintro e w1 ⟨z, hz, rfl, hb1⟩
      have HB2 := Lib.hid (HBL.out.trans (hb1.mono HBL.out.size))
      have dz : decide (0 ≤ z) = true := decide_eq_true hz
      clear hb1
      go_wp2_with fail
      refine (HAW.out _).mono ?_
      rintro e w9 ⟨rfl, hb9⟩
      have HB9 := Lib.hid (HB2.out.trans (hb9.mono HB2.out.size))
      clear hb9
      go_wp2
      go_ret
      exact ⟨rfl, HB9.out⟩

set_option linter.unusedSimpArgs false in
set_option linter.unusedVariables false in
set_option maxRecDepth 1000000 in
set_option maxHeartbeats 8000000 in
theorem below18 (hR : CaRowC) (hS : CaSyncC) {w : World} (b l t : Int) (ib : I64 b) (il : I64 l) (it : I64 t) :
    Calls Try.prog 5 #[.int .i64 b, .int .i64 l, .int .i64 t] w fun e w' => e = .returned (.bool true) ∧ Below w.heap.size w w' := by
  obtain ⟨a, ha0, ha⟩ := ca_mod b 4095 (by decide)
  have ha' : (IntKind.u64.wrap b).tmod 4095 = (a : Int) := ha0
  obtain ⟨v, hv0, hv⟩ := ca_mod l 8 (by decide)
  have hv' : (IntKind.u64.wrap l).tmod 8 = (v : Int) := hv0
  obtain ⟨c, hc0, hc⟩ := ca_mod t 1000000 (by decide)
  have hc' : (IntKind.u64.wrap t).tmod 1000000 = (c : Int) := hc0
  obtain ⟨B, hB'⟩ : ∃ B, B = 2 + a := ⟨_, rfl⟩
  obtain ⟨X, hX⟩ : ∃ X, X = 1 + c := ⟨_, rfl⟩
  have e1 : IntKind.i64.wrap (a : Int) = (a : Int) := IntWalk.i64_in _ (by omega)
  have e2 : (2 : Int) + (a : Int) = (B : Int) := by omega
  have e3 : IntKind.i64.wrap (B : Int) = (B : Int) := IntWalk.i64_in _ (by omega)
  have e4 : IntKind.i64.wrap (v : Int) = (v : Int) := IntWalk.i64_in _ (by omega)
  have e7 : IntKind.i64.wrap (c : Int) = (c : Int) := IntWalk.i64_in _ (by omega)
  have e8 : (1 : Int) + (c : Int) = (X : Int) := by omega
  have e9 : IntKind.i64.wrap (X : Int) = (X : Int) := IntWalk.i64_in _ (by omega)
  have b1 : B ≤ 4096 := by omega
  have b2 : v ≤ 7 := by omega
  have b3 : X ≤ 1000000 := by omega
  have b4 : a ≤ 4095 := by omega
  have b5 : c ≤ 1000000 := by omega
  obtain ⟨V1, hV1⟩ : ∃ V1, V1 = v + 1 := ⟨_, rfl⟩
  have v1 : (v : Int) + 1 = (V1 : Int) := by omega
  have v2 : IntKind.i64.wrap (V1 : Int) = (V1 : Int) := IntWalk.i64_in _ (by omega)
  have v3 : V1 ≤ 8 := by omega
  have HV1 := Lib.hid hV1
  have HE : Hid (∀ j, B * 2 ^ (j + 1) = 2 * (B * 2 ^ j)) := Lib.hid fun j => by rw [Nat.pow_succ, ← Nat.mul_assoc, Nat.mul_comm]
  have HP : Hid (∀ j, j ≤ 7 → 2 ≤ B * 2 ^ j ∧ B * 2 ^ j ≤ 524288) := Lib.hid fun j hj => by
    have h1 : (2 : Nat) ^ j ≤ 2 ^ 7 := Nat.pow_le_pow_right (by decide) hj
    have h2 : 1 ≤ (2 : Nat) ^ j := Nat.two_pow_pos j
    exact ⟨by have := Nat.mul_le_mul (show 2 ≤ B by omega) h2; omega, by have := Nat.mul_le_mul b1 h1; omega⟩
  have HE0 : Hid (B * 2 ^ 0 = B) := Lib.hid (by simp)
  obtain ⟨E, hE⟩ : ∃ E, E = B * 2 ^ v := ⟨_, rfl⟩
  obtain ⟨T, hT⟩ : ∃ T, T = E * X := ⟨_, rfl⟩
  have hEb : E ≤ 524288 := by rw [hE]; exact (HP.out v (by omega)).2
  have hTb : T ≤ 524288000000 := by rw [hT]; exact Nat.le_trans (Nat.mul_le_mul hEb b3) (by decide)
  have t1 : (E : Int) * (X : Int) = (T : Int) := by rw [hT]; push_cast; rfl
  have HSC : Hid (∀ (k : Nat), 1 ≤ k → k ≤ V1 → ∀ V : World, Calls Try.prog 9 #[.int .i64 (B : Int), .int .i64 (k : Int), .int .i64 (T : Int)] V fun e w' => e = .returned (.tuple #[.int .i64 ((k : Int) - 1), .nilIface]) ∧ Below V.heap.size V w') := Lib.hid fun k h1 h2 V => by
    refine (hS V (B : Int) (k : Int) (T : Int) ⟨by omega, by omega⟩ ⟨by omega, by omega⟩ ⟨by omega, by omega⟩).mono ?_
    rintro e w' ⟨hb', ⟨h, -⟩ | ⟨-, rfl⟩⟩
    · exact absurd ⟨⟨by omega, by omega, by omega, by omega, by omega, by omega⟩, by omega, by omega⟩ h
    · refine ⟨?_, hb'⟩
      simp only [Int.toNat_natCast]
      obtain ⟨j, rfl⟩ : ∃ j, k = j + 1 := ⟨k - 1, by omega⟩
      rw [hT, hE, sync_below (by omega) (by omega) (by omega)]
      congr 3
      have : ((j + 1 : Nat) : Int) - 1 = (j : Int) := by omega
      rw [this]
  have HAW : Hid (∀ V : World, Calls Try.prog 7 #[] V fun e w' => e = .returned (.bool true) ∧ Below V.heap.size V w') := Lib.hid fun V => awake18 hR hS
  have HEE := Lib.hid hE
  clear hR hS ha0 hv0 hc0 hB' hX hV1 hE hT ha hv hc
  go_enter Try.func5, Try.ntmps5
  go_wp2_with fail
  go_loopw [7, 8] (fun e i wr => ∃ j : Nat, j ≤ v ∧ i = .int .i64 (j : Int) ∧ e = .int .i64 ((B * 2 ^ j : Nat) : Int) ∧ w = wr) (fun _ i _ => v - (intOf i).toNat)
  case atStart => exact ⟨0, Nat.zero_le _, rfl, by rw [HE0.out], rfl⟩
  case round =>
    obtain ⟨j, hj, rfl, rfl, rfl⟩ := hrel
    obtain ⟨p1, p2⟩ := HP.out j (by omega)
    by_cases hlt : j < v
    · have d1 : decide ((j : Int) < (v : Int)) = true := decide_eq_true (by omega)
      have HE1 := Lib.hid (HE.out j)
      generalize B * 2 ^ j = E' at *
      go_wp2_with fail
      go_roundw
      case rel => exact ⟨j + 1, hlt, by go_num, by rw [HE1.out]; go_num, trivial⟩
      case measure => simp [intOf]; omega
    · obtain rfl : j = v := by omega
      have d1 : decide ((j : Int) < (j : Int)) = false := decide_eq_false (by omega)
      rw [← HEE.out] at p1 p2 ⊢
      go_wp2_with fail
      go_loopw [9] (fun i wr => ∃ k : Nat, 1 ≤ k ∧ k ≤ V1 + 1 ∧ i = .int .i64 (k : Int) ∧ Below w.heap.size w wr) (fun i _ => V1 + 1 - (intOf i).toNat)
      case atStart => exact ⟨1, by omega, by omega, rfl, Below.refl _ _⟩
      case round =>
        obtain ⟨k, hk1, hk, rfl, hbel⟩ := hrel
        have HBL := Lib.hid hbel
        clear hbel
        by_cases hkl : k ≤ V1
        · have d2 : decide ((k : Int) ≤ (V1 : Int)) = true := decide_eq_true (by omega)
          have HS1 := Lib.hid (HSC.out k hk1 hkl)
          have kw : IntKind.i64.wrap ((k : Int) - 1) = (k : Int) - 1 := IntWalk.i64_in _ (by omega)
          obtain ⟨z, hz⟩ : ∃ z : Int, z = (k : Int) - 1 := ⟨_, rfl⟩
          have kz : (k : Int) - 1 = z := hz.symm
          rw [kz] at HS1 kw
          have dz : (z != z) = false := by simp
          clear hz
          go_wp2_with fail
          with_reducible refine (HS1.out _).mono ?_
          rintro e w1 ⟨rfl, hb1⟩
          have HB2 := Lib.hid (HBL.out.trans (hb1.mono HBL.out.size))
          clear hb1
          go_wp2_with fail
          go_roundw
          case rel => exact ⟨k + 1, by omega, by omega, by go_num, HB2.out⟩
          case measure => simp [intOf]; omega
        · obtain rfl : k = V1 + 1 := by omega
          have d2 : decide (((V1 + 1 : Nat) : Int) ≤ (V1 : Int)) = false := decide_eq_false (by omega)
          have d2' : ¬ V1 + 1 ≤ V1 := by omega
          go_wp2_with fail
          refine (HAW.out _).mono ?_
          rintro e w9 ⟨rfl, hb9⟩
          have HB9 := Lib.hid (HBL.out.trans (hb9.mono HBL.out.size))
          clear hb9
          go_wp2
          go_ret
          exact ⟨rfl, HB9.out⟩
end Go.Proofs.Ytgbogglalnafeaa
