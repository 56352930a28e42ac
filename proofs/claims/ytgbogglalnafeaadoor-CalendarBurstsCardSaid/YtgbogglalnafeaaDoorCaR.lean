/- The document's functions of layer 18: Check, Burst, Sync, Next, Steps, Row, Same. (Made by genca.py.) -/
import Derived.Test.YtgbogglalnafeaaDoorCaMath
import Derived.Test.YtgbogglalnafeaaDoorLists
import Derived.OwnWalk
import Derived.WalkSpells
import Derived.WalkLawsBesides
import Derived.Deep.LoopGhost
import Derived.BigQuiet
namespace Go.Proofs.YtgbogglalnafeaaDoor
open Go.RowKit Go.Extern.Stop Go.Stop Go.Extern

set_option linter.unusedSimpArgs false in
set_option linter.unusedVariables false in
set_option maxRecDepth 1000000 in
set_option maxHeartbeats 4000000 in
theorem caCheck_any {w : World} (b u t : Int) (ib : I64 b) (iu : I64 u) (it : I64 t) : Calls Tryd.prog 8 #[.int .i64 b, .int .i64 u, .int .i64 t] w fun e w' => e = .returned (.int .i64 (caN b u t)) ∧ w = w' := by
  have HZ : Hid (CaOk b u t → caN b u t = 0) := Lib.hid fun h => caN_zero.2 h
  have HO : Hid (¬ CaOk b u t → caN b u t = 1) := Lib.hid caN_one
  by_cases c0 : b < 2
  · have d0 : decide (b < 2) = true := decide_eq_true c0
    have HN := Lib.hid (HO.out (by rintro ⟨h1, h2, h3, h4, h5, h6⟩; omega))
    clear c0
    go_enter Tryd.func8, Tryd.ntmps8
    go_wp2
    go_ret
    exact ⟨by rw [HN.out]; rfl, rfl⟩
  · have d0 : decide (b < 2) = false := decide_eq_false c0
    by_cases c1 : 4096 < b
    · have d1 : decide (4096 < b) = true := decide_eq_true c1
      have HN := Lib.hid (HO.out (by rintro ⟨h1, h2, h3, h4, h5, h6⟩; omega))
      clear c0 c1
      go_enter Tryd.func8, Tryd.ntmps8
      go_wp2
      go_ret
      exact ⟨by rw [HN.out]; rfl, rfl⟩
    · have d1 : decide (4096 < b) = false := decide_eq_false c1
      by_cases c2 : u < 1
      · have d2 : decide (u < 1) = true := decide_eq_true c2
        have HN := Lib.hid (HO.out (by rintro ⟨h1, h2, h3, h4, h5, h6⟩; omega))
        clear c0 c1 c2
        go_enter Tryd.func8, Tryd.ntmps8
        go_wp2
        go_ret
        exact ⟨by rw [HN.out]; rfl, rfl⟩
      · have d2 : decide (u < 1) = false := decide_eq_false c2
        by_cases c3 : b ≤ u
        · have d3 : decide (b ≤ u) = true := decide_eq_true c3
          have HN := Lib.hid (HO.out (by rintro ⟨h1, h2, h3, h4, h5, h6⟩; omega))
          clear c0 c1 c2 c3
          go_enter Tryd.func8, Tryd.ntmps8
          go_wp2
          go_ret
          exact ⟨by rw [HN.out]; rfl, rfl⟩
        · have d3 : decide (b ≤ u) = false := decide_eq_false c3
          by_cases c4 : t < 0
          · have d4 : decide (t < 0) = true := decide_eq_true c4
            have HN := Lib.hid (HO.out (by rintro ⟨h1, h2, h3, h4, h5, h6⟩; omega))
            clear c0 c1 c2 c3 c4
            go_enter Tryd.func8, Tryd.ntmps8
            go_wp2
            go_ret
            exact ⟨by rw [HN.out]; rfl, rfl⟩
          · have d4 : decide (t < 0) = false := decide_eq_false c4
            by_cases c5 : 1099511627776 ≤ t
            · have d5 : decide (1099511627776 ≤ t) = true := decide_eq_true c5
              have HN := Lib.hid (HO.out (by rintro ⟨h1, h2, h3, h4, h5, h6⟩; omega))
              clear c0 c1 c2 c3 c4 c5
              go_enter Tryd.func8, Tryd.ntmps8
              go_wp2
              go_ret
              exact ⟨by rw [HN.out]; rfl, rfl⟩
            · have d5 : decide (1099511627776 ≤ t) = false := decide_eq_false c5
              have HN := Lib.hid (HZ.out ⟨by omega, by omega, by omega, by omega, by omega, by omega⟩)
              clear c0 c1 c2 c3 c4 c5
              go_enter Tryd.func8, Tryd.ntmps8
              go_wp2
              go_ret
              exact ⟨by rw [HN.out]; rfl, rfl⟩

set_option linter.unusedSimpArgs false in
set_option linter.unusedVariables false in
set_option maxRecDepth 1000000 in
set_option maxHeartbeats 4000000 in
theorem caBurst_any {w : World} (b u t : Nat) (hb : 2 ≤ b) (hb2 : b ≤ 4096) (hu : u < b) (ht : t < 1099511627777) : Calls Tryd.prog 12 #[.int .i64 (b : Int), .int .i64 (u : Int), .int .i64 (t : Int)] w fun e w' => e = .returned (.bool (burstB b u t)) ∧ w = w' := by
  have hnz : ((b : Int) == 0) = false := by simp; omega
  have hnz2 : ¬ (b : Int) = 0 := by omega
  have hnz3 : ¬ b = 0 := by omega
  have hm : (t : Int).tmod (b : Int) = ((t % b : Nat) : Int) := Int.ofNat_tmod ..
  have hs : (b : Int) - (u : Int) = ((b - u : Nat) : Int) := by omega
  have hsw : IntKind.i64.wrap ((b - u : Nat) : Int) = ((b - u : Nat) : Int) := IntWalk.i64_in _ (by omega)
  have hd : decide (((b - u : Nat) : Int) ≤ ((t % b : Nat) : Int)) = burstB b u t := by unfold burstB; exact decide_eq_decide.2 (by omega)
  have hd2 : decide (b - u ≤ t % b) = burstB b u t := rfl
  have hdb : b - u ≤ 4096 := by omega
  generalize burstB b u t = B at *
  generalize t % b = r at *
  generalize b - u = q at *
  go_enter Tryd.func12, Tryd.ntmps12
  go_wp2
  go_ret
  exact ⟨rfl, rfl⟩

set_option linter.unusedSimpArgs false in
set_option linter.unusedVariables false in
set_option maxRecDepth 1000000 in
set_option maxHeartbeats 4000000 in
theorem caSync_any {w : World} (b g t : Nat) (hb : 2 ≤ b) (hb2 : b ≤ 4096) (hg : g ≤ 8) (ht : t < 2199023255552) : Calls Tryd.prog 14 #[.int .i64 (b : Int), .int .i64 (g : Int), .int .i64 (t : Int)] w fun e w' => e = .returned (.int .i64 (syncZ b t g)) ∧ w = w' := by
  have HS0 : Hid (syncZ b t 0 = -1) := Lib.hid rfl
  have HE : Hid (∀ j, b * 2 ^ (j + 1) = 2 * (b * 2 ^ j)) := Lib.hid fun j => by rw [Nat.pow_succ, ← Nat.mul_assoc, Nat.mul_comm]
  have HP : Hid (∀ j, j ≤ 8 → 2 ≤ b * 2 ^ j ∧ b * 2 ^ j ≤ 1048576) := Lib.hid fun j hj => by
    have h1 : (2 : Nat) ^ j ≤ 2 ^ 8 := Nat.pow_le_pow_right (by decide) hj
    have h2 : 1 ≤ (2 : Nat) ^ j := Nat.two_pow_pos j
    exact ⟨by have := Nat.mul_le_mul hb h2; omega, by have := Nat.mul_le_mul hb2 h1; omega⟩
  have HS1 : Hid (∀ j, 0 < t → t % (b * 2 ^ j) = 0 → syncZ b t (j + 1) = (j : Int)) := Lib.hid fun j h0 h => if_pos ⟨h0, h⟩
  have HS2 : Hid (∀ j, ¬ (0 < t ∧ t % (b * 2 ^ j) = 0) → syncZ b t (j + 1) = syncZ b t j) := Lib.hid fun j h => if_neg h
  have HE0 : Hid (b * 2 ^ 0 = b) := Lib.hid (by simp)
  go_enter Tryd.func14, Tryd.ntmps14
  go_wp2_with fail
  go_loopw [7, 8, 9] (fun n e i wr => ∃ j : Nat, j ≤ g ∧ i = .int .i64 (j : Int) ∧ e = .int .i64 ((b * 2 ^ j : Nat) : Int) ∧ n = .int .i64 (syncZ b t j) ∧ w = wr) (fun _ _ i _ => g - (intOf i).toNat)
  case atStart => exact ⟨0, Nat.zero_le _, rfl, by rw [HE0.out], by rw [HS0.out], rfl⟩
  case round =>
    obtain ⟨j, hj, rfl, rfl, rfl, rfl⟩ := hrel
    by_cases hlt : j < g
    · have d1 : decide ((j : Int) < (g : Int)) = true := decide_eq_true (by omega)
      obtain ⟨p1, p2⟩ := HP.out j (by omega)
      have HE1 := Lib.hid (HE.out j)
      have HA := Lib.hid (HS1.out j)
      have HB := Lib.hid (HS2.out j)
      generalize b * 2 ^ j = E at *
      have hnz : ((E : Int) == 0) = false := by simp; omega
      have hnz2 : ¬ (E : Int) = 0 := by omega
      have hnz3 : ¬ E = 0 := by omega
      have hm : (t : Int).tmod (E : Int) = ((t % E : Nat) : Int) := Int.ofNat_tmod ..
      by_cases h0 : 0 < t
      · have d2 : decide ((0 : Int) < (t : Int)) = true := decide_eq_true (by omega)
        by_cases h1 : t % E = 0
        · have d3 : (((t % E : Nat) : Int) == 0) = true := by simp [h1]
          have HN := Lib.hid (HA.out h0 h1)
          clear h1
          generalize t % E = r at *
          go_wp2_with fail
          go_roundw
          case rel => exact ⟨j + 1, hlt, by go_num, by rw [HE1.out]; go_num, by rw [HN.out], trivial⟩
          case measure => simp [intOf]; omega
        · have d3 : (((t % E : Nat) : Int) == 0) = false := by simp; omega
          have HN := Lib.hid (HB.out (fun h => h1 h.2))
          clear h1
          generalize t % E = r at *
          go_wp2_with fail
          go_roundw
          case rel => exact ⟨j + 1, hlt, by go_num, by rw [HE1.out]; go_num, by rw [HN.out], trivial⟩
          case measure => simp [intOf]; omega
      · have d2 : decide ((0 : Int) < (t : Int)) = false := decide_eq_false (by omega)
        have HN := Lib.hid (HB.out (fun h => h0 h.1))
        go_wp2_with fail
        go_roundw
        case rel => exact ⟨j + 1, hlt, by go_num, by rw [HE1.out]; go_num, by rw [HN.out], trivial⟩
        case measure => simp [intOf]; omega
    · obtain rfl : j = g := by omega
      have d1 : decide ((j : Int) < (j : Int)) = false := decide_eq_false (by omega)
      go_wp2
      go_ret
      exact ⟨rfl, rfl⟩

set_option linter.unusedSimpArgs false in
set_option linter.unusedVariables false in
set_option maxRecDepth 1000000 in
set_option maxHeartbeats 4000000 in
theorem caNext_any {w : World} (b l t : Nat) (hb : 2 ≤ b) (hb2 : b ≤ 4096) (hl : l ≤ 7) (ht : t < 1099511627776) : Calls Tryd.prog 16 #[.int .i64 (b : Int), .int .i64 (l : Int), .int .i64 (t : Int)] w fun e w' => e = .returned (.int .i64 ((nextZ b l t : Nat) : Int)) ∧ w = w' := by
  have HE : Hid (∀ j, b * 2 ^ (j + 1) = 2 * (b * 2 ^ j)) := Lib.hid fun j => by rw [Nat.pow_succ, ← Nat.mul_assoc, Nat.mul_comm]
  have HP : Hid (∀ j, j ≤ 8 → 2 ≤ b * 2 ^ j ∧ b * 2 ^ j ≤ 1048576) := Lib.hid fun j hj => by
    have h1 : (2 : Nat) ^ j ≤ 2 ^ 8 := Nat.pow_le_pow_right (by decide) hj
    have h2 : 1 ≤ (2 : Nat) ^ j := Nat.two_pow_pos j
    exact ⟨by have := Nat.mul_le_mul hb h2; omega, by have := Nat.mul_le_mul hb2 h1; omega⟩
  have HN : Hid (nextZ b l t = t + b * 2 ^ l - t % (b * 2 ^ l)) := Lib.hid rfl
  have HE0 : Hid (b * 2 ^ 0 = b) := Lib.hid (by simp)
  go_enter Tryd.func16, Tryd.ntmps16
  go_wp2_with fail
  go_loopw [7, 8] (fun e i wr => ∃ j : Nat, j ≤ l ∧ i = .int .i64 (j : Int) ∧ e = .int .i64 ((b * 2 ^ j : Nat) : Int) ∧ w = wr) (fun _ i _ => l - (intOf i).toNat)
  case atStart => exact ⟨0, Nat.zero_le _, rfl, by rw [HE0.out], rfl⟩
  case round =>
    obtain ⟨j, hj, rfl, rfl, rfl⟩ := hrel
    obtain ⟨p1, p2⟩ := HP.out j (by omega)
    by_cases hlt : j < l
    · have d1 : decide ((j : Int) < (l : Int)) = true := decide_eq_true (by omega)
      have HE1 := Lib.hid (HE.out j)
      generalize b * 2 ^ j = E at *
      go_wp2_with fail
      go_roundw
      case rel => exact ⟨j + 1, hlt, by go_num, by rw [HE1.out]; go_num, trivial⟩
      case measure => simp [intOf]; omega
    · obtain rfl : j = l := by omega
      have d1 : decide ((j : Int) < (j : Int)) = false := decide_eq_false (by omega)
      generalize b * 2 ^ j = E at *
      have hnz : ((E : Int) == 0) = false := by simp; omega
      have hnz2 : ¬ (E : Int) = 0 := by omega
      have hnz3 : ¬ E = 0 := by omega
      have hm : (t : Int).tmod (E : Int) = ((t % E : Nat) : Int) := Int.ofNat_tmod ..
      have hr := Nat.mod_lt t (show 0 < E by omega)
      have HZ : Hid (((nextZ b j t : Nat) : Int) = (t : Int) + (E : Int) - ((t % E : Nat) : Int)) := Lib.hid (by rw [HN.out]; omega)
      generalize t % E = r at *
      go_wp2
      go_ret
      exact ⟨by rw [HZ.out]; rfl, rfl⟩

set_option linter.unusedSimpArgs false in
set_option linter.unusedVariables false in
set_option maxRecDepth 1000000 in
set_option maxHeartbeats 4000000 in
theorem caSteps_any {w : World} (b u t : Nat) (hb : 2 ≤ b) (hb2 : b ≤ 4096) (hu : u < b) (ht : t < 1099511627777) : Calls Tryd.prog 19 #[.int .i64 (b : Int), .int .i64 (u : Int), .int .i64 (t : Int)] w fun e w' => e = .returned (.int .i64 ((stepsZ b u t : Nat) : Int)) ∧ w = w' := by
  have hnz : ((b : Int) == 0) = false := by simp; omega
  have hnz2 : ¬ (b : Int) = 0 := by omega
  have hnz3 : ¬ b = 0 := by omega
  have hm : (t : Int).tmod (b : Int) = ((t % b : Nat) : Int) := Int.ofNat_tmod ..
  have hdv : (t : Int).tdiv (b : Int) = ((t / b : Nat) : Int) := Int.ofNat_tdiv ..
  have hr : t % b < b := Nat.mod_lt _ (by omega)
  have hdb : t / b ≤ 1099511627776 := Nat.le_trans (Nat.div_le_self t b) (by omega)
  have HBU : Hid (∀ (V : World) (i : Nat), i < b → Calls Tryd.prog 12 #[.int .i64 (b : Int), .int .i64 (u : Int), .int .i64 (i : Int)] V fun e w' => e = .returned (.bool (decide (b - u ≤ i))) ∧ V = w') := Lib.hid fun V i hi => by
    have := caBurst_any (w := V) b u i hb hb2 hu (by omega)
    unfold burstB at this
    rwa [Nat.mod_eq_of_lt hi] at this
  have HC1 : Hid (∀ r, cntZ b u (r + 1) = cntZ b u r + 1 + (if b - u ≤ r then 1 else 0)) := Lib.hid (cntZ_one b u)
  have HCL : Hid (∀ r, r ≤ b → cntZ b u r ≤ 8192) := Lib.hid fun r h => by have := cntZ_le (b := b) (u := u) h (by omega); omega
  obtain ⟨Q, hQ⟩ : ∃ Q, Q = t / b * (b + u) := ⟨_, rfl⟩
  have hQb : Q ≤ 9007199254740992 := by rw [hQ]; exact Nat.le_trans (Nat.mul_le_mul hdb (show b + u ≤ 8192 by omega)) (by decide)
  have hQm : ((t / b : Nat) : Int) * (((b + u : Nat)) : Int) = (Q : Int) := by rw [hQ]; push_cast; rfl
  have hQm2 : ((t / b : Nat) : Int) * ((b : Int) + (u : Int)) = (Q : Int) := by rw [hQ]; push_cast; rfl
  have hbu : (b : Int) + (u : Int) = ((b + u : Nat) : Int) := by omega
  have HST : Hid (stepsZ b u t = Q + cntZ b u (t % b)) := Lib.hid (by rw [hQ]; rfl)
  have hbub : b + u ≤ 8192 := by omega
  obtain ⟨X, hX⟩ : ∃ X, X = b + u := ⟨_, rfl⟩
  rw [← hX] at hQm hbu hbub
  clear hQ hX hQm2
  generalize t / b = d at *
  generalize t % b = r at *
  go_enter Tryd.func19, Tryd.ntmps19
  go_wp2_with fail
  go_loopw [7, 8] (fun n i wr => ∃ j : Nat, j ≤ r ∧ i = .int .i64 (j : Int) ∧ n = .int .i64 ((Q + cntZ b u j : Nat) : Int) ∧ w = wr) (fun _ i _ => r - (intOf i).toNat)
  case atStart => exact ⟨0, Nat.zero_le _, rfl, by simp [cntZ], rfl⟩
  case round =>
    obtain ⟨j, hj, rfl, rfl, rfl⟩ := hrel
    by_cases hlt : j < r
    · have d1 : decide ((j : Int) < (r : Int)) = true := decide_eq_true (by omega)
      have HB1 := Lib.hid (HBU.out w j (by omega))
      have hcl := HCL.out j (by omega)
      have hc1 := HC1.out j
      generalize cntZ b u j = c at *
      obtain ⟨S, hS⟩ : ∃ S, S = Q + c := ⟨_, rfl⟩
      have hSb : S ≤ 9007199254841000 := by omega
      rw [← hS]
      by_cases hB : b - u ≤ j
      · rw [decide_eq_true hB] at HB1
        rw [if_pos hB] at hc1
        have HC2 : Hid (((Q + cntZ b u (j + 1) : Nat) : Int) = (S : Int) + 1 + 1) := Lib.hid (by omega)
        clear hc1 hB hS
        go_wp2_with fail
        refine HB1.out.mono ?_
        rintro e w1 ⟨rfl, rfl⟩
        go_wp2_with fail
        go_roundw
        case rel => exact ⟨j + 1, hlt, by go_num, by first | rw [HC2.out] | (have := HC2.out; exact congrArg (Value.int IntKind.i64) (by omega)), trivial⟩
        case measure => simp [intOf]; omega
      · rw [decide_eq_false hB] at HB1
        rw [if_neg hB] at hc1
        have HC2 : Hid (((Q + cntZ b u (j + 1) : Nat) : Int) = (S : Int) + 1) := Lib.hid (by omega)
        clear hc1 hB hS
        go_wp2_with fail
        refine HB1.out.mono ?_
        rintro e w1 ⟨rfl, rfl⟩
        go_wp2_with fail
        go_roundw
        case rel => exact ⟨j + 1, hlt, by go_num, by first | rw [HC2.out] | (have := HC2.out; exact congrArg (Value.int IntKind.i64) (by omega)), trivial⟩
        case measure => simp [intOf]; omega
    · obtain rfl : j = r := by omega
      have d1 : decide ((j : Int) < (j : Int)) = false := decide_eq_false (by omega)
      go_wp2
      go_ret
      exact ⟨by rw [HST.out]; rfl, rfl⟩
end Go.Proofs.YtgbogglalnafeaaDoor
