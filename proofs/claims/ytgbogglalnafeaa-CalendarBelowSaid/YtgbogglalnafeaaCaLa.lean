/- Package calendar: what is out of its range, bursts, intervals, steps. -/
import Derived.Test.YtgbogglalnafeaaCaR
namespace Go.Proofs.Ytgbogglalnafeaa
open Go.RowKit Go.Extern.Stop Go.Stop Go.Extern

def outB (n a b : Int) : Bool := decide (n < a ∨ b < n)
theorem outB_true {n a b : Int} (h : n < a ∨ b < n) : outB n a b = true := decide_eq_true h
theorem outB_false {n a b : Int} (h1 : a ≤ n) (h2 : n ≤ b) : outB n a b = false := decide_eq_false (by omega)

set_option linter.unusedSimpArgs false in
set_option linter.unusedVariables false in
set_option maxRecDepth 1000000 in
set_option maxHeartbeats 4000000 in
theorem caOut_any {w : World} (n a b : Int) : Calls Try.prog 17 #[.int .i64 n, .int .i64 a, .int .i64 b] w fun e w' => e = .returned (.bool (outB n a b)) ∧ w = w' := by
  by_cases h1 : n < a
  · have HM := Lib.hid (outB_true (b := b) (.inl h1))
    have d1 : decide (n < a) = true := decide_eq_true h1
    clear h1
    go_enter Try.func17, Try.ntmps17
    go_wp2
    go_ret
    exact ⟨by rw [HM.out]; rfl, rfl⟩
  have d1 : decide (n < a) = false := decide_eq_false h1
  by_cases h2 : b < n
  · have HM := Lib.hid (outB_true (a := a) (.inr h2))
    have d2 : decide (b < n) = true := decide_eq_true h2
    clear h1 h2
    go_enter Try.func17, Try.ntmps17
    go_wp2
    go_ret
    exact ⟨by rw [HM.out]; rfl, rfl⟩
  have d2 : decide (b < n) = false := decide_eq_false h2
  have HM := Lib.hid (outB_false (n := n) (a := a) (b := b) (by omega) (by omega))
  clear h1 h2
  go_enter Try.func17, Try.ntmps17
  go_wp2
  go_ret
  exact ⟨by rw [HM.out]; rfl, rfl⟩

set_option linter.unusedSimpArgs false in
set_option linter.unusedVariables false in
set_option maxRecDepth 1000000 in
set_option maxHeartbeats 4000000 in
theorem caNoBase_any {w : World} (b : Int) : Calls Try.prog 16 #[.int .i64 b] w fun e w' => e = .returned (.bool (outB b 2 4096)) ∧ w = w' := by
  have HO := Lib.hid (caOut_any (w := w) b 2 4096)
  generalize outB b 2 4096 = B at *
  go_enter Try.func16, Try.ntmps16
  go_wp2_with fail
  with_reducible refine HO.out.mono ?_
  rintro e w1 ⟨rfl, rfl⟩
  go_wp2
  go_ret
  exact ⟨rfl, rfl⟩

set_option linter.unusedSimpArgs false in
set_option linter.unusedVariables false in
set_option maxRecDepth 1000000 in
set_option maxHeartbeats 4000000 in
theorem caNoTick_any {w : World} (t : Int) : Calls Try.prog 11 #[.int .i64 t] w fun e w' => e = .returned (.bool (outB t 0 1099511627775)) ∧ w = w' := by
  have HO := Lib.hid (caOut_any (w := w) t 0 1099511627775)
  generalize outB t 0 1099511627775 = B at *
  go_enter Try.func11, Try.ntmps11
  go_wp2_with fail
  with_reducible refine HO.out.mono ?_
  rintro e w1 ⟨rfl, rfl⟩
  go_wp2
  go_ret
  exact ⟨rfl, rfl⟩

/-- Is there no such calendar? -/
def noCalB (b u : Int) : Bool := outB b 2 4096 || outB u 1 (b - 1)

set_option linter.unusedSimpArgs false in
set_option linter.unusedVariables false in
set_option maxRecDepth 1000000 in
set_option maxHeartbeats 4000000 in
theorem caNoCal_any {w : World} (b u : Int) : Calls Try.prog 10 #[.int .i64 b, .int .i64 u] w fun e w' => e = .returned (.bool (noCalB b u)) ∧ w = w' := by
  have HB := Lib.hid (caNoBase_any (w := w) b)
  by_cases h : 2 ≤ b ∧ b ≤ 4096
  · have hf := outB_false h.1 h.2
    rw [hf] at HB
    have HM : Hid (noCalB b u = outB u 1 (b - 1)) := Lib.hid (by unfold noCalB; rw [hf]; rfl)
    obtain ⟨h1, h2⟩ := h
    have HO := Lib.hid (caOut_any (w := w) u 1 (b - 1))
    generalize outB u 1 (b - 1) = B at *
    clear hf
    go_enter Try.func10, Try.ntmps10
    go_wp2_with fail
    with_reducible refine HB.out.mono ?_
    rintro e w1 ⟨rfl, rfl⟩
    go_wp2_with fail
    with_reducible refine HO.out.mono ?_
    rintro e w1 ⟨rfl, rfl⟩
    go_wp2
    go_ret
    exact ⟨by rw [HM.out]; rfl, rfl⟩
  · have hf := outB_true (n := b) (a := 2) (b := 4096) (by omega)
    rw [hf] at HB
    have HM : Hid (noCalB b u = true) := Lib.hid (by unfold noCalB; rw [hf]; rfl)
    clear hf h
    go_enter Try.func10, Try.ntmps10
    go_wp2_with fail
    with_reducible refine HB.out.mono ?_
    rintro e w1 ⟨rfl, rfl⟩
    go_wp2
    go_ret
    exact ⟨by rw [HM.out]; rfl, rfl⟩

theorem noCal_ok {b u t : Int} (h : CaOk b u t) : noCalB b u = false ∧ outB t 0 1099511627775 = false := by
  obtain ⟨h1, h2, h3, h4, h5, h6⟩ := h
  refine ⟨?_, outB_false (by omega) (by omega)⟩
  unfold noCalB
  rw [outB_false h1 h2, outB_false h3 (by omega)]
  rfl
theorem noCal_no {b u t : Int} (h : ¬ CaOk b u t) : noCalB b u = true ∨ (noCalB b u = false ∧ outB t 0 1099511627775 = true) := by
  by_cases h1 : 2 ≤ b ∧ b ≤ 4096 ∧ 1 ≤ u ∧ u < b
  · refine .inr ⟨?_, outB_true ?_⟩
    · unfold noCalB
      rw [outB_false h1.1 h1.2.1, outB_false h1.2.2.1 (by omega)]
      rfl
    · by_cases h0 : t < 0
      · exact .inl h0
      · refine .inr (Int.not_le.1 fun h2 => h ⟨h1.1, h1.2.1, h1.2.2.1, h1.2.2.2, by omega, by omega⟩)
  · refine .inl ?_
    unfold noCalB
    by_cases h2 : 2 ≤ b ∧ b ≤ 4096
    · rw [outB_false h2.1 h2.2, outB_true (n := u) (a := 1) (b := b - 1) (by omega)]; rfl
    · rw [outB_true (n := b) (a := 2) (b := 4096) (by omega)]; rfl

set_option linter.unusedSimpArgs false in
set_option linter.unusedVariables false in
set_option maxRecDepth 1000000 in
set_option maxHeartbeats 4000000 in
theorem caBursting_any {w : World} (b u t : Nat) (hb : 2 ≤ b) (hb2 : b ≤ 4096) (hu : u < b) (ht : t < 1099511627777) : Calls Try.prog 14 #[.int .i64 (b : Int), .int .i64 (u : Int), .int .i64 (t : Int)] w fun e w' => e = .returned (.bool (burstB b u t)) ∧ w = w' := by
  have hnz : ((b : Int) == 0) = false := by simp; omega
  have hnz2 : ¬ (b : Int) = 0 := by omega
  have hnz3 : ¬ b = 0 := by omega
  have hm : (t : Int).tmod (b : Int) = ((t % b : Nat) : Int) := Int.ofNat_tmod ..
  have hs : (b : Int) - (u : Int) = ((b - u : Nat) : Int) := by omega
  have hsw : IntKind.i64.wrap ((b - u : Nat) : Int) = ((b - u : Nat) : Int) := IntWalk.i64_in _ (by omega)
  have hd : decide (((b - u : Nat) : Int) ≤ ((t % b : Nat) : Int)) = burstB b u t := by unfold burstB; exact decide_eq_decide.2 (by omega)
  have hd2 : decide (b - u ≤ t % b) = burstB b u t := rfl
  have hdb : b - u ≤ 4096 := by omega
  generalize burstB b u t = B at *
  generalize t % b = r at *
  generalize b - u = q at *
  go_enter Try.func14, Try.ntmps14
  go_wp2
  go_ret
  exact ⟨rfl, rfl⟩

set_option linter.unusedSimpArgs false in
set_option linter.unusedVariables false in
set_option maxRecDepth 1000000 in
set_option maxHeartbeats 4000000 in
theorem caInterval_any {w : World} (b l : Nat) (hb2 : b ≤ 4096) (hl : l ≤ 8) : Calls Try.prog 18 #[.int .i64 (b : Int), .int .i64 (l : Int)] w fun e w' => e = .returned (.int .i64 ((b * 2 ^ l : Nat) : Int)) ∧ w = w' := by
  have hp : (2 : Nat) ^ l ≤ 2 ^ 8 := Nat.pow_le_pow_right (by decide) hl
  have hL : (2 : Int) ^ l = ((2 ^ l : Nat) : Int) := by push_cast; rfl
  have hE : (b : Int) * ((2 ^ l : Nat) : Int) = ((b * 2 ^ l : Nat) : Int) := by push_cast; rfl
  have hEb : b * 2 ^ l ≤ 1048576 := Nat.mul_le_mul hb2 hp
  generalize b * 2 ^ l = E at *
  generalize 2 ^ l = P at *
  go_enter Try.func18, Try.ntmps18
  go_wp2
  go_ret
  exact ⟨rfl, rfl⟩

theorem stepsZ_ahead (b u t : Nat) : stepsZ b u t = t + t / b * u + (t % b - (b - u)) := by
  have e := Nat.div_add_mod t b
  unfold stepsZ cntZ
  rw [Nat.mul_add, Nat.mul_comm (t / b) b]
  omega
theorem stepsZ_le {b u t : Nat} (hb : 2 ≤ b) (hb2 : b ≤ 4096) (hu : u < b) (ht : t < 1099511627777) : stepsZ b u t ≤ 9007199254841000 := by
  unfold stepsZ
  have h1 : t / b ≤ 1099511627776 := Nat.le_trans (Nat.div_le_self t b) (by omega)
  have h2 : t / b * (b + u) ≤ 9007199254740992 := Nat.le_trans (Nat.mul_le_mul h1 (show b + u ≤ 8192 by omega)) (by decide)
  have h3 := cntZ_le (b := b) (u := u) (r := t % b) (Nat.le_of_lt (Nat.mod_lt _ (by omega))) (by omega)
  omega

set_option linter.unusedSimpArgs false in
set_option linter.unusedVariables false in
set_option maxRecDepth 1000000 in
set_option maxHeartbeats 4000000 in
theorem caAhead_any {w : World} (b u t : Nat) (hb : 2 ≤ b) (hb2 : b ≤ 4096) (hu : u < b) (ht : t < 1099511627777) : Calls Try.prog 13 #[.int .i64 (b : Int), .int .i64 (u : Int), .int .i64 (t : Int)] w fun e w' => e = .returned (.int .i64 ((stepsZ b u t : Nat) : Int)) ∧ w = w' := by
  have hnz : ((b : Int) == 0) = false := by simp; omega
  have hnz2 : ¬ (b : Int) = 0 := by omega
  have hnz3 : ¬ b = 0 := by omega
  have hm : (t : Int).tmod (b : Int) = ((t % b : Nat) : Int) := Int.ofNat_tmod ..
  have hdv : (t : Int).tdiv (b : Int) = ((t / b : Nat) : Int) := Int.ofNat_tdiv ..
  have hr : t % b < b := Nat.mod_lt _ (by omega)
  have hdb : t / b ≤ 1099511627776 := Nat.le_trans (Nat.div_le_self t b) (by omega)
  have hQm : ((t / b : Nat) : Int) * (u : Int) = ((t / b * u : Nat) : Int) := by push_cast; rfl
  have hQb : t / b * u ≤ 4503599627370496 := Nat.le_trans (Nat.mul_le_mul hdb (show u ≤ 4096 by omega)) (by decide)
  have HZ := Lib.hid (stepsZ_ahead b u t)
  have hZb := stepsZ_le hb hb2 hu ht
  generalize stepsZ b u t = Z at *
  generalize t / b * u = Q at *
  generalize t / b = d at *
  generalize t % b = r at *
  by_cases hc : b - u ≤ r
  · have HM : Hid ((Z : Int) = (t : Int) + (Q : Int) + ((r : Int) - ((b : Int) - (u : Int)))) := Lib.hid (by have := HZ.out; omega)
    have hc2 : (0 : Int) ≤ (r : Int) - ((b : Int) - (u : Int)) := by omega
    have hc3 : (r : Int) - ((b : Int) - (u : Int)) ≤ 4096 := by omega
    clear HZ
    go_enter Try.func13, Try.ntmps13
    go_wp2
    go_ret
    exact ⟨by rw [HM.out]; rfl, rfl⟩
  · have HM : Hid ((Z : Int) = (t : Int) + (Q : Int)) := Lib.hid (by have := HZ.out; omega)
    have hc2 : (r : Int) - ((b : Int) - (u : Int)) < 0 := by omega
    have hc3 : -4096 ≤ (r : Int) - ((b : Int) - (u : Int)) := by omega
    clear HZ
    go_enter Try.func13, Try.ntmps13
    go_wp2
    go_ret
    exact ⟨by rw [HM.out]; rfl, rfl⟩
end Go.Proofs.Ytgbogglalnafeaa
