/- The document's functions of layer 17: Power, May, Reverse. -/
import Derived.Test.YtlhpkfonffijfaaDoorStMath
import Derived.Test.YtlhpkfonffijfaaDoorPkHas
import Derived.Test.YtlhpkfonffijfaaDoorOwn
import Derived.BigQuiet
import Derived.Deep.Cut
namespace Go.Proofs.YtlhpkfonffijfaaDoor
open Go.RowKit Go.Extern.Stop Go.Stop Go.Extern

theorem st_pow_le {j n : Nat} (h : j ≤ n) : 2 ^ j ≤ 2 ^ n := Nat.pow_le_pow_right (by decide) h

set_option maxRecDepth 1000000 in
set_option maxHeartbeats 4000000 in
theorem stPower_any {w : World} (k : Nat) (hk : k ≤ 31) : Calls Tryd.prog 8 #[.int .i64 (k : Int)] w fun e w' => e = .returned (.int .i64 ((2 ^ k : Nat) : Int)) ∧ w = w' := by
  go_enter Tryd.func8, Tryd.ntmps8
  go_wp2_with fail
  go_loopw [3, 4] (fun n i wr => ∃ j : Nat, j ≤ k ∧ i = .int .i64 (j : Int) ∧ n = .int .i64 ((2 ^ j : Nat) : Int) ∧ w = wr) (fun _ i _ => k - (intOf i).toNat)
  case atStart => exact ⟨0, by omega, rfl, rfl, rfl⟩
  case round =>
    obtain ⟨j, hj, rfl, rfl, rfl⟩ := hrel
    by_cases hlt : j < k
    · have d1 : decide ((j : Int) < (k : Int)) = true := decide_eq_true (by omega)
      have hle : 2 ^ j ≤ 2 ^ 30 := st_pow_le (by omega)
      have HS : Hid (2 ^ (j + 1) = 2 ^ j * 2) := Lib.hid (Nat.pow_succ 2 j)
      generalize 2 ^ j = x at *
      go_wp2
      go_roundw
      case rel => exact ⟨j + 1, hlt, by go_num, by rw [HS.out]; go_num, trivial⟩
      case measure => simp [intOf]; omega
    · obtain rfl : j = k := by omega
      have d1 : decide ((j : Int) < (j : Int)) = false := decide_eq_false (by omega)
      go_wp2
      go_ret
      exact ⟨rfl, rfl⟩

/-- May there be such a layer? -/
def mayB (g l : Int) : Bool := decide (1 ≤ g ∧ g ≤ 8 ∧ 0 ≤ l ∧ l < g)

theorem revN_step {b i v : Nat} (hi : i < b) : revN (i + 1) v * 2 ^ (b - (i + 1)) = revN i v * 2 ^ (b - i) + (if v.testBit i then 2 ^ (b - 1 - i) else 0) := by
  have e : b - i = b - (i + 1) + 1 := by omega
  have e2 : b - 1 - i = b - (i + 1) := by omega
  rw [revN_last, e, e2, Nat.pow_succ, Nat.add_mul, Nat.testBit_eq_decide_div_mod_eq]
  have h2 : v / 2 ^ i % 2 < 2 := Nat.mod_lt _ (by decide)
  have e3 : 2 * revN i v * 2 ^ (b - (i + 1)) = revN i v * (2 ^ (b - (i + 1)) * 2) := by
    rw [Nat.mul_comm 2, Nat.mul_assoc, Nat.mul_comm 2]
  rw [e3]
  congr 1
  generalize 2 ^ (b - (i + 1)) = P
  by_cases h : v / 2 ^ i % 2 = 1
  · simp [h]
  · have h0 : v / 2 ^ i % 2 = 0 := by omega
    simp [h0]
theorem revN_bound (b i v : Nat) (hi : i ≤ b) (hb : b ≤ 16) : revN i v * 2 ^ (b - i) < 65536 := by
  have h1 := revN_lt i v
  have h2 : revN i v * 2 ^ (b - i) < 2 ^ i * 2 ^ (b - i) := Nat.mul_lt_mul_of_pos_right h1 (Nat.two_pow_pos _)
  rw [← Nat.pow_add, show i + (b - i) = b by omega] at h2
  have h3 : 2 ^ b ≤ 2 ^ 16 := st_pow_le hb
  omega

set_option maxRecDepth 1000000 in
set_option maxHeartbeats 4000000 in
theorem stRev_any {w : World} (v b : Nat) (hb : b ≤ 16) (hv : v < 9223372036854775808) : Calls Tryd.prog 11 #[.int .i64 (v : Int), .int .i64 (b : Int)] w fun e w' => e = .returned (.int .i64 ((revN b v : Nat) : Int)) ∧ w = w' := by
  go_enter Tryd.func11, Tryd.ntmps11
  go_wp2_with fail
  go_loopw [5, 6] (fun n i wr => ∃ j : Nat, j ≤ b ∧ i = .int .i64 (j : Int) ∧ n = .int .i64 ((revN j v * 2 ^ (b - j) : Nat) : Int) ∧ w = wr) (fun _ i _ => b - (intOf i).toNat)
  case atStart => exact ⟨0, by omega, rfl, by simp [revN], rfl⟩
  case round =>
    obtain ⟨j, hj, rfl, rfl, rfl⟩ := hrel
    by_cases hlt : j < b
    · have d1 : decide ((j : Int) < (b : Int)) = true := decide_eq_true (by omega)
      have HB := Lib.hid (Bit_any (w := w) v j (by omega))
      have HS := Lib.hid (revN_step (v := v) hlt)
      have hB := revN_bound b j v (by omega) hb
      have hB2 := revN_bound b (j + 1) v (by omega) hb
      rw [HS.out] at hB2
      have HP := Lib.hid (stPower_any (w := w) (b - 1 - j) (by omega))
      have he : ((b : Int) - 1 - (j : Int)) = ((b - 1 - j : Nat) : Int) := by omega
      generalize revN j v * 2 ^ (b - j) = x at *
      generalize v.testBit j = t at *
      generalize b - 1 - j = q at *
      generalize 2 ^ q = P at *
      cases t
      · have HS2 : Hid (revN (j + 1) v * 2 ^ (b - (j + 1)) = x) := Lib.hid (by simpa using HS.out)
        clear HS hB2
        go_wp2_with fail
        refine HB.out.mono ?_
        rintro e w1 ⟨rfl, rfl⟩
        go_wp2_with fail
        go_roundw
        case rel => exact ⟨j + 1, hlt, by go_num, by rw [HS2.out], trivial⟩
        case measure => simp [intOf]; omega
      · have HS2 : Hid (revN (j + 1) v * 2 ^ (b - (j + 1)) = x + P) := Lib.hid (by simpa using HS.out)
        have hB3 : x + P < 65536 := by simpa using hB2
        clear HS hB2
        go_wp2_with fail
        refine HB.out.mono ?_
        rintro e w1 ⟨rfl, rfl⟩
        go_wp2_with fail
        refine HP.out.mono ?_
        rintro e w1 ⟨rfl, rfl⟩
        go_wp2
        go_roundw
        case rel => exact ⟨j + 1, hlt, by go_num, by rw [HS2.out]; go_num, trivial⟩
        case measure => simp [intOf]; omega
    · obtain rfl : j = b := by omega
      have d1 : decide ((j : Int) < (j : Int)) = false := decide_eq_false (by omega)
      go_wp2
      go_ret
      exact ⟨by simp, rfl⟩
end Go.Proofs.YtlhpkfonffijfaaDoor
