/- Package stripe: reversed, span. -/
import Derived.Test.YtlhpkfonffijfaaStR
namespace Go.Proofs.Ytlhpkfonffijfaa
open Go.RowKit Go.Extern.Stop Go.Stop Go.Extern

theorem bits_and_i64_nat (a b : Nat) (ha : a < 9223372036854775808) (hb : b < 9223372036854775808) : bits .and .i64 (a : Int) (b : Int) = ((a &&& b : Nat) : Int) := by
  have hx : a &&& b < 2 ^ 63 := Nat.and_lt_two_pow _ (by omega)
  have h1 : (BitVec.ofInt 64 (a : Int)).toNat = a := by
    rw [BitVec.ofInt_natCast, BitVec.toNat_ofNat]; exact Nat.mod_eq_of_lt (by omega)
  have h2 : (BitVec.ofInt 64 (b : Int)).toNat = b := by
    rw [BitVec.ofInt_natCast, BitVec.toNat_ofNat]; exact Nat.mod_eq_of_lt (by omega)
  show IntKind.i64.wrap ((BitVec.ofInt 64 (a : Int) &&& BitVec.ofInt 64 (b : Int)).toNat : Int) = _
  rw [BitVec.toNat_and, h1, h2, IntKind.wrap_i64]
  omega
theorem bits_or_i64_nat (a b : Nat) (ha : a < 9223372036854775808) (hb : b < 9223372036854775808) : bits .or .i64 (a : Int) (b : Int) = ((a ||| b : Nat) : Int) := by
  have hx : a ||| b < 2 ^ 63 := Nat.or_lt_two_pow (by omega) (by omega)
  have h1 : (BitVec.ofInt 64 (a : Int)).toNat = a := by
    rw [BitVec.ofInt_natCast, BitVec.toNat_ofNat]; exact Nat.mod_eq_of_lt (by omega)
  have h2 : (BitVec.ofInt 64 (b : Int)).toNat = b := by
    rw [BitVec.ofInt_natCast, BitVec.toNat_ofNat]; exact Nat.mod_eq_of_lt (by omega)
  show IntKind.i64.wrap ((BitVec.ofInt 64 (a : Int) ||| BitVec.ofInt 64 (b : Int)).toNat : Int) = _
  rw [BitVec.toNat_or, h1, h2, IntKind.wrap_i64]
  omega

/-- Reversed one bit further, by the words' operations. -/
theorem revN_or (v j : Nat) : (revN j v * 2) ||| ((v / 2 ^ j) &&& 1) = revN (j + 1) v := by
  rw [revN_last, Nat.and_one_is_mod]
  generalize revN j v = r
  have h2 : v / 2 ^ j % 2 < 2 := Nat.mod_lt _ (by decide)
  generalize v / 2 ^ j % 2 = b at *
  have h := Nat.shiftLeft_add_eq_or_of_lt (i := 1) (a := r) (b := b) (by simpa using h2)
  rw [Nat.shiftLeft_eq, Nat.pow_one] at h
  omega

set_option maxRecDepth 1000000 in
set_option maxHeartbeats 4000000 in
theorem stReversed_any {w : World} (v b : Nat) (hb : b ≤ 16) (hv : v < 65536) : Calls Try.prog 18 #[.int .i64 (v : Int), .int .i64 (b : Int)] w fun e w' => e = .returned (.int .i64 ((revN b v : Nat) : Int)) ∧ w = w' := by
  go_enter Try.func18, Try.ntmps18
  go_wp2_with fail
  go_loopw [5, 8] (fun n i wr => ∃ j : Nat, j ≤ b ∧ i = .int .i64 (j : Int) ∧ n = .int .i64 ((revN j v : Nat) : Int) ∧ w = wr) (fun _ i _ => b - (intOf i).toNat)
  case atStart => exact ⟨0, by omega, rfl, by simp [revN], rfl⟩
  case round =>
    obtain ⟨j, hj, rfl, rfl, rfl⟩ := hrel
    by_cases hlt : j < b
    · have d1 : decide ((j : Int) < (b : Int)) = true := decide_eq_true (by omega)
      have hr1 := revN_lt j v
      have hpw : 2 ^ j ≤ 2 ^ 15 := st_pow_le (by omega)
      have HS := Lib.hid (revN_or v j)
      have HD : Hid ((v : Int) / 2 ^ j = ((v / 2 ^ j : Nat) : Int)) := Lib.hid (by simp)
      have hq : v / 2 ^ j ≤ v := Nat.div_le_self ..
      generalize hre : revN j v = r at *
      generalize v / 2 ^ j = q at *
      have hand := bits_and_i64_nat q 1 (by omega) (by omega)
      have hor := bits_or_i64_nat (r * 2) (q &&& 1) (by omega) (by have := @Nat.and_le_right q 1; omega)
      have hnum : Hid (bits .or .i64 ((r : Int) * 2) (bits .and .i64 ((v : Int) / 2 ^ j) 1) = ((revN (j + 1) v : Nat) : Int)) := Lib.hid (by
        rw [HD.out, show bits BinOp.and IntKind.i64 (q : Int) 1 = ((q &&& 1 : Nat) : Int) from hand, show (r : Int) * 2 = ((r * 2 : Nat) : Int) by push_cast; rfl, hor, HS.out])
      go_wp2
      go_roundw
      case rel => exact ⟨j + 1, hlt, by go_num, by rw [hnum.out], trivial⟩
      case measure => simp [intOf]; omega
    · obtain rfl : j = b := by omega
      have d1 : decide ((j : Int) < (j : Int)) = false := decide_eq_false (by omega)
      go_wp2
      go_ret
      exact ⟨rfl, rfl⟩

set_option maxRecDepth 1000000 in
set_option maxHeartbeats 4000000 in
theorem stSpan_any {w : World} (g m l s : Nat) (hg : g = m + l + 1) (h8 : g ≤ 8) (hs : s < 4294967296) : Calls Try.prog 17 #[.int .i64 (g : Int), .int .i64 (l : Int), .int .u32 (s : Int)] w fun e w' => e = .returned (.tuple #[.int .i64 ((levF m s * 2 ^ l : Nat) : Int), .int .i64 ((2 ^ l : Nat) : Int)]) ∧ w = w' := by
  have e1 : (g : Int) - 1 - (l : Int) = (m : Int) := by omega
  have hlg : l < g := by omega
  have hm8 : m ≤ 7 := by omega
  have HR : Hid (∀ V : World, Calls Try.prog 18 #[.int .i64 ((s % 2 ^ m : Nat) : Int), .int .i64 (m : Int)] V fun e w' => e = .returned (.int .i64 ((levF m s : Nat) : Int)) ∧ V = w') := Lib.hid fun V => by
    have hp : 2 ^ m ≤ 2 ^ 7 := st_pow_le (by omega)
    have hsm : s % 2 ^ m < 2 ^ m := Nat.mod_lt _ (Nat.two_pow_pos m)
    exact stReversed_any (s % 2 ^ m) m (by omega) (by omega)
  have hl1 := levF_lt m s
  have hpm : 2 ^ m ≤ 2 ^ 7 := st_pow_le (by omega)
  have hpl : 2 ^ l ≤ 2 ^ 7 := st_pow_le (by omega)
  have hp0 : 0 < 2 ^ m := Nat.two_pow_pos m
  have hx0 := Nat.mod_lt s hp0
  have hM : (2 : Int) ^ m = ((2 ^ m : Nat) : Int) := by push_cast; rfl
  have hL : (2 : Int) ^ l = ((2 ^ l : Nat) : Int) := by push_cast; rfl
  have hsx : (s : Int) % ((2 ^ m : Nat) : Int) = ((s % 2 ^ m : Nat) : Int) := (Int.natCast_emod ..).symm
  have hFP : levF m s * 2 ^ l ≤ 127 * 128 := Nat.mul_le_mul (by omega) hpl
  have hFQ : ((levF m s : Nat) : Int) * ((2 ^ l : Nat) : Int) = ((levF m s * 2 ^ l : Nat) : Int) := by push_cast; rfl
  generalize levF m s * 2 ^ l = R at *
  generalize levF m s = F at *
  generalize s % 2 ^ m = x at *
  generalize 2 ^ m = P at *
  generalize 2 ^ l = Q at *
  have hPn : ((P : Int) == 0) = false := by simp; omega
  have hPe : ¬ (P : Int) = 0 := by omega
  clear hg
  go_enter Try.func17, Try.ntmps17
  go_wp2_with fail
  with_reducible refine (HR.out w).mono ?_
  rintro e w1 ⟨rfl, rfl⟩
  go_wp2
  go_ret2
  exact ⟨rfl, rfl⟩
end Go.Proofs.Ytlhpkfonffijfaa
