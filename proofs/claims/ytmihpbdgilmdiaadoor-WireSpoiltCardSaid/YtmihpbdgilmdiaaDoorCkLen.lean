/- math/bits.Len32 by the shelf's contract; the greatest bit of a number. -/
import Derived.Shelf.Small.Bits
import Derived.Shelf.Strconv.Itoa0
import Derived.Test.YtmihpbdgilmdiaaDoorCkSp
namespace Go.Proofs.YtmihpbdgilmdiaaDoor
open Go.Shelf

def Tryd.lays128_ren : Go.Shelf.Ren := ⟨fun | 128 => 35 | n => n, fun | 3 => 3 | 4 => 4 | 46 => 86 | 51 => 44 | 5 => 5 | 9 => 9 | n => n, fun | n => n⟩
theorem Tryd.lays128 : Go.Proofs.Lays.n128 Tryd.prog Tryd.lays128_ren := {
  mixed := by kernel_rfl
  f128 := Tryd.func35.trans (congrArg some (by kernel_rfl))
  t3 := Tryd.underlying3
  a3 := Tryd.isAgg3
  z3 := Tryd.sizeOf3
  v3 := Tryd.zeroValue3
  t4 := Tryd.underlying4
  a4 := Tryd.isAgg4
  z4 := Tryd.sizeOf4
  v4 := Tryd.zeroValue4
  t5 := Tryd.underlying5
  a5 := Tryd.isAgg5
  z5 := Tryd.sizeOf5
  v5 := Tryd.zeroValue5
  t9 := Tryd.underlying9
  a9 := Tryd.isAgg9
  z9 := Tryd.sizeOf9
  v9 := Tryd.zeroValue9
  t46 := Tryd.underlying86
  a46 := Tryd.isAgg86
  z46 := Tryd.sizeOf86
  v46 := Tryd.zeroValue86
  t51 := Tryd.underlying44
  a51 := Tryd.isAgg44
  z51 := Tryd.sizeOf44
  v51 := Tryd.zeroValue44 }

/-- Len32: how many bits: none is 1 from there on; if there is one, the one below it is. -/
theorem ckLen_any (x : Nat) (hx : x < 4294967296) (w : World) :
    Calls Tryd.prog 35 #[.int .u32 (x : Int)] w fun e w' => e = .returned (.int .i64 (Lib.bitLen x : Nat)) ∧ w' = w := by
  refine (Any.bits_Len32 Tryd.lays128 (x : Int) w (by omega) (by omega)).mono ?_
  rintro e w' ⟨rfl, rfl⟩
  exact ⟨by simp, rfl⟩

theorem bitLenAux_both : ∀ (f x : Nat), x < 2 ^ f → x ≠ 0 → 1 ≤ Lib.bitLenAux f x ∧ 2 ^ (Lib.bitLenAux f x - 1) ≤ x ∧ x < 2 ^ Lib.bitLenAux f x
  | 0, x, h, h0 => by simp at h; omega
  | f + 1, x, h, h0 => by
    have e : Lib.bitLenAux (f + 1) x = 1 + Lib.bitLenAux f (x / 2) := by simp [Lib.bitLenAux, h0]
    rw [e]
    by_cases h1 : x / 2 = 0
    · have : x = 1 := by omega
      subst this
      have e0 : Lib.bitLenAux f (1 / 2) = 0 := by cases f <;> simp [Lib.bitLenAux]
      rw [e0]
      simp
    · obtain ⟨k1, k2, k3⟩ := bitLenAux_both f (x / 2) (by rw [Nat.pow_succ] at h; omega) h1
      generalize Lib.bitLenAux f (x / 2) = k at *
      obtain ⟨k, rfl⟩ : ∃ k', k = k' + 1 := ⟨k - 1, by omega⟩
      rw [Nat.add_sub_cancel] at k2
      refine ⟨by omega, ?_, ?_⟩
      · rw [show 1 + (k + 1) - 1 = k + 1 by omega, Nat.pow_succ]; omega
      · rw [show 1 + (k + 1) = (k + 1) + 1 by omega, Nat.pow_succ 2 (k + 1)]; omega

theorem ckLen_zero : Lib.bitLen 0 = 0 := by decide
theorem ckLen_pos {x : Nat} (hx : x < 4294967296) (h0 : x ≠ 0) : 1 ≤ Lib.bitLen x ∧ Lib.bitLen x ≤ 32 ∧ x.testBit (Lib.bitLen x - 1) = true ∧ ∀ i, Lib.bitLen x ≤ i → x.testBit i = false := by
  have h32 := Lib.bitLen_le x 32 (by decide) (by omega)
  obtain ⟨h1, h2, h3⟩ := bitLenAux_both 64 x (by omega) h0
  have e : Lib.bitLenAux 64 x = Lib.bitLen x := rfl
  rw [e] at h1 h2 h3
  refine ⟨h1, h32, ?_, fun i hi => Nat.testBit_lt_two_pow (Nat.lt_of_lt_of_le h3 (Nat.pow_le_pow_right (by decide) hi))⟩
  rw [Nat.testBit_eq_decide_div_mod_eq]
  obtain ⟨k, hk⟩ : ∃ k, Lib.bitLen x = k + 1 := ⟨Lib.bitLen x - 1, by omega⟩
  rw [hk] at h2 h3 ⊢
  rw [Nat.add_sub_cancel] at h2 ⊢
  rw [Nat.pow_succ] at h3
  have hp : 0 < 2 ^ k := Nat.two_pow_pos k
  have : x / 2 ^ k = 1 := by
    apply Nat.div_eq_of_lt_le <;> omega
  rw [this]; decide

/-- what is spoilt up to the mask's greatest bit is spoilt -/
theorem spoilN_len (at0 mask : Nat) (l : List Nat) (k : Nat) (hk : ∀ i, k ≤ i → mask.testBit i = false) : Spoilt l (spoilN at0 mask l k) at0 mask := by
  refine ⟨spoilN_length _ _ _ _, fun b hb => ?_⟩
  rw [spoilN_bit _ _ _ _ hb]
  congr 1
  by_cases h : b - at0 < k
  · simp [h]
  · have h2 := hk (b - at0) (by omega)
    simp [h2]
end Go.Proofs.YtmihpbdgilmdiaaDoor
