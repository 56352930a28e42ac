/- Plain arithmetic on words of 64 bits, no program: the bits of a list of words, their number, the least one; what bits.OnesCount64's text computes. -/
import Derived.Lib.BitFns
import Derived.Lib.TrailingZeros
import Derived.Laws.Bits64b
namespace Go.Proofs.Ytgbogglalnafeaa

/-! ### the bits of one word -/
def popN : Nat → Nat → Nat
  | 0, _ => 0
  | n + 1, x => x % 2 + popN n (x / 2)

theorem popN_add (k m : Nat) : ∀ y, popN (k + m) y = popN k y + popN m (y / 2 ^ k) := by
  induction k with
  | zero => intro y; simp [popN]
  | succ k ih =>
    intro y
    rw [Nat.add_right_comm, popN, ih, popN, Nat.div_div_eq_div_mul, Nat.pow_succ, Nat.mul_comm 2, Nat.add_assoc]

theorem popN_filter (n : Nat) : ∀ x, ((List.range n).filter (fun i => x.testBit i)).length = popN n x := by
  induction n with
  | zero => intro x; rfl
  | succ n ih =>
    intro x
    rw [List.range_succ_eq_map, List.filter_cons, List.filter_map, popN, ← ih (x / 2)]
    have e : ((fun i => x.testBit i) ∘ Nat.succ) = fun i => (x / 2).testBit i := by funext i; simp [Nat.testBit_succ]
    rw [e, Nat.testBit_zero]
    by_cases h : x % 2 = 1
    · simp [h]; omega
    · simp [h]; omega

/-- How many bits of a word are 1. -/
def pop (x : Nat) : Nat := popN 64 x

theorem popN_le (n : Nat) : ∀ x, popN n x ≤ n := by
  induction n with
  | zero => intro x; exact Nat.le_refl _
  | succ n ih => intro x; have := ih (x / 2); simp only [popN]; omega

theorem pop_le (x : Nat) : pop x ≤ 64 := popN_le 64 x

theorem popN_zero (n : Nat) : popN n 0 = 0 := by
  induction n with
  | zero => rfl
  | succ n ih => simp [popN, ih]

theorem and_split (j a c r s : Nat) (ha : a < 2 ^ j) (hc : c < 2 ^ j) : (2 ^ j * r + a) &&& (2 ^ j * s + c) = 2 ^ j * (r &&& s) + (a &&& c) := by
  apply Nat.eq_of_testBit_eq
  intro i
  have hac : a &&& c < 2 ^ j := Nat.and_lt_two_pow _ hc
  rw [Nat.testBit_and, Nat.testBit_two_pow_mul_add _ ha, Nat.testBit_two_pow_mul_add _ hc, Nat.testBit_two_pow_mul_add _ hac]
  by_cases h : i < j <;> simp [h, Nat.testBit_and]

def val8 : List Nat → Nat
  | [] => 0
  | a :: r => 256 * val8 r + a

theorem and_split8 (a c r s : Nat) (ha : a < 256) (hc : c < 256) : (256 * r + a) &&& (256 * s + c) = 256 * (r &&& s) + (a &&& c) := and_split 8 a c r s ha hc

def b1 (a : Nat) : Nat := ((a / 2) &&& 85) + (a &&& 85)
def b2 (a : Nat) : Nat := ((a / 4) &&& 51) + (a &&& 51)
def b3 (a : Nat) : Nat := (a / 16 + a) &&& 15

theorem k1 : ∀ a : Fin 256, ∀ t : Fin 2, (a.val / 2 + 128 * t.val) &&& 85 = (a.val / 2) &&& 85 := by decide +kernel
theorem k2 : ∀ a : Fin 256, ∀ t : Fin 4, (a.val / 4 + 64 * t.val) &&& 51 = (a.val / 4) &&& 51 := by decide +kernel
theorem k3 : ∀ a : Fin 256, ∀ t : Fin 16, a.val % 16 ≤ 4 → a.val / 16 ≤ 4 → t.val ≤ 4 → (a.val / 16 + a.val + 16 * t.val) &&& 15 = (a.val / 16 + a.val) &&& 15 := by decide +kernel
theorem k1lt : ∀ a : Fin 256, b1 a.val < 256 := by decide +kernel
theorem k2lt : ∀ a : Fin 256, b2 (b1 a.val) < 256 ∧ b2 (b1 a.val) % 16 ≤ 4 ∧ b2 (b1 a.val) / 16 ≤ 4 := by decide +kernel
theorem k3pop : ∀ a : Fin 256, b3 (b2 (b1 a.val)) = popN 8 a.val ∧ popN 8 a.val ≤ 8 := by decide +kernel

theorem step1 : ∀ bs : List Nat, (∀ b ∈ bs, b < 256) → ((val8 bs / 2) &&& val8 (List.replicate bs.length 85)) + (val8 bs &&& val8 (List.replicate bs.length 85)) = val8 (bs.map b1)
  | [], _ => by simp [val8]
  | a :: r, h => by
    have ha : a < 256 := h a (by simp)
    have ih := step1 r fun b hb => h b (by simp [hb])
    have e : (256 * val8 r + a) / 2 = 256 * (val8 r / 2) + (a / 2 + 128 * (val8 r % 2)) := by omega
    have k := k1 ⟨a, ha⟩ ⟨val8 r % 2, by omega⟩
    simp only at k
    simp only [List.length_cons, List.replicate_succ, val8, List.map_cons]
    rw [e, and_split8 _ _ _ _ (by omega) (by omega), and_split8 _ _ _ _ ha (by omega), k, ← ih, b1]
    omega

theorem step2 : ∀ bs : List Nat, (∀ b ∈ bs, b < 256) → ((val8 bs / 4) &&& val8 (List.replicate bs.length 51)) + (val8 bs &&& val8 (List.replicate bs.length 51)) = val8 (bs.map b2)
  | [], _ => by simp [val8]
  | a :: r, h => by
    have ha : a < 256 := h a (by simp)
    have ih := step2 r fun b hb => h b (by simp [hb])
    have e : (256 * val8 r + a) / 4 = 256 * (val8 r / 4) + (a / 4 + 64 * (val8 r % 4)) := by omega
    have k := k2 ⟨a, ha⟩ ⟨val8 r % 4, by omega⟩
    simp only at k
    simp only [List.length_cons, List.replicate_succ, val8, List.map_cons]
    rw [e, and_split8 _ _ _ _ (by omega) (by omega), and_split8 _ _ _ _ ha (by omega), k, ← ih, b2]
    omega

theorem step3 : ∀ bs : List Nat, (∀ b ∈ bs, b < 256 ∧ b % 16 ≤ 4 ∧ b / 16 ≤ 4) → (val8 bs / 16 + val8 bs) &&& val8 (List.replicate bs.length 15) = val8 (bs.map b3)
  | [], _ => by simp [val8]
  | a :: r, h => by
    obtain ⟨ha, ha1, ha2⟩ := h a (by simp)
    have ih := step3 r fun b hb => h b (by simp [hb])
    have hr : val8 r % 16 ≤ 4 := by
      cases r with
      | nil => simp [val8]
      | cons b r' => have hb := (h b (by simp)).2.1; simp only [val8]; omega
    have e : (256 * val8 r + a) / 16 + (256 * val8 r + a) = 256 * (val8 r / 16 + val8 r) + (a / 16 + a + 16 * (val8 r % 16)) := by omega
    have k := k3 ⟨a, ha⟩ ⟨val8 r % 16, by omega⟩ ha1 ha2 hr
    simp only at k
    simp only [List.length_cons, List.replicate_succ, val8, List.map_cons]
    rw [e, and_split8 _ _ _ _ (by omega) (by omega), k, ← ih, b3]

theorem popN_bytes : ∀ bs : List Nat, (∀ b ∈ bs, b < 256) → popN (8 * bs.length) (val8 bs) = (bs.map (popN 8)).sum
  | [], _ => rfl
  | a :: r, h => by
    have ha : a < 256 := h a (by simp)
    have ih := popN_bytes r fun b hb => h b (by simp [hb])
    simp only [List.length_cons, List.map_cons, List.sum_cons, val8]
    rw [show 8 * (r.length + 1) = 8 + 8 * r.length by omega, popN_add, show (256 * val8 r + a) / 2 ^ 8 = val8 r by omega, ih]
    congr 1
    simp only [popN]
    omega

theorem len8 (l : List Nat) (h : l.length = 8) : ∃ c0 c1 c2 c3 c4 c5 c6 c7, l = [c0, c1, c2, c3, c4, c5, c6, c7] := by
  match l, h with
  | [c0, c1, c2, c3, c4, c5, c6, c7], _ => exact ⟨c0, c1, c2, c3, c4, c5, c6, c7, rfl⟩

theorem val8_lt (l : List Nat) (hl : l.length = 8) (hb : ∀ b ∈ l, b < 256) : val8 l < 18446744073709551616 := by
  obtain ⟨c0, c1, c2, c3, c4, c5, c6, c7, rfl⟩ := len8 l hl
  simp only [List.mem_cons, List.not_mem_nil, or_false, forall_eq_or_imp, forall_eq] at hb
  simp only [val8]
  omega

theorem val8_sum (l : List Nat) (hl : l.length = 8) (hb : ∀ b ∈ l, b < 256 ∧ b % 16 ≤ 4 ∧ b / 16 ≤ 4) : val8 l / 16 + val8 l < 18446744073709551616 ∧ val8 l < 18446744073709551616 := by
  obtain ⟨c0, c1, c2, c3, c4, c5, c6, c7, rfl⟩ := len8 l hl
  simp only [List.mem_cons, List.not_mem_nil, or_false, forall_eq_or_imp, forall_eq] at hb
  simp only [val8]
  omega

theorem val8_tail (l : List Nat) (hl : l.length = 8) (hb : ∀ b ∈ l, b ≤ 8) :
    let x3 := val8 l
    let x4 := x3 + x3 / 256
    let x5 := x4 + x4 / 65536
    let x6 := x5 + x5 / 4294967296
    x3 < 18446744073709551616 ∧ x4 < 18446744073709551616 ∧ x5 < 18446744073709551616 ∧ x6 < 9223372036854775808 ∧ x6 % 128 = l.sum := by
  obtain ⟨c0, c1, c2, c3, c4, c5, c6, c7, rfl⟩ := len8 l hl
  simp only [List.mem_cons, List.not_mem_nil, or_false, forall_eq_or_imp, forall_eq] at hb
  obtain ⟨q0, q1, q2, q3, q4, q5, q6, q7⟩ := hb
  have e4 : val8 [c0, c1, c2, c3, c4, c5, c6, c7] + val8 [c0, c1, c2, c3, c4, c5, c6, c7] / 256 = val8 [c0 + c1, c1 + c2, c2 + c3, c3 + c4, c4 + c5, c5 + c6, c6 + c7, c7] := by simp only [val8]; omega
  have e5 : val8 [c0 + c1, c1 + c2, c2 + c3, c3 + c4, c4 + c5, c5 + c6, c6 + c7, c7] + val8 [c0 + c1, c1 + c2, c2 + c3, c3 + c4, c4 + c5, c5 + c6, c6 + c7, c7] / 65536 = val8 [c0 + c1 + (c2 + c3), c1 + c2 + (c3 + c4), c2 + c3 + (c4 + c5), c3 + c4 + (c5 + c6), c4 + c5 + (c6 + c7), c5 + c6 + c7, c6 + c7, c7] := by simp only [val8]; omega
  have e6 : val8 [c0 + c1 + (c2 + c3), c1 + c2 + (c3 + c4), c2 + c3 + (c4 + c5), c3 + c4 + (c5 + c6), c4 + c5 + (c6 + c7), c5 + c6 + c7, c6 + c7, c7] / 4294967296 = val8 [c4 + c5 + (c6 + c7), c5 + c6 + c7, c6 + c7, c7] := by simp only [val8]; omega
  simp only
  rw [e4, e5, e6]
  refine ⟨?_, ?_, ?_, ?_, ?_⟩
  · simp only [val8]; omega
  · simp only [val8]; omega
  · simp only [val8]; omega
  · simp only [val8]; omega
  · simp only [val8, List.sum_cons, List.sum_nil]; omega

/-- What bits.OnesCount64's text computes of a word. -/
theorem onesCount_eq (x : Nat) (hx : x < 18446744073709551616) :
    let x1 := ((x / 2) &&& 6148914691236517205) + (x &&& 6148914691236517205)
    let x2 := ((x1 / 4) &&& 3689348814741910323) + (x1 &&& 3689348814741910323)
    let x3 := (x2 / 16 + x2) &&& 1085102592571150095
    let x4 := x3 + x3 / 256
    let x5 := x4 + x4 / 65536
    let x6 := x5 + x5 / 4294967296
    x1 < 18446744073709551616 ∧ x2 < 18446744073709551616 ∧ x2 / 16 + x2 < 18446744073709551616 ∧ x3 < 18446744073709551616 ∧ x4 < 18446744073709551616 ∧ x5 < 18446744073709551616 ∧ x6 < 9223372036854775808 ∧ x6 % 128 = pop x := by
  obtain ⟨bs, hl, hb, rfl⟩ : ∃ bs : List Nat, bs.length = 8 ∧ (∀ b ∈ bs, b < 256) ∧ x = val8 bs := by
    refine ⟨[x % 256, x / 256 % 256, x / 65536 % 256, x / 16777216 % 256, x / 4294967296 % 256, x / 1099511627776 % 256, x / 281474976710656 % 256, x / 72057594037927936 % 256], rfl, ?_, ?_⟩
    · intro b hb
      simp only [List.mem_cons, List.not_mem_nil, or_false] at hb
      omega
    · simp only [val8]; omega
  have m1 : val8 (List.replicate bs.length 85) = 6148914691236517205 := by rw [hl]; rfl
  have m2 : val8 (List.replicate (bs.map b1).length 51) = 3689348814741910323 := by rw [List.length_map, hl]; rfl
  have m3 : val8 (List.replicate ((bs.map b1).map b2).length 15) = 1085102592571150095 := by rw [List.length_map, List.length_map, hl]; rfl
  have h1 : ∀ b ∈ bs.map b1, b < 256 := by
    intro b hb'
    obtain ⟨a, ha, rfl⟩ := List.mem_map.1 hb'
    exact k1lt ⟨a, hb a ha⟩
  have h2 : ∀ b ∈ (bs.map b1).map b2, b < 256 ∧ b % 16 ≤ 4 ∧ b / 16 ≤ 4 := by
    intro b hb'
    obtain ⟨a', ha', rfl⟩ := List.mem_map.1 hb'
    obtain ⟨a, ha, rfl⟩ := List.mem_map.1 ha'
    exact k2lt ⟨a, hb a ha⟩
  have s1 := step1 bs hb
  have s2 := step2 (bs.map b1) h1
  have s3 := step3 ((bs.map b1).map b2) h2
  rw [m1] at s1
  rw [m2] at s2
  rw [m3] at s3
  have hp : pop (val8 bs) = ((((bs.map b1).map b2).map b3)).sum := by
    unfold pop
    have := popN_bytes bs hb
    rw [hl, show 8 * 8 = 64 from rfl] at this
    rw [this, List.map_map, List.map_map]
    have e : bs.map (popN 8) = bs.map ((b3 ∘ b2) ∘ b1) := by
      apply List.map_congr_left
      intro a ha
      exact ((k3pop ⟨a, hb a ha⟩).1).symm
    rw [e]
  have h3 : ∀ b ∈ ((bs.map b1).map b2).map b3, b ≤ 8 := by
    intro b hb'
    obtain ⟨a'', ha'', rfl⟩ := List.mem_map.1 hb'
    obtain ⟨a', ha', rfl⟩ := List.mem_map.1 ha''
    obtain ⟨a, ha, rfl⟩ := List.mem_map.1 ha'
    have := k3pop ⟨a, hb a ha⟩
    simp only at this
    omega
  simp only
  rw [s1, s2, s3, hp]
  have L1 := val8_lt (bs.map b1) (by simp [hl]) h1
  have L2 := val8_sum ((bs.map b1).map b2) (by simp [hl]) h2
  have L3 := val8_tail (((bs.map b1).map b2).map b3) (by simp [hl]) h3
  exact ⟨L1, L2.2, L2.1, L3⟩

end Go.Proofs.Ytgbogglalnafeaa
