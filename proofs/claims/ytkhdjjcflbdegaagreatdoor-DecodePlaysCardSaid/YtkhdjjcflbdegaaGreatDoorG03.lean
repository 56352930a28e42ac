import Derived.Lib.BitFns
import Derived.Lib.TrailingZeros
import Derived.Laws.Bits64b

section
/- Plain arithmetic on words of 64 bits, no program: the bits of a list of words, their number, the least one; what bits.OnesCount64's text computes. -/
namespace Go.Proofs.YtkhdjjcflbdegaaGreatDoor

/-! ### the bits of one word -/
def popN : Nat → Nat → Nat
  | 0, _ => 0
  | n + 1, x => x % 2 + popN n (x / 2)

theorem popN_add (k m : Nat) : ∀ y, popN (k + m) y = popN k y + popN m (y / 2 ^ k) := by
  induction k with
  | zero => intro y; simp [popN]
  | succ k ih =>
    intro y
    rw [Nat.add_right_comm, popN, ih, popN, Nat.div_div_eq_div_mul, Nat.pow_succ, Nat.mul_comm 2, Nat.add_assoc]

theorem popN_filter (n : Nat) : ∀ x, ((List.range n).filter (fun i => x.testBit i)).length = popN n x := by
  induction n with
  | zero => intro x; rfl
  | succ n ih =>
    intro x
    rw [List.range_succ_eq_map, List.filter_cons, List.filter_map, popN, ← ih (x / 2)]
    have e : ((fun i => x.testBit i) ∘ Nat.succ) = fun i => (x / 2).testBit i := by funext i; simp [Nat.testBit_succ]
    rw [e, Nat.testBit_zero]
    by_cases h : x % 2 = 1
    · simp [h]; omega
    · simp [h]; omega

/-- How many bits of a word are 1. -/
def pop (x : Nat) : Nat := popN 64 x

theorem popN_le (n : Nat) : ∀ x, popN n x ≤ n := by
  induction n with
  | zero => intro x; exact Nat.le_refl _
  | succ n ih => intro x; have := ih (x / 2); simp only [popN]; omega

theorem pop_le (x : Nat) : pop x ≤ 64 := popN_le 64 x

theorem popN_zero (n : Nat) : popN n 0 = 0 := by
  induction n with
  | zero => rfl
  | succ n ih => simp [popN, ih]

theorem and_split (j a c r s : Nat) (ha : a < 2 ^ j) (hc : c < 2 ^ j) : (2 ^ j * r + a) &&& (2 ^ j * s + c) = 2 ^ j * (r &&& s) + (a &&& c) := by
  apply Nat.eq_of_testBit_eq
  intro i
  have hac : a &&& c < 2 ^ j := Nat.and_lt_two_pow _ hc
  rw [Nat.testBit_and, Nat.testBit_two_pow_mul_add _ ha, Nat.testBit_two_pow_mul_add _ hc, Nat.testBit_two_pow_mul_add _ hac]
  by_cases h : i < j <;> simp [h, Nat.testBit_and]

def val8 : List Nat → Nat
  | [] => 0
  | a :: r => 256 * val8 r + a

theorem and_split8 (a c r s : Nat) (ha : a < 256) (hc : c < 256) : (256 * r + a) &&& (256 * s + c) = 256 * (r &&& s) + (a &&& c) := and_split 8 a c r s ha hc

def b1 (a : Nat) : Nat := ((a / 2) &&& 85) + (a &&& 85)
def b2 (a : Nat) : Nat := ((a / 4) &&& 51) + (a &&& 51)
def b3 (a : Nat) : Nat := (a / 16 + a) &&& 15

theorem k1 : ∀ a : Fin 256, ∀ t : Fin 2, (a.val / 2 + 128 * t.val) &&& 85 = (a.val / 2) &&& 85 := by decide +kernel
theorem k2 : ∀ a : Fin 256, ∀ t : Fin 4, (a.val / 4 + 64 * t.val) &&& 51 = (a.val / 4) &&& 51 := by decide +kernel
theorem k3 : ∀ a : Fin 256, ∀ t : Fin 16, a.val % 16 ≤ 4 → a.val / 16 ≤ 4 → t.val ≤ 4 → (a.val / 16 + a.val + 16 * t.val) &&& 15 = (a.val / 16 + a.val) &&& 15 := by decide +kernel
theorem k1lt : ∀ a : Fin 256, b1 a.val < 256 := by decide +kernel
theorem k2lt : ∀ a : Fin 256, b2 (b1 a.val) < 256 ∧ b2 (b1 a.val) % 16 ≤ 4 ∧ b2 (b1 a.val) / 16 ≤ 4 := by decide +kernel
theorem k3pop : ∀ a : Fin 256, b3 (b2 (b1 a.val)) = popN 8 a.val ∧ popN 8 a.val ≤ 8 := by decide +kernel

theorem step1 : ∀ bs : List Nat, (∀ b ∈ bs, b < 256) → ((val8 bs / 2) &&& val8 (List.replicate bs.length 85)) + (val8 bs &&& val8 (List.replicate bs.length 85)) = val8 (bs.map b1)
  | [], _ => by simp [val8]
  | a :: r, h => by
    have ha : a < 256 := h a (by simp)
    have ih := step1 r fun b hb => h b (by simp [hb])
    have e : (256 * val8 r + a) / 2 = 256 * (val8 r / 2) + (a / 2 + 128 * (val8 r % 2)) := by omega
    have k := k1 ⟨a, ha⟩ ⟨val8 r % 2, by omega⟩
    simp only at k
    simp only [List.length_cons, List.replicate_succ, val8, List.map_cons]
    rw [e, and_split8 _ _ _ _ (by omega) (by omega), and_split8 _ _ _ _ ha (by omega), k, ← ih, b1]
    omega

theorem step2 : ∀ bs : List Nat, (∀ b ∈ bs, b < 256) → ((val8 bs / 4) &&& val8 (List.replicate bs.length 51)) + (val8 bs &&& val8 (List.replicate bs.length 51)) = val8 (bs.map b2)
  | [], _ => by simp [val8]
  | a :: r, h => by
    have ha : a < 256 := h a (by simp)
    have ih := step2 r fun b hb => h b (by simp [hb])
    have e : (256 * val8 r + a) / 4 = 256 * (val8 r / 4) + (a / 4 + 64 * (val8 r % 4)) := by omega
    have k := k2 ⟨a, ha⟩ ⟨val8 r % 4, by omega⟩
    simp only at k
    simp only [List.length_cons, List.replicate_succ, val8, List.map_cons]
    rw [e, and_split8 _ _ _ _ (by omega) (by omega), and_split8 _ _ _ _ ha (by omega), k, ← ih, b2]
    omega

theorem step3 : ∀ bs : List Nat, (∀ b ∈ bs, b < 256 ∧ b % 16 ≤ 4 ∧ b / 16 ≤ 4) → (val8 bs / 16 + val8 bs) &&& val8 (List.replicate bs.length 15) = val8 (bs.map b3)
  | [], _ => by simp [val8]
  | a :: r, h => by
    obtain ⟨ha, ha1, ha2⟩ := h a (by simp)
    have ih := step3 r fun b hb => h b (by simp [hb])
    have hr : val8 r % 16 ≤ 4 := by
      cases r with
      | nil => simp [val8]
      | cons b r' => have hb := (h b (by simp)).2.1; simp only [val8]; omega
    have e : (256 * val8 r + a) / 16 + (256 * val8 r + a) = 256 * (val8 r / 16 + val8 r) + (a / 16 + a + 16 * (val8 r % 16)) := by omega
    have k := k3 ⟨a, ha⟩ ⟨val8 r % 16, by omega⟩ ha1 ha2 hr
    simp only at k
    simp only [List.length_cons, List.replicate_succ, val8, List.map_cons]
    rw [e, and_split8 _ _ _ _ (by omega) (by omega), k, ← ih, b3]

theorem popN_bytes : ∀ bs : List Nat, (∀ b ∈ bs, b < 256) → popN (8 * bs.length) (val8 bs) = (bs.map (popN 8)).sum
  | [], _ => rfl
  | a :: r, h => by
    have ha : a < 256 := h a (by simp)
    have ih := popN_bytes r fun b hb => h b (by simp [hb])
    simp only [List.length_cons, List.map_cons, List.sum_cons, val8]
    rw [show 8 * (r.length + 1) = 8 + 8 * r.length by omega, popN_add, show (256 * val8 r + a) / 2 ^ 8 = val8 r by omega, ih]
    congr 1
    simp only [popN]
    omega

theorem len8 (l : List Nat) (h : l.length = 8) : ∃ c0 c1 c2 c3 c4 c5 c6 c7, l = [c0, c1, c2, c3, c4, c5, c6, c7] := by
  match l, h with
  | [c0, c1, c2, c3, c4, c5, c6, c7], _ => exact ⟨c0, c1, c2, c3, c4, c5, c6, c7, rfl⟩

theorem val8_lt (l : List Nat) (hl : l.length = 8) (hb : ∀ b ∈ l, b < 256) : val8 l < 18446744073709551616 := by
  obtain ⟨c0, c1, c2, c3, c4, c5, c6, c7, rfl⟩ := len8 l hl
  simp only [List.mem_cons, List.not_mem_nil, or_false, forall_eq_or_imp, forall_eq] at hb
  simp only [val8]
  omega

theorem val8_sum (l : List Nat) (hl : l.length = 8) (hb : ∀ b ∈ l, b < 256 ∧ b % 16 ≤ 4 ∧ b / 16 ≤ 4) : val8 l / 16 + val8 l < 18446744073709551616 ∧ val8 l < 18446744073709551616 := by
  obtain ⟨c0, c1, c2, c3, c4, c5, c6, c7, rfl⟩ := len8 l hl
  simp only [List.mem_cons, List.not_mem_nil, or_false, forall_eq_or_imp, forall_eq] at hb
  simp only [val8]
  omega

theorem val8_tail (l : List Nat) (hl : l.length = 8) (hb : ∀ b ∈ l, b ≤ 8) :
    let x3 := val8 l
    let x4 := x3 + x3 / 256
    let x5 := x4 + x4 / 65536
    let x6 := x5 + x5 / 4294967296
    x3 < 18446744073709551616 ∧ x4 < 18446744073709551616 ∧ x5 < 18446744073709551616 ∧ x6 < 9223372036854775808 ∧ x6 % 128 = l.sum := by
  obtain ⟨c0, c1, c2, c3, c4, c5, c6, c7, rfl⟩ := len8 l hl
  simp only [List.mem_cons, List.not_mem_nil, or_false, forall_eq_or_imp, forall_eq] at hb
  obtain ⟨q0, q1, q2, q3, q4, q5, q6, q7⟩ := hb
  have e4 : val8 [c0, c1, c2, c3, c4, c5, c6, c7] + val8 [c0, c1, c2, c3, c4, c5, c6, c7] / 256 = val8 [c0 + c1, c1 + c2, c2 + c3, c3 + c4, c4 + c5, c5 + c6, c6 + c7, c7] := by simp only [val8]; omega
  have e5 : val8 [c0 + c1, c1 + c2, c2 + c3, c3 + c4, c4 + c5, c5 + c6, c6 + c7, c7] + val8 [c0 + c1, c1 + c2, c2 + c3, c3 + c4, c4 + c5, c5 + c6, c6 + c7, c7] / 65536 = val8 [c0 + c1 + (c2 + c3), c1 + c2 + (c3 + c4), c2 + c3 + (c4 + c5), c3 + c4 + (c5 + c6), c4 + c5 + (c6 + c7), c5 + c6 + c7, c6 + c7, c7] := by simp only [val8]; omega
  have e6 : val8 [c0 + c1 + (c2 + c3), c1 + c2 + (c3 + c4), c2 + c3 + (c4 + c5), c3 + c4 + (c5 + c6), c4 + c5 + (c6 + c7), c5 + c6 + c7, c6 + c7, c7] / 4294967296 = val8 [c4 + c5 + (c6 + c7), c5 + c6 + c7, c6 + c7, c7] := by simp only [val8]; omega
  simp only
  rw [e4, e5, e6]
  refine ⟨?_, ?_, ?_, ?_, ?_⟩
  · simp only [val8]; omega
  · simp only [val8]; omega
  · simp only [val8]; omega
  · simp only [val8]; omega
  · simp only [val8, List.sum_cons, List.sum_nil]; omega

/-- What bits.OnesCount64's text computes of a word. -/
theorem onesCount_eq (x : Nat) (hx : x < 18446744073709551616) :
    let x1 := ((x / 2) &&& 6148914691236517205) + (x &&& 6148914691236517205)
    let x2 := ((x1 / 4) &&& 3689348814741910323) + (x1 &&& 3689348814741910323)
    let x3 := (x2 / 16 + x2) &&& 1085102592571150095
    let x4 := x3 + x3 / 256
    let x5 := x4 + x4 / 65536
    let x6 := x5 + x5 / 4294967296
    x1 < 18446744073709551616 ∧ x2 < 18446744073709551616 ∧ x2 / 16 + x2 < 18446744073709551616 ∧ x3 < 18446744073709551616 ∧ x4 < 18446744073709551616 ∧ x5 < 18446744073709551616 ∧ x6 < 9223372036854775808 ∧ x6 % 128 = pop x := by
  obtain ⟨bs, hl, hb, rfl⟩ : ∃ bs : List Nat, bs.length = 8 ∧ (∀ b ∈ bs, b < 256) ∧ x = val8 bs := by
    refine ⟨[x % 256, x / 256 % 256, x / 65536 % 256, x / 16777216 % 256, x / 4294967296 % 256, x / 1099511627776 % 256, x / 281474976710656 % 256, x / 72057594037927936 % 256], rfl, ?_, ?_⟩
    · intro b hb
      simp only [List.mem_cons, List.not_mem_nil, or_false] at hb
      omega
    · simp only [val8]; omega
  have m1 : val8 (List.replicate bs.length 85) = 6148914691236517205 := by rw [hl]; rfl
  have m2 : val8 (List.replicate (bs.map b1).length 51) = 3689348814741910323 := by rw [List.length_map, hl]; rfl
  have m3 : val8 (List.replicate ((bs.map b1).map b2).length 15) = 1085102592571150095 := by rw [List.length_map, List.length_map, hl]; rfl
  have h1 : ∀ b ∈ bs.map b1, b < 256 := by
    intro b hb'
    obtain ⟨a, ha, rfl⟩ := List.mem_map.1 hb'
    exact k1lt ⟨a, hb a ha⟩
  have h2 : ∀ b ∈ (bs.map b1).map b2, b < 256 ∧ b % 16 ≤ 4 ∧ b / 16 ≤ 4 := by
    intro b hb'
    obtain ⟨a', ha', rfl⟩ := List.mem_map.1 hb'
    obtain ⟨a, ha, rfl⟩ := List.mem_map.1 ha'
    exact k2lt ⟨a, hb a ha⟩
  have s1 := step1 bs hb
  have s2 := step2 (bs.map b1) h1
  have s3 := step3 ((bs.map b1).map b2) h2
  rw [m1] at s1
  rw [m2] at s2
  rw [m3] at s3
  have hp : pop (val8 bs) = ((((bs.map b1).map b2).map b3)).sum := by
    unfold pop
    have := popN_bytes bs hb
    rw [hl, show 8 * 8 = 64 from rfl] at this
    rw [this, List.map_map, List.map_map]
    have e : bs.map (popN 8) = bs.map ((b3 ∘ b2) ∘ b1) := by
      apply List.map_congr_left
      intro a ha
      exact ((k3pop ⟨a, hb a ha⟩).1).symm
    rw [e]
  have h3 : ∀ b ∈ ((bs.map b1).map b2).map b3, b ≤ 8 := by
    intro b hb'
    obtain ⟨a'', ha'', rfl⟩ := List.mem_map.1 hb'
    obtain ⟨a', ha', rfl⟩ := List.mem_map.1 ha''
    obtain ⟨a, ha, rfl⟩ := List.mem_map.1 ha'
    have := k3pop ⟨a, hb a ha⟩
    simp only at this
    omega
  simp only
  rw [s1, s2, s3, hp]
  have L1 := val8_lt (bs.map b1) (by simp [hl]) h1
  have L2 := val8_sum ((bs.map b1).map b2) (by simp [hl]) h2
  have L3 := val8_tail (((bs.map b1).map b2).map b3) (by simp [hl]) h3
  exact ⟨L1, L2.2, L2.1, L3⟩

end Go.Proofs.YtkhdjjcflbdegaaGreatDoor
end

section
/- Lists of words as sets of columns, no program: which column is 1, all of them in order, their number, the least one; exclusive or, both; what is packed. -/
namespace Go.Proofs.YtkhdjjcflbdegaaGreatDoor

/-- Is a column 1? -/
def bitW (ws : List Nat) (c : Nat) : Bool := (ws.getD (c / 64) 0).testBit (c % 64)
/-- The columns below a bound that are 1, rising. -/
def colsTo (ws : List Nat) (n : Nat) : List Nat := (List.range n).filter (bitW ws)
def colsOf (ws : List Nat) : List Nat := colsTo ws (64 * ws.length)
def Word (ws : List Nat) : Prop := ∀ x ∈ ws, x < 18446744073709551616

theorem Word.getD {ws : List Nat} (h : Word ws) (i : Nat) : ws.getD i 0 < 18446744073709551616 := by
  by_cases hi : i < ws.length
  · rw [List.getD_eq_getElem?_getD, List.getElem?_eq_getElem hi]; exact h _ (List.getElem_mem hi)
  · rw [List.getD_eq_getElem?_getD, List.getElem?_eq_none (by omega)]; decide

theorem bitW_out (ws : List Nat) (c : Nat) (h : 64 * ws.length ≤ c) : bitW ws c = false := by
  unfold bitW
  rw [List.getD_eq_getElem?_getD, List.getElem?_eq_none (by omega)]
  simp

theorem bitW_at (ws : List Nat) (i b : Nat) (hb : b < 64) : bitW ws (i * 64 + b) = (ws.getD i 0).testBit b := by
  unfold bitW
  rw [show (i * 64 + b) / 64 = i by omega, show (i * 64 + b) % 64 = b by omega]

theorem colsTo_zero (ws : List Nat) : colsTo ws 0 = [] := rfl
theorem colsTo_succ (ws : List Nat) (n : Nat) : colsTo ws (n + 1) = colsTo ws n ++ (if bitW ws n then [n] else []) := by
  unfold colsTo
  rw [List.range_succ, List.filter_append]
  by_cases h : bitW ws n <;> simp [h]
theorem colsTo_one (ws : List Nat) (n : Nat) (h : bitW ws n = true) : colsTo ws (n + 1) = colsTo ws n ++ [n] := by rw [colsTo_succ, if_pos h]
theorem colsTo_none (ws : List Nat) (n : Nat) (h : bitW ws n = false) : colsTo ws (n + 1) = colsTo ws n := by rw [colsTo_succ, h]; simp
theorem colsTo_gap (ws : List Nat) (a : Nat) : ∀ k, (∀ c, a ≤ c → c < a + k → bitW ws c = false) → colsTo ws (a + k) = colsTo ws a
  | 0, _ => rfl
  | k + 1, h => by rw [← Nat.add_assoc, colsTo_none _ _ (h _ (by omega) (by omega))]; exact colsTo_gap ws a k fun c h1 h2 => h c h1 (by omega)

theorem mem_colsTo {ws : List Nat} {n c : Nat} : c ∈ colsTo ws n ↔ c < n ∧ bitW ws c = true := by
  unfold colsTo; rw [List.mem_filter, List.mem_range]
theorem mem_colsOf {ws : List Nat} {c : Nat} : c ∈ colsOf ws ↔ bitW ws c = true := by
  unfold colsOf; rw [mem_colsTo]
  refine ⟨fun h => h.2, fun h => ⟨?_, h⟩⟩
  apply Nat.lt_of_not_le
  intro hn
  rw [bitW_out _ _ hn] at h
  cases h

theorem colsTo_pairwise (ws : List Nat) (n : Nat) : (colsTo ws n).Pairwise (· < ·) := List.Pairwise.filter _ List.pairwise_lt_range
theorem colsTo_nodup (ws : List Nat) (n : Nat) : (colsTo ws n).Nodup := (colsTo_pairwise ws n).imp fun h => Nat.ne_of_lt h

/-! ### how many -/
theorem colsTo_word (ws : List Nat) (i : Nat) : (colsTo ws (64 * (i + 1))).length = (colsTo ws (64 * i)).length + pop (ws.getD i 0) := by
  unfold colsTo pop
  rw [show 64 * (i + 1) = 64 * i + 64 by omega, List.range_add, List.filter_append, List.length_append, List.filter_map, List.length_map, ← popN_filter]
  congr 2
  apply List.filter_congr
  intro b hb
  rw [List.mem_range] at hb
  have := bitW_at ws i b hb
  rw [Nat.mul_comm i 64] at this
  exact this

theorem colsTo_length_le (ws : List Nat) (n : Nat) : (colsTo ws n).length ≤ n := by
  unfold colsTo
  exact Nat.le_trans (List.length_filter_le _ _) (by simp)
theorem colsOf_length_le (ws : List Nat) : (colsOf ws).length ≤ 64 * ws.length := colsTo_length_le _ _

/-! ### the least one -/
def firstCol (ws : List Nat) : Int := ((colsOf ws).head?.map Int.ofNat).getD (-1)

theorem testBit_ctz (x : Nat) (h0 : x ≠ 0) (hx : x < 18446744073709551616) : Lib.ctz 64 x < 64 ∧ x.testBit (Lib.ctz 64 x) = true ∧ ∀ j, j < Lib.ctz 64 x → x.testBit j = false := by
  unfold Lib.ctz
  rw [if_neg h0]
  obtain ⟨m, hm, hk⟩ := Lib.ctzFrom_spec 64 x (by omega) hx
  generalize Lib.ctzFrom 64 x = k at *
  refine ⟨hk, ?_, fun j hj => ?_⟩
  · have e := Nat.testBit_two_pow_mul (a := 2 * m + 1) (i := k) (j := k)
    rw [← hm] at e
    rw [e]; simp
  · have e := Nat.testBit_two_pow_mul (a := 2 * m + 1) (i := k) (j := j)
    rw [← hm] at e
    rw [e]
    have : ¬ k ≤ j := by omega
    simp [this]

theorem firstCol_none (ws : List Nat) (h : ∀ i, i < ws.length → ws.getD i 0 = 0) : firstCol ws = -1 := by
  have e : colsOf ws = [] := by
    apply List.eq_nil_iff_forall_not_mem.2
    intro c hc
    rw [mem_colsOf] at hc
    unfold bitW at hc
    by_cases hi : c / 64 < ws.length
    · rw [h _ hi] at hc; simp at hc
    · rw [List.getD_eq_getElem?_getD, List.getElem?_eq_none (by omega)] at hc; simp at hc
  rw [firstCol, e]; rfl

theorem firstCol_some (ws : List Nat) (i : Nat) (hi : i < ws.length) (hw : Word ws) (h : ∀ j, j < i → ws.getD j 0 = 0) (h0 : ws.getD i 0 ≠ 0) : firstCol ws = ((i * 64 + Lib.ctz 64 (ws.getD i 0) : Nat) : Int) := by
  obtain ⟨hk, h1, h2⟩ := testBit_ctz _ h0 (hw.getD i)
  generalize Lib.ctz 64 (ws.getD i 0) = k at *
  have e : (colsOf ws).head? = some (i * 64 + k) := by
    unfold colsOf colsTo
    rw [List.head?_filter, List.find?_range_eq_some]
    refine ⟨by rw [bitW_at _ _ _ hk]; exact h1, by rw [List.mem_range]; omega, fun j hj => ?_⟩
    by_cases hji : j / 64 < i
    · have := h _ hji
      simp only [bitW, this]; simp
    · have ej : j = i * 64 + (j - i * 64) := by omega
      rw [ej, bitW_at _ _ _ (by omega), h2 _ (by omega)]; rfl
  rw [firstCol, e]; rfl

/-! ### the length of a word -/
theorem bitLenAux_lt : ∀ (f x : Nat), x < 2 ^ f → x < 2 ^ Lib.bitLenAux f x ∧ Lib.bitLenAux f x ≤ f
  | 0, x, h => by simpa [Lib.bitLenAux] using h
  | f + 1, x, h => by
    unfold Lib.bitLenAux
    by_cases h0 : x = 0
    · simp [h0]
    · obtain ⟨h1, h2⟩ := bitLenAux_lt f (x / 2) (by rw [Nat.pow_succ] at h; omega)
      rw [if_neg h0, Nat.add_comm 1, Nat.pow_succ]
      omega
theorem bitLen_lt (x : Nat) (hx : x < 18446744073709551616) : Lib.bitLen x ≤ 64 ∧ ∀ b, Lib.bitLen x ≤ b → x.testBit b = false := by
  obtain ⟨h1, h2⟩ := bitLenAux_lt 64 x hx
  refine ⟨h2, fun b hb => Nat.testBit_lt_two_pow (Nat.lt_of_lt_of_le h1 (Nat.pow_le_pow_right (by decide) hb))⟩

/-! ### exclusive or; both -/
def xorW (as bs : List Nat) : List Nat := List.zipWith (· ^^^ ·) as bs
def andW (as bs : List Nat) : List Nat := List.zipWith (· &&& ·) as bs
theorem xorW_length {as bs : List Nat} (h : as.length = bs.length) : (xorW as bs).length = as.length := by simp [xorW, h]
theorem andW_length {as bs : List Nat} (h : as.length = bs.length) : (andW as bs).length = as.length := by simp [andW, h]
theorem xorW_getD {as bs : List Nat} (h : as.length = bs.length) (i : Nat) : (xorW as bs).getD i 0 = as.getD i 0 ^^^ bs.getD i 0 := by
  simp only [xorW, List.getD_eq_getElem?_getD]
  by_cases hi : i < as.length
  · simp [List.getElem?_zipWith, hi, h ▸ hi]
  · simp [List.getElem?_zipWith, List.getElem?_eq_none (show as.length ≤ i by omega), List.getElem?_eq_none (show bs.length ≤ i by omega)]
theorem andW_getD {as bs : List Nat} (h : as.length = bs.length) (i : Nat) : (andW as bs).getD i 0 = as.getD i 0 &&& bs.getD i 0 := by
  simp only [andW, List.getD_eq_getElem?_getD]
  by_cases hi : i < as.length
  · simp [List.getElem?_zipWith, hi, h ▸ hi]
  · simp [List.getElem?_zipWith, List.getElem?_eq_none (show as.length ≤ i by omega), List.getElem?_eq_none (show bs.length ≤ i by omega)]
theorem bitW_xor {as bs : List Nat} (h : as.length = bs.length) (c : Nat) : bitW (xorW as bs) c = (bitW as c ^^ bitW bs c) := by
  unfold bitW; rw [xorW_getD h, Nat.testBit_xor]
theorem bitW_and {as bs : List Nat} (h : as.length = bs.length) (c : Nat) : bitW (andW as bs) c = (bitW as c && bitW bs c) := by
  unfold bitW; rw [andW_getD h, Nat.testBit_and]
theorem Word.xor {as bs : List Nat} (ha : Word as) (hb : Word bs) : Word (xorW as bs) := by
  intro x hx
  obtain ⟨i, hi, rfl⟩ := List.getElem_of_mem hx
  simp only [xorW, List.getElem_zipWith]
  exact Nat.xor_lt_two_pow (n := 64) (ha _ (List.getElem_mem _)) (hb _ (List.getElem_mem _))
theorem xorW_comm (as bs : List Nat) : xorW as bs = xorW bs as := by
  unfold xorW; rw [List.zipWith_comm]; simp [Nat.xor_comm]
theorem xorW_assoc : ∀ (as bs cs : List Nat), xorW (xorW as bs) cs = xorW as (xorW bs cs)
  | [], _, _ => by simp [xorW]
  | _ :: _, [], _ => by simp [xorW]
  | _ :: _, _ :: _, [] => by simp [xorW]
  | a :: as, b :: bs, c :: cs => by
    have := xorW_assoc as bs cs
    simp only [xorW, List.zipWith_cons_cons, Nat.xor_assoc, List.cons.injEq, true_and] at *
    exact this
theorem colsOf_self (as : List Nat) : colsOf (xorW as as) = [] := by
  apply List.eq_nil_iff_forall_not_mem.2
  intro c hc
  rw [mem_colsOf, bitW_xor rfl] at hc
  simp at hc

/-- Is the number of columns that are 1 in both odd? -/
def oddW (as bs : List Nat) : Bool := (colsOf (andW as bs)).length % 2 == 1

theorem filter_xor_parity {α : Type} (p q : α → Bool) : ∀ l : List α, (l.filter (fun x => p x ^^ q x)).length % 2 = ((l.filter p).length + (l.filter q).length) % 2
  | [] => rfl
  | x :: l => by
    have ih := filter_xor_parity p q l
    simp only [List.filter_cons]
    cases p x <;> cases q x <;> simp <;> omega

theorem oddW_xor {as bs cs : List Nat} (h1 : as.length = bs.length) (h2 : bs.length = cs.length) : oddW (xorW as bs) cs = (oddW as cs != oddW bs cs) := by
  have hx : (xorW as bs).length = cs.length := by rw [xorW_length h1]; omega
  have e : (colsOf (andW (xorW as bs) cs)).length % 2 = ((colsOf (andW as cs)).length + (colsOf (andW bs cs)).length) % 2 := by
    unfold colsOf colsTo
    rw [andW_length hx, andW_length (h1.trans h2), andW_length h2, xorW_length h1, ← h1, ← filter_xor_parity]
    congr 2
    apply List.filter_congr
    intro c _
    rw [bitW_and hx, bitW_xor h1, bitW_and (h1.trans h2), bitW_and h2]
    cases bitW as c <;> cases bitW bs c <;> cases bitW cs c <;> rfl
  unfold oddW
  rw [e]
  generalize (colsOf (andW as cs)).length = m
  generalize (colsOf (andW bs cs)).length = n
  have h1 := Nat.mod_two_eq_zero_or_one m
  have h2 := Nat.mod_two_eq_zero_or_one n
  rw [Nat.add_mod]
  rcases h1 with h1 | h1 <;> rcases h2 with h2 | h2 <;> rw [h1, h2] <;> rfl

theorem pop_xor (x y : Nat) : pop (x ^^^ y) % 2 = (pop x + pop y) % 2 := by
  unfold pop
  rw [← popN_filter, ← popN_filter, ← popN_filter, ← filter_xor_parity]
  congr 2
  apply List.filter_congr
  intro i _
  rw [Nat.testBit_xor]

/-- The columns of the exclusive or, as the document's own function tells them. -/
theorem colsOf_xor {as bs : List Nat} (h : as.length = bs.length) : colsOf (xorW as bs) = (List.range (64 * as.length)).filter (fun c => decide (c ∈ colsOf as) != decide (c ∈ colsOf bs)) := by
  unfold colsOf
  rw [xorW_length h]
  unfold colsTo
  apply List.filter_congr
  intro c _
  rw [bitW_xor h]
  have e1 : decide (c ∈ colsOf as) = bitW as c := by simp [mem_colsOf]
  have e2 : decide (c ∈ colsOf bs) = bitW bs c := by simp [mem_colsOf]
  unfold colsOf colsTo at e1 e2
  rw [e1, e2]

theorem both_length {as bs : List Nat} (h : as.length = bs.length) : ((colsOf as).filter (fun c => decide (c ∈ colsOf bs))).length = (colsOf (andW as bs)).length := by
  have e1 : (fun c => decide (c ∈ colsOf bs)) = bitW bs := by funext c; simp [mem_colsOf]
  rw [e1]
  unfold colsOf
  rw [andW_length h]
  unfold colsTo
  rw [List.filter_filter]
  congr 1
  apply List.filter_congr
  intro c _
  rw [bitW_and h, Bool.and_comm]

/-! ### what is packed -/
/-- Words that hold just the columns of a set below 64 k. -/
def Packs (ws : List Nat) (k : Nat) (p : Nat → Bool) : Prop := ws.length = k ∧ Word ws ∧ ∀ c, c < 64 * k → bitW ws c = p c

theorem Packs.unique {ws vs : List Nat} {k : Nat} {p : Nat → Bool} (h1 : Packs ws k p) (h2 : Packs vs k p) : ws = vs := by
  obtain ⟨l1, w1, b1⟩ := h1
  obtain ⟨l2, w2, b2⟩ := h2
  apply List.ext_getElem (by omega)
  intro i hi1 hi2
  have g1 : ws.getD i 0 = ws[i] := by simp [List.getD_eq_getElem?_getD, hi1]
  have g2 : vs.getD i 0 = vs[i] := by simp [List.getD_eq_getElem?_getD, hi2]
  apply Nat.eq_of_testBit_eq
  intro b
  by_cases hb : b < 64
  · have a1 := bitW_at ws i b hb
    have a2 := bitW_at vs i b hb
    rw [g1] at a1
    rw [g2] at a2
    rw [← a1, ← a2, b1 _ (by omega), b2 _ (by omega)]
  · rw [Nat.testBit_lt_two_pow (Nat.lt_of_lt_of_le (w1 _ (List.getElem_mem hi1)) (Nat.pow_le_pow_right (n := 2) (by decide) (show 64 ≤ b by omega))),
      Nat.testBit_lt_two_pow (Nat.lt_of_lt_of_le (w2 _ (List.getElem_mem hi2)) (Nat.pow_le_pow_right (n := 2) (by decide) (show 64 ≤ b by omega)))]

theorem Packs.zero (k : Nat) : Packs (List.replicate k 0) k (fun _ => false) := by
  refine ⟨by simp, fun x hx => by rw [List.mem_replicate] at hx; omega, fun c _ => ?_⟩
  unfold bitW
  have : (List.replicate k 0).getD (c / 64) 0 = 0 := by
    rw [List.getD_eq_getElem?_getD, List.getElem?_replicate]
    split <;> rfl
  rw [this]; simp

theorem Packs.set {ws : List Nat} {k : Nat} {p : Nat → Bool} (h : Packs ws k p) (c : Nat) (hc : c < 64 * k) :
    Packs (ws.set (c / 64) (ws.getD (c / 64) 0 ||| 2 ^ (c % 64))) k (fun d => p d || d == c) := by
  obtain ⟨l, w, b⟩ := h
  have hp : 2 ^ (c % 64) < 18446744073709551616 := by
    have : 2 ^ (c % 64) ≤ 2 ^ 63 := Nat.pow_le_pow_right (by decide) (by omega)
    omega
  refine ⟨by simpa using l, fun x hx => ?_, fun d hd => ?_⟩
  · rcases List.mem_or_eq_of_mem_set hx with hx | rfl
    · exact w x hx
    · exact Nat.or_lt_two_pow (n := 64) (w.getD _) hp
  · have hbd := b d hd
    unfold bitW at hbd ⊢
    simp only [List.getD_eq_getElem?_getD, List.getElem?_set] at hbd ⊢
    by_cases hq : c / 64 = d / 64
    · rw [if_pos hq, if_pos (by omega)]
      simp only [Option.getD_some, Nat.testBit_or, Nat.testBit_two_pow]
      rw [hq, hbd]
      by_cases he : d = c
      · subst he; simp
      · have : ¬ c % 64 = d % 64 := by omega
        simp [this, he]
    · rw [if_neg hq, hbd]
      have : ¬ d = c := by intro e; subst e; exact hq rfl
      simp [this]

theorem Packs.congr {ws : List Nat} {k : Nat} {p q : Nat → Bool} (h : Packs ws k p) (e : ∀ c, c < 64 * k → p c = q c) : Packs ws k q :=
  ⟨h.1, h.2.1, fun c hc => (h.2.2 c hc).trans (e c hc)⟩

/-- A word that is built bit by bit from the highest one on. -/
def bitsDown (p : Nat → Bool) (i : Nat) : Nat → Nat
  | 0 => 0
  | n + 1 => 2 * bitsDown p i n + (p (64 * i + (63 - n))).toNat

theorem bitsDown_spec (p : Nat → Bool) (i : Nat) : ∀ n, n ≤ 64 → bitsDown p i n < 2 ^ n ∧ ∀ b, b < n → (bitsDown p i n).testBit b = p (64 * i + (64 - n + b))
  | 0, _ => ⟨by simp [bitsDown], fun b hb => by omega⟩
  | n + 1, hn => by
    obtain ⟨h1, h2⟩ := bitsDown_spec p i n (by omega)
    have ht : (p (64 * i + (63 - n))).toNat ≤ 1 := Bool.toNat_le _
    refine ⟨by rw [Nat.pow_succ, bitsDown]; omega, fun b hb => ?_⟩
    rw [bitsDown]
    cases b with
    | zero =>
      rw [Nat.testBit_zero, show 64 - (n + 1) + 0 = 63 - n by omega]
      cases p (64 * i + (63 - n)) <;> simp <;> omega
    | succ b =>
      rw [Nat.testBit_succ, show (2 * bitsDown p i n + (p (64 * i + (63 - n))).toNat) / 2 = bitsDown p i n by omega, h2 b (by omega)]
      congr 1
      omega

theorem Packs.map (p : Nat → Bool) (k : Nat) : Packs ((List.range k).map fun i => bitsDown p i 64) k p := by
  refine ⟨by simp, fun x hx => ?_, fun c hc => ?_⟩
  · obtain ⟨i, _, rfl⟩ := List.mem_map.1 hx
    exact (bitsDown_spec p i 64 (Nat.le_refl _)).1
  · unfold bitW
    have : ((List.range k).map fun i => bitsDown p i 64).getD (c / 64) 0 = bitsDown p (c / 64) 64 := by
      rw [List.getD_eq_getElem?_getD, List.getElem?_map, List.getElem?_range (by omega)]; rfl
    rw [this, (bitsDown_spec p (c / 64) 64 (Nat.le_refl _)).2 _ (by omega)]
    congr 1
    omega

end Go.Proofs.YtkhdjjcflbdegaaGreatDoor
end

section
/- Rows over two elements, no program: sums, what rows span, least columns; families of unlike least columns and ranks; the plain form is one. -/
namespace Go.Proofs.YtkhdjjcflbdegaaGreatDoor

abbrev Vec := Nat → Bool
def vadd (x y : Vec) : Vec := fun c => x c ^^ y c
def vzero : Vec := fun _ => false

theorem vadd_comm (x y : Vec) : vadd x y = vadd y x := by funext c; simp only [vadd]; cases x c <;> cases y c <;> rfl
theorem vadd_assoc (x y z : Vec) : vadd (vadd x y) z = vadd x (vadd y z) := by funext c; simp only [vadd]; cases x c <;> cases y c <;> cases z c <;> rfl
theorem vadd_right (x y z : Vec) : vadd (vadd x y) z = vadd (vadd x z) y := by funext c; simp only [vadd]; cases x c <;> cases y c <;> cases z c <;> rfl
theorem vadd_four (x y r : Vec) : vadd (vadd x r) (vadd y r) = vadd x y := by funext c; simp only [vadd]; cases x c <;> cases y c <;> cases r c <;> rfl
theorem vadd_zero (x : Vec) : vadd x vzero = x := by funext c; simp only [vadd, vzero]; cases x c <;> rfl
theorem vadd_self (x : Vec) : vadd x x = vzero := by funext c; simp only [vadd, vzero]; cases x c <;> rfl
theorem vadd_vadd (x y : Vec) : vadd (vadd x y) y = x := by funext c; simp only [vadd]; cases x c <;> cases y c <;> rfl
theorem vadd_eq_zero {x y : Vec} (h : vadd x y = vzero) : x = y := by
  have := congrArg (fun z => vadd z y) h
  simp only [vadd_vadd] at this
  rw [this, vadd_comm, vadd_zero]

structure Clo (S : Vec → Prop) : Prop where
  zero : S vzero
  add : ∀ x y, S x → S y → S (vadd x y)

/-- What a list of rows spans. -/
def Sp (l : List Vec) (x : Vec) : Prop := ∀ S : Vec → Prop, Clo S → (∀ r ∈ l, S r) → S x
theorem Sp.clo (l : List Vec) : Clo (Sp l) := ⟨fun _ h _ => h.zero, fun _ _ hx hy S h hl => h.add _ _ (hx S h hl) (hy S h hl)⟩
theorem Sp.zero (l : List Vec) : Sp l vzero := (Sp.clo l).zero
theorem Sp.add {l : List Vec} {x y : Vec} (hx : Sp l x) (hy : Sp l y) : Sp l (vadd x y) := (Sp.clo l).add _ _ hx hy
theorem Sp.mem {l : List Vec} {r : Vec} (h : r ∈ l) : Sp l r := fun _ _ hl => hl r h
theorem Sp.le {l m : List Vec} {x : Vec} (h : ∀ r ∈ l, Sp m r) (hx : Sp l x) : Sp m x := hx _ (Sp.clo m) h
theorem Sp.sub {l m : List Vec} {x : Vec} (h : ∀ r ∈ l, r ∈ m) (hx : Sp l x) : Sp m x := hx.le fun r hr => .mem (h r hr)
theorem Sp.of_add {l : List Vec} {x y : Vec} (h : Sp l (vadd x y)) (hy : Sp l y) : Sp l x := by
  have := h.add hy
  rwa [vadd_vadd] at this
theorem Sp.low {l : List Vec} {x : Vec} {c : Nat} (h : ∀ r ∈ l, r c = false) (hx : Sp l x) : x c = false :=
  hx (fun y => y c = false) ⟨rfl, fun x y h1 h2 => by simp only [vadd, h1, h2]; rfl⟩ h

def SpEq (l m : List Vec) : Prop := ∀ x, Sp l x ↔ Sp m x
theorem SpEq.of {l m : List Vec} (h1 : ∀ r ∈ l, Sp m r) (h2 : ∀ r ∈ m, Sp l r) : SpEq l m := fun _ => ⟨fun h => h.le h1, fun h => h.le h2⟩
theorem SpEq.refl (l : List Vec) : SpEq l l := fun _ => Iff.rfl
theorem SpEq.symm {l m : List Vec} (h : SpEq l m) : SpEq m l := fun x => (h x).symm
theorem SpEq.trans {l m k : List Vec} (h : SpEq l m) (h2 : SpEq m k) : SpEq l k := fun x => (h x).trans (h2 x)
theorem SpEq.of_mem {l m : List Vec} (h : ∀ r, r ∈ l ↔ r ∈ m) : SpEq l m := .of (fun r hr => .mem ((h r).1 hr)) (fun r hr => .mem ((h r).2 hr))
theorem SpEq.snoc {l m : List Vec} (h : SpEq l m) (r : Vec) : SpEq (l ++ [r]) (m ++ [r]) := .of
  (fun s hs => by
    rcases List.mem_append.1 hs with hs | hs
    · exact ((h s).1 (.mem hs)).sub fun t ht => List.mem_append.2 (.inl ht)
    · exact .mem (List.mem_append.2 (.inr hs)))
  (fun s hs => by
    rcases List.mem_append.1 hs with hs | hs
    · exact ((h s).2 (.mem hs)).sub fun t ht => List.mem_append.2 (.inl ht)
    · exact .mem (List.mem_append.2 (.inr hs)))
theorem SpEq.snoc_in {l : List Vec} {r : Vec} (h : Sp l r) : SpEq (l ++ [r]) l := .of
  (fun s hs => by
    rcases List.mem_append.1 hs with hs | hs
    · exact .mem hs
    · simp at hs; subst hs; exact h)
  (fun s hs => .mem (List.mem_append.2 (.inl hs)))

theorem Sp_nil {x : Vec} (h : Sp [] x) : x = vzero := h (· = vzero) ⟨rfl, by rintro _ _ rfl rfl; exact vadd_zero _⟩ (by simp)
theorem Sp_cons {r : Vec} {l : List Vec} {x : Vec} (h : Sp (r :: l) x) : Sp l x ∨ Sp l (vadd x r) := by
  refine h (fun x => Sp l x ∨ Sp l (vadd x r)) ⟨.inl (Sp.zero l), ?_⟩ ?_
  · rintro x y (hx | hx) (hy | hy)
    · exact .inl (hx.add hy)
    · right; rw [vadd_assoc]; exact hx.add hy
    · right; rw [vadd_right]; exact hx.add hy
    · left; have := hx.add hy; rwa [vadd_four] at this
  · intro s hs
    rcases List.mem_cons.1 hs with rfl | hs
    · right; rw [vadd_self]; exact Sp.zero l
    · exact .inl (.mem hs)

/-! ### least columns -/
def Lead (x : Vec) (c : Nat) : Prop := x c = true ∧ ∀ d, d < c → x d = false
theorem Lead.unique {x : Vec} {c d : Nat} (h : Lead x c) (k : Lead x d) : c = d := by
  rcases Nat.lt_trichotomy c d with h1 | h1 | h1
  · have := k.2 _ h1; rw [h.1] at this; cases this
  · exact h1
  · have := h.2 _ h1; rw [k.1] at this; cases this
theorem Lead.ne {x : Vec} {c : Nat} (h : Lead x c) : x ≠ vzero := by
  rintro rfl; cases h.1
theorem Lead.add_lt {x y : Vec} {c d : Nat} (hx : Lead x c) (hy : Lead y d) (h : c < d) : Lead (vadd x y) c :=
  ⟨by simp only [vadd, hx.1, hy.2 _ h]; rfl, fun e he => by simp only [vadd, hx.2 _ he, hy.2 _ (Nat.lt_trans he h)]; rfl⟩
theorem lead_or_zero (x : Vec) : x = vzero ∨ ∃ c, Lead x c := by
  by_cases h : ∃ c, Lead x c
  · exact .inr h
  · left
    have : ∀ n, ∀ c, c < n → x c = false := by
      intro n
      induction n with
      | zero => intro c hc; omega
      | succ n ih =>
        intro c hc
        by_cases e : c = n
        · subst e
          cases hx : x c with
          | false => rfl
          | true => exact absurd ⟨c, hx, ih⟩ h
        · exact ih c (by omega)
    funext c
    exact this (c + 1) c (by omega)

def Ech (l : List Vec) : Prop := (∀ r ∈ l, ∃ c, Lead r c) ∧ l.Pairwise (fun r s => ∀ c, Lead r c → ¬ Lead s c)

theorem ech_lead {l : List Vec} (h : Ech l) : ∀ x, Sp l x → x = vzero ∨ ∃ r ∈ l, ∃ c, Lead r c ∧ Lead x c := by
  induction l with
  | nil => intro x hx; exact .inl (Sp_nil hx)
  | cons r l ih =>
    intro x hx
    obtain ⟨h1, h2⟩ := h
    have ih' := ih ⟨fun s hs => h1 s (List.mem_cons_of_mem _ hs), (List.pairwise_cons.1 h2).2⟩
    rcases Sp_cons hx with hx | hx
    · rcases ih' x hx with e | ⟨s, hs, c, hc⟩
      · exact .inl e
      · exact .inr ⟨s, List.mem_cons_of_mem _ hs, c, hc⟩
    · obtain ⟨c, hc⟩ := h1 r (by simp)
      right
      rcases ih' _ hx with e | ⟨s, hs, d, hd, hxd⟩
      · have := vadd_eq_zero e
        subst this
        exact ⟨x, by simp, c, hc, hc⟩
      · have hne : c ≠ d := fun e => (List.pairwise_cons.1 h2).1 s hs c hc (e ▸ hd)
        have ex : x = vadd (vadd x r) r := (vadd_vadd x r).symm
        rcases Nat.lt_or_gt_of_ne hne with hl | hl
        · refine ⟨r, by simp, c, hc, ?_⟩
          rw [ex, vadd_comm]
          exact hc.add_lt hxd hl
        · refine ⟨s, List.mem_cons_of_mem _ hs, d, hd, ?_⟩
          rw [ex]
          exact hxd.add_lt hc hl

theorem inj_len {α β : Type} (R : α → β → Prop) : ∀ (l : List α) (m : List β), (∀ r ∈ l, ∃ s ∈ m, R r s) → l.Pairwise (fun r r' => ∀ s, R r s → ¬ R r' s) → l.length ≤ m.length
  | [], _, _, _ => Nat.zero_le _
  | r :: l, m, h, hp => by
    obtain ⟨s, hs, hr⟩ := h r (by simp)
    obtain ⟨m1, m2, rfl⟩ := List.append_of_mem hs
    have := inj_len R l (m1 ++ m2) (fun r' hr' => by
      obtain ⟨s', hs', hr2⟩ := h r' (List.mem_cons_of_mem _ hr')
      refine ⟨s', ?_, hr2⟩
      have hne : s' ≠ s := fun e => (List.pairwise_cons.1 hp).1 r' hr' s hr (e ▸ hr2)
      simp only [List.mem_append, List.mem_cons] at hs' ⊢
      rcases hs' with h1 | h1 | h1
      · exact .inl h1
      · exact absurd h1 hne
      · exact .inr h1) (List.pairwise_cons.1 hp).2
    simp only [List.length_append, List.length_cons] at this ⊢
    omega

theorem ech_le {l m : List Vec} (hl : Ech l) (hm : Ech m) (h : ∀ r ∈ l, Sp m r) : l.length ≤ m.length := by
  refine inj_len (fun r s => ∃ c, Lead r c ∧ Lead s c) l m ?_ (hl.2.imp ?_)
  · intro r hr
    obtain ⟨c, hc⟩ := hl.1 r hr
    rcases ech_lead hm r (h r hr) with e | ⟨s, hs, d, hd, hrd⟩
    · exact absurd e hc.ne
    · exact ⟨s, hs, d, hrd, hd⟩
  · rintro r r' hrr s ⟨c, h1, h2⟩ ⟨d, h3, h4⟩
    have := h2.unique h4
    subst this
    exact hrr _ h1 h3

theorem ech_length {l m : List Vec} (hl : Ech l) (hm : Ech m) (h : SpEq l m) : l.length = m.length :=
  Nat.le_antisymm (ech_le hl hm fun r hr => (h r).1 (.mem hr)) (ech_le hm hl fun r hr => (h r).2 (.mem hr))

theorem ech_snoc {m : List Vec} {x : Vec} {c : Nat} (hm : Ech m) (hx : Lead x c) (h : ∀ s ∈ m, ¬ Lead s c) : Ech (m ++ [x]) := by
  refine ⟨fun r hr => ?_, List.pairwise_append.2 ⟨hm.2, by simp, fun r hr s hs => ?_⟩⟩
  · rcases List.mem_append.1 hr with hr | hr
    · exact hm.1 r hr
    · simp at hr; subst hr; exact ⟨c, hx⟩
  · simp at hs
    subst hs
    intro d hd hxd
    have := hx.unique hxd
    subst this
    exact h r hr hd

/-- A row that no stair takes further down hangs on nothing. -/
theorem ech_new {m : List Vec} {x : Vec} {c : Nat} (hm : Ech m) (hx : Lead x c) (h : ∀ s ∈ m, ¬ Lead s c) : ¬ Sp m x := by
  intro hs
  rcases ech_lead hm x hs with e | ⟨s, hs, d, hd, hxd⟩
  · exact hx.ne e
  · have := hx.unique hxd
    subst this
    exact h s hs hd

/-! ### ranks -/
theorem reduce (m : List Vec) (r : Vec) : ∀ k, ∃ x, Sp m (vadd x r) ∧ ∀ c, c < k → Lead x c → ∀ s ∈ m, ¬ Lead s c := by
  intro k
  induction k with
  | zero => exact ⟨r, by rw [vadd_self]; exact Sp.zero m, fun c hc => by omega⟩
  | succ k ih =>
    obtain ⟨x, hx, hk⟩ := ih
    by_cases h : Lead x k ∧ ∃ s ∈ m, Lead s k
    · obtain ⟨h1, s, hs, h2⟩ := h
      refine ⟨vadd x s, by rw [vadd_right]; exact hx.add (.mem hs), fun c hc hl => ?_⟩
      have : vadd x s c = false := by
        by_cases e : c = k
        · subst e; simp only [vadd, h1.1, h2.1]; rfl
        · simp only [vadd, h1.2 c (by omega), h2.2 c (by omega)]; rfl
      rw [hl.1] at this
      cases this
    · refine ⟨x, hx, fun c hc hl s hs hsl => ?_⟩
      by_cases e : c = k
      · subst e; exact h ⟨hl, s, hs, hsl⟩
      · exact hk c (by omega) hl s hs hsl

theorem bound_leads : ∀ m : List Vec, ∃ N, ∀ s ∈ m, ∀ c, Lead s c → c < N
  | [] => ⟨0, by simp⟩
  | s :: m => by
    obtain ⟨N, hN⟩ := bound_leads m
    by_cases h : ∃ c, Lead s c
    · obtain ⟨c, hc⟩ := h
      refine ⟨N + c + 1, fun t ht d hd => ?_⟩
      rcases List.mem_cons.1 ht with rfl | ht
      · have := hc.unique hd; omega
      · have := hN t ht d hd; omega
    · refine ⟨N, fun t ht d hd => ?_⟩
      rcases List.mem_cons.1 ht with rfl | ht
      · exact absurd ⟨d, hd⟩ h
      · exact hN t ht d hd

theorem ech_exists : ∀ l : List Vec, ∃ m, Ech m ∧ SpEq m l ∧ m.length ≤ l.length
  | [] => ⟨[], ⟨by simp, by simp⟩, SpEq.refl _, Nat.le_refl _⟩
  | r :: l => by
    obtain ⟨m, hm, he, hl⟩ := ech_exists l
    obtain ⟨N, hN⟩ := bound_leads m
    obtain ⟨x, hx, hk⟩ := reduce m r N
    have hmem : ∀ s ∈ m, Sp (r :: l) s := fun s hs => ((he s).1 (.mem hs)).sub fun t ht => List.mem_cons_of_mem _ ht
    rcases lead_or_zero x with rfl | ⟨c, hc⟩
    · have hr : Sp m r := by rw [vadd_comm, vadd_zero] at hx; exact hx
      refine ⟨m, hm, .of hmem (fun s hs => ?_), by simp; omega⟩
      rcases List.mem_cons.1 hs with rfl | hs
      · exact hr
      · exact (he s).2 (.mem hs)
    · have hn : ∀ s ∈ m, ¬ Lead s c := fun s hs hsc => hk c (hN s hs c hsc) hc s hs hsc
      refine ⟨m ++ [x], ech_snoc hm hc hn, .of (fun s hs => ?_) (fun s hs => ?_), by simp; omega⟩
      · rcases List.mem_append.1 hs with hs | hs
        · exact hmem s hs
        · simp at hs
          subst hs
          exact (hx.le hmem).of_add (.mem (by simp))
      · rcases List.mem_cons.1 hs with rfl | hs
        · have h1 : Sp (m ++ [x]) (vadd x s) := hx.sub fun t ht => List.mem_append.2 (.inl ht)
          rw [vadd_comm] at h1
          exact h1.of_add (.mem (by simp))
        · exact ((he s).2 (.mem hs)).sub fun t ht => List.mem_append.2 (.inl ht)

noncomputable def rk (l : List Vec) : Nat := (Classical.choose (ech_exists l)).length
theorem rk_eq {l m : List Vec} (hm : Ech m) (h : SpEq m l) : m.length = rk l := by
  obtain ⟨h1, h2, _⟩ := Classical.choose_spec (ech_exists l)
  exact ech_length hm h1 (h.trans h2.symm)
theorem rk_congr {l m : List Vec} (h : SpEq l m) : rk l = rk m := by
  obtain ⟨h1, h2, _⟩ := Classical.choose_spec (ech_exists l)
  exact rk_eq h1 (h2.trans h)
theorem rk_le_length (l : List Vec) : rk l ≤ l.length := (Classical.choose_spec (ech_exists l)).2.2
theorem rk_in {l : List Vec} {r : Vec} (h : Sp l r) : rk (l ++ [r]) = rk l := rk_congr (.snoc_in h)
theorem rk_out {l : List Vec} {r : Vec} (h : ¬ Sp l r) : rk (l ++ [r]) = rk l + 1 := by
  obtain ⟨m, hm, he, -⟩ := ech_exists l
  obtain ⟨N, hN⟩ := bound_leads m
  obtain ⟨x, hx, hk⟩ := reduce m r N
  have hz : x ≠ vzero := by
    rintro rfl
    rw [vadd_comm, vadd_zero] at hx
    exact h ((he r).1 hx)
  rcases lead_or_zero x with e | ⟨c, hc⟩
  · exact absurd e hz
  · have hn : ∀ s ∈ m, ¬ Lead s c := fun s hs hsc => hk c (hN s hs c hsc) hc s hs hsc
    have h2 : SpEq (m ++ [x]) (l ++ [r]) := by
      refine SpEq.trans ?_ (he.snoc r)
      refine .of (fun s hs => ?_) (fun s hs => ?_)
      · rcases List.mem_append.1 hs with hs | hs
        · exact .mem (List.mem_append.2 (.inl hs))
        · simp at hs
          subst hs
          have h1 : Sp (m ++ [r]) (vadd s r) := hx.sub fun t ht => List.mem_append.2 (.inl ht)
          exact h1.of_add (.mem (by simp))
      · rcases List.mem_append.1 hs with hs | hs
        · exact .mem (List.mem_append.2 (.inl hs))
        · simp at hs
          subst hs
          have h1 : Sp (m ++ [x]) (vadd x s) := hx.sub fun t ht => List.mem_append.2 (.inl ht)
          rw [vadd_comm] at h1
          exact h1.of_add (.mem (by simp))
    have e1 := rk_eq (ech_snoc hm hc hn) h2
    have e2 := rk_eq hm he
    simp at e1
    omega
theorem rk_le_cols {l : List Vec} {n : Nat} (h : ∀ r ∈ l, ∀ c, n ≤ c → r c = false) : rk l ≤ n := by
  obtain ⟨m, hm, he, -⟩ := ech_exists l
  rw [← rk_eq hm he]
  have := inj_len (fun (r : Vec) (c : Nat) => Lead r c) m (List.range n) (fun r hr => by
    obtain ⟨c, hc⟩ := hm.1 r hr
    refine ⟨c, ?_, hc⟩
    rw [List.mem_range]
    apply Nat.lt_of_not_le
    intro hn
    have := Sp.low (fun s hs => h s hs c hn) ((he r).1 (.mem hr))
    rw [hc.1] at this
    cases this) (hm.2.imp fun h c => h c)
  simpa using this

open Classical in
/-- The places below k of the rows that do not hang on those ahead of them. -/
noncomputable def picksTo (l : List Vec) (k : Nat) : List Nat := (List.range k).filter fun i => decide (¬ Sp (l.take i) (l.getD i vzero))
theorem picksTo_in {l : List Vec} {k : Nat} (h : Sp (l.take k) (l.getD k vzero)) : picksTo l (k + 1) = picksTo l k := by
  unfold picksTo; rw [List.range_succ, List.filter_append]; simp only [List.filter_cons, List.filter_nil, not_true_eq_false, decide_false, h]; simp
theorem picksTo_out {l : List Vec} {k : Nat} (h : ¬ Sp (l.take k) (l.getD k vzero)) : picksTo l (k + 1) = picksTo l k ++ [k] := by
  unfold picksTo; rw [List.range_succ, List.filter_append]; simp only [List.filter_cons, List.filter_nil, not_false_eq_true, decide_true, h]; simp
theorem picksTo_le (l : List Vec) (k : Nat) : (picksTo l k).length ≤ k := by
  unfold picksTo; exact Nat.le_trans (List.length_filter_le _ _) (by simp)
theorem take_snoc {l : List Vec} {k : Nat} (h : k < l.length) : l.take (k + 1) = l.take k ++ [l.getD k vzero] := by
  rw [List.take_succ_eq_append_getElem h]
  simp [List.getD_eq_getElem?_getD, h]
theorem rk_take_in {l : List Vec} {k : Nat} (h : k < l.length) (hs : Sp (l.take k) (l.getD k vzero)) : rk (l.take (k + 1)) = rk (l.take k) := by rw [take_snoc h]; exact rk_in hs
theorem rk_take_out {l : List Vec} {k : Nat} (h : k < l.length) (hs : ¬ Sp (l.take k) (l.getD k vzero)) : rk (l.take (k + 1)) = rk (l.take k) + 1 := by rw [take_snoc h]; exact rk_out hs
theorem picksTo_length (l : List Vec) : ∀ k, k ≤ l.length → (picksTo l k).length = rk (l.take k)
  | 0, _ => by
    have := rk_le_length (l.take 0)
    simp at this
    simp [picksTo, this]
  | k + 1, hk => by
    have ih := picksTo_length l k (by omega)
    by_cases h : Sp (l.take k) (l.getD k vzero)
    · rw [picksTo_in h, rk_take_in (by omega) h, ih]
    · rw [picksTo_out h, rk_take_out (by omega) h, List.length_append, ih]; rfl

/-! ### the plain form -/
def PF (l : List Vec) : Prop := (∀ r ∈ l, ∃ c, Lead r c) ∧ l.Pairwise (fun r s => ∀ c d, Lead r c → Lead s d → c < d ∧ r d = false)
theorem PF.ech {l : List Vec} (h : PF l) : Ech l := by
  refine ⟨h.1, h.2.imp fun h c h1 h2 => ?_⟩
  have := (h c c h1 h2).1
  omega
theorem pairwise_cases {α : Type} {R : α → α → Prop} : ∀ {l : List α}, l.Pairwise R → ∀ r ∈ l, ∀ s ∈ l, r = s ∨ R r s ∨ R s r
  | [], _, _, hr, _, _ => by simp at hr
  | a :: l, h, r, hr, s, hs => by
    obtain ⟨h1, h2⟩ := List.pairwise_cons.1 h
    rcases List.mem_cons.1 hr with rfl | hr
    · rcases List.mem_cons.1 hs with rfl | hs
      · exact .inl rfl
      · exact .inr (.inl (h1 s hs))
    · rcases List.mem_cons.1 hs with e | hs
      · exact .inr (.inr (e ▸ h1 r hr))
      · exact pairwise_cases h2 r hr s hs
theorem PF.col {l : List Vec} (h : PF l) {r s : Vec} (hr : r ∈ l) (hs : s ∈ l) {c d : Nat} (h1 : Lead r c) (h2 : Lead s d) (hcd : c < d) : r d = false := by
  rcases pairwise_cases h.2 r hr s hs with rfl | h3 | h3
  · have := h1.unique h2; omega
  · exact (h3 c d h1 h2).2
  · have := (h3 d c h2 h1).1; omega

theorem sorted_eq {α : Type} {R : α → α → Prop} (irr : ∀ a, ¬ R a a) (asym : ∀ a b, R a b → ¬ R b a) : ∀ l m : List α, l.Pairwise R → m.Pairwise R → (∀ x, x ∈ l ↔ x ∈ m) → l = m
  | [], [], _, _, _ => rfl
  | [], b :: m, _, _, h => absurd ((h b).2 (by simp)) (by simp)
  | a :: l, [], _, _, h => absurd ((h a).1 (by simp)) (by simp)
  | a :: l, b :: m, hl, hm, h => by
    obtain ⟨l1, l2⟩ := List.pairwise_cons.1 hl
    obtain ⟨m1, m2⟩ := List.pairwise_cons.1 hm
    have e : a = b := by
      rcases List.mem_cons.1 ((h a).1 (by simp)) with e | h1
      · exact e
      · rcases List.mem_cons.1 ((h b).2 (by simp)) with e | h2
        · exact e.symm
        · exact absurd (l1 b h2) (asym _ _ (m1 a h1))
    subst e
    congr 1
    refine sorted_eq irr asym l m l2 m2 fun x => ⟨fun hx => ?_, fun hx => ?_⟩
    · rcases List.mem_cons.1 ((h x).1 (List.mem_cons_of_mem _ hx)) with e | h1
      · subst e; exact absurd (l1 x hx) (irr x)
      · exact h1
    · rcases List.mem_cons.1 ((h x).2 (List.mem_cons_of_mem _ hx)) with e | h1
      · subst e; exact absurd (m1 x hx) (irr x)
      · exact h1

theorem PF_mem {l m : List Vec} (hl : PF l) (hm : PF m) (h : SpEq l m) {r : Vec} (hr : r ∈ l) : r ∈ m := by
  obtain ⟨c, hc⟩ := hl.1 r hr
  rcases ech_lead hm.ech r ((h r).1 (.mem hr)) with e | ⟨s, hs, d, hd, hrd⟩
  · exact absurd e hc.ne
  · have := hc.unique hrd
    subst this
    have hsp : Sp m (vadd r s) := ((h r).1 (.mem hr)).add (.mem hs)
    rcases ech_lead hm.ech _ hsp with e | ⟨s', hs', d, hd', hx⟩
    · rw [vadd_eq_zero e]; exact hs
    · exfalso
      rcases ech_lead hl.ech _ ((h _).2 hsp) with e | ⟨r', hr', d', hd2, hx2⟩
      · exact hx.ne e
      · have := hx.unique hx2
        subst this
        have hcd : c < d := by
          apply Nat.lt_of_not_le
          intro hle
          have : vadd r s d = false := by
            by_cases e : d = c
            · subst e; simp only [vadd, hc.1, hd.1]; rfl
            · simp only [vadd, hc.2 d (by omega), hd.2 d (by omega)]; rfl
          rw [hx.1] at this
          cases this
        have : vadd r s d = false := by
          simp only [vadd, hl.col hr hr' hc hd2 hcd, hm.col hs hs' hd hd' hcd]; rfl
        rw [hx.1] at this
        cases this

theorem PF_unique {l m : List Vec} (hl : PF l) (hm : PF m) (h : SpEq l m) : l = m := by
  have key : ∀ {l : List Vec}, PF l → l.Pairwise (fun r s => ∃ c d, Lead r c ∧ Lead s d ∧ c < d) := fun {l} h => by
    refine List.Pairwise.imp_of_mem ?_ h.2
    intro r s hr hs hrs
    obtain ⟨c, hc⟩ := h.1 r hr
    obtain ⟨d, hd⟩ := h.1 s hs
    exact ⟨c, d, hc, hd, (hrs c d hc hd).1⟩
  refine sorted_eq ?_ ?_ l m (key hl) (key hm) fun x => ⟨PF_mem hl hm h, PF_mem hm hl h.symm⟩
  · rintro a ⟨c, d, h1, h2, h3⟩
    have := h1.unique h2
    omega
  · rintro a b ⟨c, d, h1, h2, h3⟩ ⟨c', d', h1', h2', h3'⟩
    have := h1.unique h2'
    have := h2.unique h1'
    omega

theorem PF.rank {l m : List Vec} (h : PF l) (he : SpEq l m) : l.length = rk m := rk_eq h.ech he

/-! ### rows in a triangle -/
theorem rk_tri {V : List Vec} (c : Nat → Nat) (h1 : ∀ i, i < V.length → V.getD i vzero (c i) = true) (h2 : ∀ i j, i < V.length → j < i → V.getD j vzero (c i) = false) : rk V = V.length := by
  have key : ∀ k, k ≤ V.length → rk (V.take k) = k := by
    intro k
    induction k with
    | zero =>
      intro _
      have := rk_le_length (V.take 0)
      simp at this
      simpa using this
    | succ k ih =>
      intro hk
      rw [rk_take_out (by omega) ?_, ih (by omega)]
      intro hs
      have h3 := hs.low (c := c k) fun r hr => by
        obtain ⟨j, hj, rfl⟩ := List.getElem_of_mem hr
        rw [List.length_take] at hj
        have h4 := h2 k j (by omega) (by omega)
        rw [List.getD_eq_getElem?_getD, List.getElem?_eq_getElem (by omega)] at h4
        simpa using h4
      rw [h1 k (by omega)] at h3
      cases h3
  have := key V.length (Nat.le_refl _)
  rwa [List.take_length] at this
end Go.Proofs.YtkhdjjcflbdegaaGreatDoor
end
