/- Bytes of which bits are turned, step by step; bytes that are some with their sum (pure). -/
import Derived.Test.YtmihpbdgilmdiaaJ10
namespace Go.Proofs.Ytmihpbdgilmdiaa

/-- bit at0 + i is turned, if the mask's bit i is 1 -/
def spoilS (at0 mask : Nat) (l : List Nat) (i : Nat) : List Nat :=
  if mask.testBit i = true then l.set ((at0 + i) / 8) (l.getD ((at0 + i) / 8) 0 ^^^ 2 ^ ((at0 + i) % 8)) else l
def spoilN (at0 mask : Nat) (l : List Nat) : Nat → List Nat
  | 0 => l
  | i + 1 => spoilS at0 mask (spoilN at0 mask l i) i

theorem spoilS_length (at0 mask : Nat) (l : List Nat) (i : Nat) : (spoilS at0 mask l i).length = l.length := by
  unfold spoilS
  split
  · rw [List.length_set]
  · rfl
theorem spoilN_length (at0 mask : Nat) (l : List Nat) : ∀ i, (spoilN at0 mask l i).length = l.length
  | 0 => rfl
  | i + 1 => by
    show (spoilS at0 mask (spoilN at0 mask l i) i).length = _
    rw [spoilS_length, spoilN_length at0 mask l i]

theorem pow_mod8_lt (x : Nat) : 2 ^ (x % 8) < 256 := Nat.lt_of_le_of_lt (Nat.pow_le_pow_right (by decide) (show x % 8 ≤ 7 by omega)) (by decide)
theorem xor_oct {a b : Nat} (ha : a < 256) (hb : b < 256) : a ^^^ b < 256 := Nat.xor_lt_two_pow (n := 8) ha hb

theorem spoilS_octets {at0 mask : Nat} {l : List Nat} (ho : Octets l) (i : Nat) : Octets (spoilS at0 mask l i) := by
  unfold spoilS
  split
  · intro x hx
    rcases List.mem_or_eq_of_mem_set hx with h | rfl
    · exact ho x h
    · exact xor_oct (ho.getD _) (pow_mod8_lt _)
  · exact ho
theorem spoilN_octets {at0 mask : Nat} {l : List Nat} (ho : Octets l) : ∀ i, Octets (spoilN at0 mask l i)
  | 0 => ho
  | i + 1 => spoilS_octets (spoilN_octets ho i) i

theorem bitO_set (l : List Nat) (q y b : Nat) (hq : q < l.length) : bitO (l.set q y) b = if b / 8 = q then y.testBit (b % 8) else bitO l b := by
  unfold bitO
  rw [List.getD_eq_getElem?_getD, List.getD_eq_getElem?_getD, List.getElem?_set]
  by_cases h : q = b / 8
  · rw [if_pos h, if_pos hq, if_pos h.symm]; rfl
  · rw [if_neg h, if_neg (fun e => h e.symm)]

theorem spoilS_bit (at0 mask : Nat) (l : List Nat) (i b : Nat) (hb : b < 8 * l.length) : bitO (spoilS at0 mask l i) b = (bitO l b ^^ (decide (b = at0 + i) && mask.testBit i)) := by
  unfold spoilS
  by_cases hm : mask.testBit i = true
  · rw [if_pos hm, hm, Bool.and_true]
    by_cases hq : (at0 + i) / 8 < l.length
    · rw [bitO_set _ _ _ _ hq]
      by_cases h : b / 8 = (at0 + i) / 8
      · rw [if_pos h, Nat.testBit_xor, Nat.testBit_two_pow]
        unfold bitO
        rw [← h]
        have : decide ((at0 + i) % 8 = b % 8) = decide (b = at0 + i) := by
          apply decide_eq_decide.2
          constructor
          · intro e; omega
          · intro e; rw [e]
        rw [this]
      · rw [if_neg h, decide_eq_false (by intro e; exact h (by rw [e])), Bool.xor_false]
    · rw [List.set_eq_of_length_le (by omega), decide_eq_false (by intro e; omega), Bool.xor_false]
  · rw [if_neg hm]
    simp [show mask.testBit i = false by simpa using hm]

theorem spoilN_bit (at0 mask : Nat) (l : List Nat) (b : Nat) (hb : b < 8 * l.length) : ∀ k, bitO (spoilN at0 mask l k) b = (bitO l b ^^ (decide (at0 ≤ b) && decide (b - at0 < k) && mask.testBit (b - at0)))
  | 0 => by simp [spoilN]
  | k + 1 => by
    show bitO (spoilS at0 mask (spoilN at0 mask l k) k) b = _
    rw [spoilS_bit _ _ _ _ _ (by rw [spoilN_length]; exact hb), spoilN_bit at0 mask l b hb k, Bool.xor_assoc]
    congr 1
    by_cases h : b = at0 + k
    · subst h
      simp
    · rw [decide_eq_false h, Bool.false_and, Bool.xor_false]
      by_cases h1 : at0 ≤ b
      · have : decide (b - at0 < k) = decide (b - at0 < k + 1) := decide_eq_decide.2 (by omega)
        rw [this]
      · simp [h1]

theorem spoilN_spoilt (at0 mask : Nat) (l : List Nat) (hm : mask < 4294967296) : Spoilt l (spoilN at0 mask l 32) at0 mask := by
  refine ⟨spoilN_length _ _ _ _, fun b hb => ?_⟩
  rw [spoilN_bit _ _ _ _ hb]
  congr 1
  by_cases h : b - at0 < 32
  · simp [h]
  · have h2 : mask.testBit (b - at0) = false := Nat.testBit_lt_two_pow (Nat.lt_of_lt_of_le hm (show 2 ^ 32 ≤ 2 ^ (b - at0) from Nat.pow_le_pow_right (by decide) (by omega)))
    simp [h2]

theorem octs_ext {a b : List Nat} (ha : Octets a) (hb : Octets b) (hl : a.length = b.length) (h : ∀ k, k < 8 * b.length → bitO a k = bitO b k) : a = b := by
  apply List.ext_getElem hl
  intro i h1 h2
  have ea : a.getD i 0 = a[i] := by simp [List.getD_eq_getElem?_getD, h1]
  have eb : b.getD i 0 = b[i] := by simp [List.getD_eq_getElem?_getD, h2]
  rw [← ea, ← eb]
  apply Nat.eq_of_testBit_eq
  intro j
  rcases Nat.lt_or_ge j 8 with hj | hj
  · have := h (8 * i + j) (by omega)
    unfold bitO at this
    rwa [show (8 * i + j) / 8 = i by omega, show (8 * i + j) % 8 = j by omega] at this
  · have h8 : (2 : Nat) ^ 8 ≤ 2 ^ j := Nat.pow_le_pow_right (by decide) hj
    rw [Nat.testBit_lt_two_pow (Nat.lt_of_lt_of_le (ha.getD i) h8), Nat.testBit_lt_two_pow (Nat.lt_of_lt_of_le (hb.getD i) h8)]

theorem Spoilt.unique {l a b : List Nat} {at0 mask : Nat} (h1 : Spoilt l a at0 mask) (h2 : Spoilt l b at0 mask) (ha : Octets a) (hb : Octets b) : a = b :=
  octs_ext ha hb (by rw [h1.1, h2.1]) fun k hk => by
    have hk2 : k < 8 * l.length := by rw [← h2.1]; exact hk
    rw [h1.2 k hk2, h2.2 k hk2]

/-- bytes are some with their sum just if the register behind them is the one number -/
theorem wholeS_iff {l : List Nat} (ho : Octets l) (h : 4 ≤ l.length) : WholeS l ↔ crcO 4294967295 l = crcR 4294967295 (List.replicate 32 false) := by
  obtain ⟨p, hp⟩ : ∃ p, p = l.take (l.length - 4) := ⟨_, rfl⟩
  have hd : (l.drop (l.length - 4)).length = 4 := by rw [List.length_drop]; omega
  have hq : l = p ++ l.drop (l.length - 4) := by rw [hp, List.take_append_drop]
  obtain ⟨a, b, c, d, e⟩ : ∃ a b c d, l.drop (l.length - 4) = [a, b, c, d] := by
    match l.drop (l.length - 4), hd with
    | [a, b, c, d], _ => exact ⟨a, b, c, d, rfl⟩
  have hm : ∀ x, x ∈ [a, b, c, d] → x < 256 := fun x hx => ho x (List.mem_of_mem_drop (e ▸ hx))
  have hw := crc_whole p a b c d (hm a (by simp)) (hm b (by simp)) (hm c (by simp)) (hm d (by simp))
  rw [← e, ← hq] at hw
  rw [hw]
  unfold WholeS
  rw [← hp]
  constructor
  · intro h2
    rw [hq] at h2
    exact (List.append_cancel_left h2).symm
  · intro h2
    rw [← h2, ← hq]

theorem spoilt_not_whole {l l' : List Nat} {at0 mask : Nat} (h : Spoilt l l' at0 mask) (ho : Octets l) (ho' : Octets l') (h4 : 4 ≤ l.length) (hw : WholeS l) (ha : at0 < 8 * l.length) (hm : mask < 4294967296) (h0 : mask ≠ 0) (hin : ∀ i, mask.testBit i = true → at0 + i < 8 * l.length) : ¬ WholeS l' := by
  intro hw'
  have e1 := (wholeS_iff ho h4).1 hw
  have e2 := (wholeS_iff ho' (by rw [h.1]; exact h4)).1 hw'
  exact spoilt_ne h ha hm h0 hin 4294967295 (by rw [e1, e2])

theorem wholeS_add (p : List Nat) : WholeS (p ++ le4 (crcSum p)) := by
  unfold WholeS
  rw [show (p ++ le4 (crcSum p)).length - 4 = p.length by rw [List.length_append, le4_length]; omega, List.take_left']
  rfl
/-- what Spoil takes: a place in the bytes, a mask of one bit at least, none of which lies behind the last one -/
def SpoilOk (l : List Nat) (z : Int) (mask at0 : Nat) : Prop := z = (at0 : Int) ∧ at0 < 8 * l.length ∧ mask ≠ 0 ∧ ∀ i, mask.testBit i = true → at0 + i < 8 * l.length
end Go.Proofs.Ytmihpbdgilmdiaa
