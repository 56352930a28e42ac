import Derived.Test.YtmihpbdgilmdiaaChecked
import Derived.Test.YtmihpbdgilmdiaaSyMath
import Derived.Test.YtmihpbdgilmdiaaOwn
import Derived.BigQuiet
import Derived.Deep.Cut
import Derived.Deep.RegionHeld3
import Derived.Deep.RegionLaw

section
/- Package check: the mathematics of the sum (CRC-32 of Castagnoli): the register's step goes over exclusive or, no burst of 32 neighbouring bits is lost. -/
namespace Go.Proofs.Ytmihpbdgilmdiaa

def crcP : Nat := 2197175160

/-- one step of the register by one bit -/
def crcS (n : Nat) (b : Bool) : Nat := if (n.testBit 0) = b then n / 2 else (n / 2) ^^^ crcP

def crcR (n : Nat) (bs : List Bool) : Nat := bs.foldl crcS n

theorem crcS_eq (n : Nat) (b : Bool) : crcS n b = (n / 2) ^^^ (if n.testBit 0 ^^ b then crcP else 0) := by
  unfold crcS
  cases n.testBit 0 <;> cases b <;> simp

theorem crcS_lt (n : Nat) (b : Bool) (hn : n < 4294967296) : crcS n b < 4294967296 := by
  have h1 : n / 2 < 2 ^ 32 := by omega
  have h2 : (n / 2) ^^^ crcP < 2 ^ 32 := Nat.xor_lt_two_pow h1 (by decide)
  unfold crcS
  split <;> omega

theorem crcR_lt (bs : List Bool) : ∀ n, n < 4294967296 → crcR n bs < 4294967296 := by
  induction bs with
  | nil => intro n hn; exact hn
  | cons b bs ih => intro n hn; exact ih _ (crcS_lt n b hn)

theorem crcR_append (n : Nat) (us bs : List Bool) : crcR n (us ++ bs) = crcR (crcR n us) bs := by
  simp [crcR, List.foldl_append]

theorem crc_if_xor (a b : Bool) : (if (a ^^ b) then crcP else 0) = (if a then crcP else 0) ^^^ (if b then crcP else 0) := by
  cases a <;> cases b <;> simp

theorem crcS_xor (m n : Nat) (a b : Bool) : crcS (m ^^^ n) (a ^^ b) = crcS m a ^^^ crcS n b := by
  have h : (m ^^^ n) / 2 = m / 2 ^^^ n / 2 := by
    simpa [Nat.shiftRight_eq_div_pow] using Nat.shiftRight_xor_distrib (a := m) (b := n) (i := 1)
  have hb : ((m ^^^ n).testBit 0 ^^ (a ^^ b)) = ((m.testBit 0 ^^ a) ^^ (n.testBit 0 ^^ b)) := by
    rw [Nat.testBit_xor]
    cases m.testBit 0 <;> cases n.testBit 0 <;> cases a <;> cases b <;> rfl
  rw [crcS_eq, crcS_eq, crcS_eq, h, hb, crc_if_xor]
  generalize (if (m.testBit 0 ^^ a) = true then crcP else 0) = x
  generalize (if (n.testBit 0 ^^ b) = true then crcP else 0) = y
  rw [Nat.xor_assoc, Nat.xor_assoc, ← Nat.xor_assoc (n / 2) x y, Nat.xor_comm (n / 2) x, Nat.xor_assoc x (n / 2) y]

theorem crcR_xor : ∀ (us bs : List Bool) (m n : Nat), us.length = bs.length → crcR (m ^^^ n) (List.zipWith (· ^^ ·) us bs) = crcR m us ^^^ crcR n bs
  | [], [], _, _, _ => rfl
  | a :: us, b :: bs, m, n, h => by
    have h1 : crcR (m ^^^ n) (List.zipWith (· ^^ ·) (a :: us) (b :: bs)) = crcR (crcS (m ^^^ n) (a ^^ b)) (List.zipWith (· ^^ ·) us bs) := rfl
    rw [h1, crcS_xor, crcR_xor us bs _ _ (by simpa using h)]
    rfl
  | [], _ :: _, _, _, h => by simp at h
  | _ :: _, [], _, _, h => by simp at h

theorem crcS_zero {n : Nat} (hn : n < 4294967296) (h : crcS n false = 0) : n = 0 := by
  unfold crcS at h
  rcases hb : n.testBit 0 with _ | _
  · rw [hb, if_pos rfl] at h
    rw [Nat.testBit_zero] at hb
    have : n % 2 ≠ 1 := by simpa using hb
    omega
  · rw [hb, if_neg (by decide)] at h
    have h1 : n / 2 = crcP := by
      have h2 : (n / 2 ^^^ crcP) ^^^ crcP = crcP := by rw [h, Nat.zero_xor]
      rwa [Nat.xor_assoc, Nat.xor_self, Nat.xor_zero] at h2
    unfold crcP at h1
    omega

theorem crcR_zero (k : Nat) : crcR 0 (List.replicate k false) = 0 := by
  induction k with
  | zero => rfl
  | succ k ih => rw [List.replicate_succ]; exact ih

theorem crcR_zero_of (k : Nat) : ∀ n, n < 4294967296 → crcR n (List.replicate k false) = 0 → n = 0 := by
  induction k with
  | zero => intro n _ h; exact h
  | succ k ih =>
    intro n hn h
    rw [List.replicate_succ] at h
    exact crcS_zero hn (ih _ (crcS_lt n false hn) h)

/-- the number whose bits these are, the lowest one first -/
def bitsN : List Bool → Nat
  | [] => 0
  | b :: bs => b.toNat + 2 * bitsN bs

theorem bitsN_lt : ∀ bs : List Bool, bitsN bs < 2 ^ bs.length
  | [] => by decide
  | b :: bs => by
    have := bitsN_lt bs
    have hb := b.toNat_lt
    rw [List.length_cons, Nat.pow_succ]
    unfold bitsN
    omega

theorem bitsN_zero : ∀ bs : List Bool, bitsN bs = 0 → bs = List.replicate bs.length false
  | [], _ => rfl
  | b :: bs, h => by
    unfold bitsN at h
    have hb : b = false := by cases b <;> simp at h ⊢
    have h2 : bitsN bs = 0 := by omega
    rw [List.length_cons, List.replicate_succ, hb, ← bitsN_zero bs h2]

theorem bitsN_testBit : ∀ (bs : List Bool) (i : Nat), (bitsN bs).testBit i = bs.getD i false
  | [], i => by simp [bitsN]
  | b :: bs, 0 => by
    unfold bitsN
    rw [Nat.testBit_zero]
    cases b <;> simp <;> omega
  | b :: bs, i + 1 => by
    unfold bitsN
    rw [Nat.testBit_succ, show (b.toNat + 2 * bitsN bs) / 2 = bitsN bs by have := b.toNat_lt; omega, bitsN_testBit bs i]
    rfl

/-- the bits that come are as good us laid in the register ahead -/
theorem crcR_laid : ∀ (bs : List Bool) (n : Nat), crcR n bs = crcR (n ^^^ bitsN bs) (List.replicate bs.length false)
  | [], n => by simp [bitsN]
  | b :: bs, n => by
    have h1 : bitsN (b :: bs) = b.toNat ^^^ (2 * bitsN bs) := by
      show b.toNat + 2 * bitsN bs = _
      apply Nat.eq_of_testBit_eq
      intro i
      rw [Nat.testBit_xor]
      cases i with
      | zero => rw [Nat.testBit_zero, Nat.testBit_zero, Nat.testBit_zero]; cases b <;> simp <;> omega
      | succ i =>
        rw [Nat.testBit_succ, Nat.testBit_succ, Nat.testBit_succ, show (b.toNat + 2 * bitsN bs) / 2 = bitsN bs by have := b.toNat_lt; omega, show b.toNat / 2 = 0 by have := b.toNat_lt; omega, Nat.mul_div_cancel_left _ (by decide)]
        simp
    have h2 : crcS (n ^^^ bitsN (b :: bs)) false = crcS n b ^^^ bitsN bs := by
      rw [h1, ← Nat.xor_assoc, show (false : Bool) = (false ^^ false) from rfl, crcS_xor]
      have h3 : crcS (2 * bitsN bs) false = bitsN bs := by
        unfold crcS
        rw [if_pos (by rw [Nat.testBit_zero]; simp)]
        omega
      have h4 : crcS (n ^^^ b.toNat) false = crcS n b := by
        rw [crcS_eq, crcS_eq, Nat.testBit_xor]
        have h5 : (n ^^^ b.toNat) / 2 = n / 2 := by
          have h6 : (n ^^^ b.toNat) / 2 = n / 2 ^^^ b.toNat / 2 := by
            simpa [Nat.shiftRight_eq_div_pow] using Nat.shiftRight_xor_distrib (a := n) (b := b.toNat) (i := 1)
          rw [h6, show b.toNat / 2 = 0 by have := b.toNat_lt; omega, Nat.xor_zero]
        rw [h5]
        cases b <;> simp
      rw [h3, h4]
    rw [List.length_cons, List.replicate_succ]
    show crcR (crcS n b) bs = crcR (crcS (n ^^^ bitsN (b :: bs)) false) (List.replicate bs.length false)
    rw [h2]
    exact crcR_laid bs (crcS n b)

/-- the register is told apart by zeros -/
theorem crcR_inj (k : Nat) {m n : Nat} (hm : m < 4294967296) (hn : n < 4294967296) (h : crcR m (List.replicate k false) = crcR n (List.replicate k false)) : m = n := by
  have h1 := crcR_xor (List.replicate k false) (List.replicate k false) m n rfl
  rw [h, Nat.xor_self] at h1
  rw [show List.zipWith (· ^^ ·) (List.replicate k false) (List.replicate k false) = List.replicate k false by rw [List.zipWith_replicate]; simp] at h1
  have h2 := crcR_zero_of k _ (Nat.xor_lt_two_pow (n := 32) (by omega) (by omega)) h1
  have h3 : (m ^^^ n) ^^^ n = n := by rw [h2, Nat.zero_xor]
  rwa [Nat.xor_assoc, Nat.xor_self, Nat.xor_zero] at h3

/-- behind 32 bits that tell the register's turned ones it is always the same, and else another one -/
theorem crcR_tail {n : Nat} (hn : n < 4294967296) (ts : List Bool) (ht : ts.length = 32) : crcR n ts = crcR 4294967295 (List.replicate 32 false) ↔ bitsN ts = n ^^^ 4294967295 := by
  have hb : bitsN ts < 2 ^ 32 := ht ▸ bitsN_lt ts
  rw [crcR_laid ts n, ht]
  constructor
  · intro h
    have h1 := crcR_inj 32 (Nat.xor_lt_two_pow (n := 32) (by omega) hb) (by omega) h
    rw [← h1, ← Nat.xor_assoc, Nat.xor_self, Nat.zero_xor]
  · intro h
    rw [h, ← Nat.xor_assoc, Nat.xor_self, Nat.zero_xor]

/-- bits of which some of 32 neighbours are turned come to another register -/
theorem crcR_burst (xs es : List Bool) (at0 : Nat) (bs : List Bool) (h0 : bs.length ≤ 32) (h1 : bitsN bs ≠ 0) (he : es = List.replicate at0 false ++ bs ++ List.replicate (xs.length - at0 - bs.length) false) (hl : at0 + bs.length ≤ xs.length) (n : Nat) : crcR n (List.zipWith (· ^^ ·) xs es) ≠ crcR n xs := by
  have hle : xs.length = es.length := by rw [he]; simp; omega
  have h2 := crcR_xor xs es n 0 hle
  rw [Nat.xor_zero] at h2
  rw [h2]
  intro h3
  have h4 : crcR 0 es = 0 := by
    have h5 : crcR n xs ^^^ (crcR n xs ^^^ crcR 0 es) = 0 := by rw [h3, Nat.xor_self]
    rwa [← Nat.xor_assoc, Nat.xor_self, Nat.zero_xor] at h5
  rw [he, crcR_append, crcR_append, crcR_zero, crcR_laid bs 0, Nat.zero_xor] at h4
  have hb : bitsN bs < 4294967296 := Nat.lt_of_lt_of_le (bitsN_lt bs) (show 2 ^ bs.length ≤ 2 ^ 32 from Nat.pow_le_pow_right (by decide) h0)
  have h6 := crcR_zero_of _ _ (crcR_lt _ _ hb) h4
  exact h1 (crcR_zero_of _ _ hb h6)

/-- a byte's bits, the lowest one first; all bytes' bits -/
def octBits (y : Nat) : List Bool := (List.range 8).map (fun i => y.testBit i)
def bitsOf (l : List Nat) : List Bool := l.flatMap octBits

theorem octBits_length (y : Nat) : (octBits y).length = 8 := by simp [octBits]
theorem bitsOf_length (l : List Nat) : (bitsOf l).length = 8 * l.length := by
  induction l with
  | nil => rfl
  | cons y l ih => rw [bitsOf, List.flatMap_cons, List.length_append, octBits_length, List.length_cons, ← bitsOf, ih]; omega
theorem bitsOf_append (a b : List Nat) : bitsOf (a ++ b) = bitsOf a ++ bitsOf b := by simp [bitsOf]

/-- the register behind bytes -/
def crcO (n : Nat) (l : List Nat) : Nat := crcR n (bitsOf l)
/-- the sum of bytes -/
def crcSum (l : List Nat) : Nat := 4294967295 - crcO 4294967295 l

theorem crcO_lt (l : List Nat) (n : Nat) (h : n < 4294967296) : crcO n l < 4294967296 := crcR_lt _ _ h
theorem crcO_append (n : Nat) (a b : List Nat) : crcO n (a ++ b) = crcO (crcO n a) b := by rw [crcO, bitsOf_append, crcR_append]; rfl
theorem crcO_cons (n y : Nat) (l : List Nat) : crcO n (y :: l) = crcO (crcR n (octBits y)) l := by
  show crcR n (bitsOf (y :: l)) = _
  rw [bitsOf, List.flatMap_cons, crcR_append]; rfl

theorem crcSum_lt (l : List Nat) : crcSum l < 4294967296 := by unfold crcSum; omega

theorem crc_turn {n : Nat} (h : n < 4294967296) : n ^^^ 4294967295 = 4294967295 - n := by
  have h1 : n ^^^ 4294967295 < 2 ^ 32 := Nat.xor_lt_two_pow (by omega) (by decide)
  have h2 : BitVec.ofNat 32 n ^^^ BitVec.allOnes 32 = ~~~ (BitVec.ofNat 32 n) := by rw [BitVec.xor_allOnes]
  have h3 := congrArg BitVec.toNat h2
  rw [BitVec.toNat_xor, BitVec.toNat_not, BitVec.toNat_ofNat, BitVec.toNat_allOnes, Nat.mod_eq_of_lt (by omega)] at h3
  simpa using h3

/-- four bytes, the lowest one first -/
def le4 (n : Nat) : List Nat := [n % 256, n / 256 % 256, n / 65536 % 256, n / 16777216 % 256]

theorem bitsN_append (us bs : List Bool) : bitsN (us ++ bs) = bitsN us + 2 ^ us.length * bitsN bs := by
  induction us with
  | nil => simp [bitsN]
  | cons a us ih =>
    rw [List.cons_append]
    show a.toNat + 2 * bitsN (us ++ bs) = a.toNat + 2 * bitsN us + _
    rw [ih, List.length_cons, Nat.pow_succ, Nat.mul_add, Nat.mul_comm (2 ^ us.length) 2, Nat.mul_assoc, Nat.add_assoc]

theorem bitsN_oct {y : Nat} (h : y < 256) : bitsN (octBits y) = y := by
  apply Nat.eq_of_testBit_eq
  intro i
  rw [bitsN_testBit]
  unfold octBits
  rcases Nat.lt_or_ge i 8 with hi | hi
  · rw [List.getD_eq_getElem?_getD, List.getElem?_map, List.getElem?_range hi]; rfl
  · rw [List.getD_eq_getElem?_getD, List.getElem?_eq_none (by simp; omega)]
    have : y < 2 ^ i := Nat.lt_of_lt_of_le h (show 2 ^ 8 ≤ 2 ^ i from Nat.pow_le_pow_right (by decide) hi)
    rw [Nat.testBit_lt_two_pow this]; rfl

theorem bitsN_four (a b c d : Nat) (ha : a < 256) (hb : b < 256) (hc : c < 256) (hd : d < 256) : bitsN (bitsOf [a, b, c, d]) = a + 256 * b + 65536 * c + 16777216 * d := by
  have h : bitsOf [a, b, c, d] = octBits a ++ (octBits b ++ (octBits c ++ octBits d)) := by simp [bitsOf]
  rw [h, bitsN_append, bitsN_append, bitsN_append, octBits_length, octBits_length, octBits_length, bitsN_oct ha, bitsN_oct hb, bitsN_oct hc, bitsN_oct hd]
  omega

/-- bytes are some with their sum just if the register behind all of them is the one number -/
theorem crc_whole (p : List Nat) (a b c d : Nat) (ha : a < 256) (hb : b < 256) (hc : c < 256) (hd : d < 256) : crcO 4294967295 (p ++ [a, b, c, d]) = crcR 4294967295 (List.replicate 32 false) ↔ [a, b, c, d] = le4 (crcSum p) := by
  rw [crcO_append]
  show crcR (crcO 4294967295 p) (bitsOf [a, b, c, d]) = _ ↔ _
  rw [crcR_tail (crcO_lt _ _ (by decide)) _ (by rw [bitsOf_length]; rfl), bitsN_four a b c d ha hb hc hd, crc_turn (crcO_lt _ _ (by decide))]
  show _ = crcSum p ↔ _
  have := crcSum_lt p
  generalize crcSum p = n at *
  unfold le4
  constructor
  · intro h
    simp only [List.cons.injEq, and_true]
    omega
  · intro h
    simp only [List.cons.injEq, and_true] at h
    omega
/-- bit k of bytes: bit k modulo 8 of byte k / 8 -/
def bitO (l : List Nat) (k : Nat) : Bool := (l.getD (k / 8) 0).testBit (k % 8)

theorem bitsOf_get : ∀ (l : List Nat) (k : Nat), k < 8 * l.length → (bitsOf l)[k]? = some (bitO l k)
  | [], k, h => by simp at h
  | y :: l, k, h => by
    rw [show bitsOf (y :: l) = octBits y ++ bitsOf l by simp [bitsOf]]
    rcases Nat.lt_or_ge k 8 with hk | hk
    · rw [List.getElem?_append_left (by rw [octBits_length]; exact hk)]
      unfold octBits bitO
      rw [List.getElem?_map, List.getElem?_range hk, Nat.div_eq_of_lt hk, Nat.mod_eq_of_lt hk]; rfl
    · rw [List.getElem?_append_right (by rw [octBits_length]; exact hk), octBits_length, bitsOf_get l (k - 8) (by rw [List.length_cons] at h; omega)]
      unfold bitO
      rw [show k / 8 = (k - 8) / 8 + 1 by omega, show (k - 8) % 8 = k % 8 by omega]; rfl

theorem bitsOf_eq (l : List Nat) : bitsOf l = (List.range (8 * l.length)).map (bitO l) := by
  apply List.ext_getElem?
  intro k
  rcases Nat.lt_or_ge k (8 * l.length) with h | h
  · rw [bitsOf_get l k h, List.getElem?_map, List.getElem?_range h]; rfl
  · rw [List.getElem?_eq_none (by rw [bitsOf_length]; exact h), List.getElem?_eq_none (by simp; exact h)]

/-- bytes of which bits are turned as a mask says, from a place on -/
def Spoilt (l l' : List Nat) (at0 mask : Nat) : Prop := l'.length = l.length ∧ ∀ k, k < 8 * l.length → bitO l' k = (bitO l k ^^ (decide (at0 ≤ k) && mask.testBit (k - at0)))

theorem spoilt_ne {l l' : List Nat} {at0 mask : Nat} (h : Spoilt l l' at0 mask) (ha : at0 < 8 * l.length) (hm : mask < 4294967296) (h0 : mask ≠ 0) (hin : ∀ i, mask.testBit i = true → at0 + i < 8 * l.length) (n : Nat) : crcO n l' ≠ crcO n l := by
  obtain ⟨hl, hb⟩ := h
  obtain ⟨m, hmd⟩ : ∃ m, m = min 32 (8 * l.length - at0) := ⟨_, rfl⟩
  have hz : ∀ i, m ≤ i → mask.testBit i = false := by
    intro i hi
    rcases hb2 : mask.testBit i with _ | _
    · rfl
    · exfalso
      have h1 := hin i hb2
      have h2 : i < 32 := by
        rcases Nat.lt_or_ge i 32 with h | h
        · exact h
        · have : mask < 2 ^ i := Nat.lt_of_lt_of_le hm (show 2 ^ 32 ≤ 2 ^ i from Nat.pow_le_pow_right (by decide) h)
          rw [Nat.testBit_lt_two_pow this] at hb2
          exact absurd hb2 (by decide)
      omega
  have hbs : bitsN ((List.range m).map (fun i => mask.testBit i)) = mask := by
    apply Nat.eq_of_testBit_eq
    intro i
    rw [bitsN_testBit, List.getD_eq_getElem?_getD]
    rcases Nat.lt_or_ge i m with hi | hi
    · rw [List.getElem?_map, List.getElem?_range hi]; rfl
    · rw [List.getElem?_eq_none (by simp; exact hi), hz i hi]; rfl
  have hes : bitsOf l' = List.zipWith (· ^^ ·) (bitsOf l) ((List.range (8 * l.length)).map (fun k => decide (at0 ≤ k) && mask.testBit (k - at0))) := by
    rw [bitsOf_eq, bitsOf_eq, hl, List.zipWith_map]
    apply List.ext_getElem?
    intro k
    rcases Nat.lt_or_ge k (8 * l.length) with h | h
    · rw [List.getElem?_map, List.getElem?_range h, List.getElem?_zipWith, List.getElem?_range h]
      show some _ = some _
      rw [hb k h]
    · rw [List.getElem?_eq_none (by simp; exact h), List.getElem?_eq_none (by simp; exact h)]
  unfold crcO
  rw [hes]
  refine crcR_burst (bitsOf l) _ at0 ((List.range m).map (fun i => mask.testBit i)) (by simp; omega) (by rw [hbs]; exact h0) ?_ (by rw [bitsOf_length]; simp; omega) n
  rw [bitsOf_length]
  apply List.ext_getElem?
  intro k
  rcases Nat.lt_or_ge k (8 * l.length) with h | h
  · rw [List.getElem?_map, List.getElem?_range h, List.append_assoc]
    rcases Nat.lt_or_ge k at0 with h1 | h1
    · rw [List.getElem?_append_left (by simp; exact h1), List.getElem?_replicate, if_pos h1]
      simp; omega
    · rw [List.getElem?_append_right (by simp; exact h1), List.length_replicate]
      rcases Nat.lt_or_ge (k - at0) m with h2 | h2
      · rw [List.getElem?_append_left (by simp; exact h2), List.getElem?_map, List.getElem?_range h2]
        simp [h1]
      · rw [List.getElem?_append_right (by simp; exact h2), List.getElem?_replicate]
        simp only [List.length_map, List.length_range]
        rw [if_pos (by omega)]
        simp [hz _ h2]
  · rw [List.getElem?_eq_none (by simp; exact h), List.getElem?_eq_none (by simp; omega)]
end Go.Proofs.Ytmihpbdgilmdiaa
end

section
/- The document's power, Sum (layer 15). -/
namespace Go.Proofs.Ytmihpbdgilmdiaa
open Go.RowKit Go.Extern.Stop Go.Stop Go.Extern

theorem two_pow_le {j : Nat} (h : j ≤ 30) : 2 ^ j ≤ 1073741824 := show 2 ^ j ≤ 2 ^ 30 from Nat.pow_le_pow_right (by decide) h

theorem ck_xor_u32 (a b : Nat) (ha : a < 4294967296) (hb : b < 4294967296) : bits .xor .u32 (a : Int) (b : Int) = ((a ^^^ b : Nat) : Int) := by
  have hx : a ^^^ b < 2 ^ 32 := Nat.xor_lt_two_pow (by omega) (by omega)
  have h1 : (BitVec.ofInt 32 (a : Int)).toNat = a := by
    rw [BitVec.ofInt_natCast, BitVec.toNat_ofNat]; exact Nat.mod_eq_of_lt (by omega)
  have h2 : (BitVec.ofInt 32 (b : Int)).toNat = b := by
    rw [BitVec.ofInt_natCast, BitVec.toNat_ofNat]; exact Nat.mod_eq_of_lt (by omega)
  show IntKind.u32.wrap ((BitVec.ofInt 32 (a : Int) ^^^ BitVec.ofInt 32 (b : Int)).toNat : Int) = _
  rw [BitVec.toNat_xor, h1, h2, IntKind.wrap_u32]
  omega

theorem crc_take (l : List Nat) (n : Nat) (j : Nat) (h : j < l.length) : crcO n (l.take (j + 1)) = crcR (crcO n (l.take j)) (octBits (l.getD j 0)) := by
  rw [List.take_add_one, List.getElem?_eq_getElem h, crcO_append, List.getD_eq_getElem?_getD, List.getElem?_eq_getElem h]
  show crcO _ [l[j]] = _
  rw [crcO_cons]; rfl
theorem oct_take (n y b : Nat) (h : b < 8) : crcR n ((octBits y).take (b + 1)) = crcS (crcR n ((octBits y).take b)) (y.testBit b) := by
  have hl : b < (octBits y).length := by rw [octBits_length]; exact h
  rw [List.take_add_one, List.getElem?_eq_getElem hl, crcR_append]
  have : (octBits y)[b] = y.testBit b := by simp [octBits]
  rw [this]; rfl
theorem bit_div (y b : Nat) : y.testBit b = decide (y / 2 ^ b % 2 = 1) := Nat.testBit_eq_decide_div_mod_eq

end Go.Proofs.Ytmihpbdgilmdiaa
end

section
/- The document's Add, Take (layer 15). -/
namespace Go.Proofs.Ytmihpbdgilmdiaa
open Go.RowKit Go.Extern.Stop Go.Stop Go.Extern

theorem le4_octets (n : Nat) : Octets (le4 n) := fun x hx => by
  simp [le4] at hx
  rcases hx with rfl | rfl | rfl | rfl <;> omega
theorem le4_length (n : Nat) : (le4 n).length = 4 := rfl

theorem four_new (w : World) (a b c d : Value) (e : TypeId) : ListAt id (w.alloc (.cells #[a, b, c, d] e)) (.slice (some ⟨w.heap.size, 0, none⟩) 4 4) [a, b, c, d] :=
  ListAt.of_owns (f := id) (l := [a, b, c, d]) (own_of_heap (base := 0) (n := 4) (g := w.heap.size) (e := e) (xs := [a, b, c, d].map id) (Nat.zero_le _) rfl (by decide) (heap_alloc_new w _))

theorem strN_toList (l : List Nat) : (strN l).toList = l.map UInt8.ofNat := by
  rw [ByteArray.toList_eq, strN, strOfNums_data, List.map_map]
  rfl
theorem map_u8_inj : ∀ {a b : List Nat}, Octets a → Octets b → a.map UInt8.ofNat = b.map UInt8.ofNat → a = b
  | [], [], _, _, _ => rfl
  | [], _ :: _, _, _, h => by simp at h
  | _ :: _, [], _, _, h => by simp at h
  | x :: a, y :: b, ha, hb, h => by
    rw [List.map_cons, List.map_cons, List.cons.injEq] at h
    have h1 : x = y := by
      have hx : x < 256 := ha x (List.mem_cons_self ..)
      have hy : y < 256 := hb y (List.mem_cons_self ..)
      have := congrArg UInt8.toNat h.1
      simpa [Nat.mod_eq_of_lt hx, Nat.mod_eq_of_lt hy] using this
    rw [h1, map_u8_inj (fun z hz => ha z (List.mem_cons_of_mem _ hz)) (fun z hz => hb z (List.mem_cons_of_mem _ hz)) h.2]
theorem strN_same {a b : List Nat} (ha : Octets a) (hb : Octets b) : ((strN a).toList == (strN b).toList) = decide (a = b) := by
  by_cases h : a = b
  · rw [h]; simp
  · rw [decide_eq_false h]
    exact beq_eq_false_iff_ne.2 fun e => h (map_u8_inj ha hb (by rwa [strN_toList, strN_toList] at e))

/-- Bytes that are some with their sum. -/
def WholeS (l : List Nat) : Prop := l.take (l.length - 4) ++ le4 (crcSum (l.take (l.length - 4))) = l

end Go.Proofs.Ytmihpbdgilmdiaa
end
