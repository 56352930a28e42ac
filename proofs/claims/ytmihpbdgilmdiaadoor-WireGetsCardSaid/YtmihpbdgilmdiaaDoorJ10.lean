import Derived.Test.YtmihpbdgilmdiaaDoorChecked
import Derived.Test.YtmihpbdgilmdiaaDoorSyMath
import Derived.Test.YtmihpbdgilmdiaaDoorOwn
import Derived.BigQuiet
import Derived.Deep.Cut
import Derived.Deep.RegionHeld3
import Derived.Deep.RegionLaw

section
/- Package check: the mathematics of the sum (CRC-32 of Castagnoli): the register's step goes over exclusive or, no burst of 32 neighbouring bits is lost. -/
namespace Go.Proofs.YtmihpbdgilmdiaaDoor

def crcP : Nat := 2197175160

/-- one step of the register by one bit -/
def crcS (n : Nat) (b : Bool) : Nat := if (n.testBit 0) = b then n / 2 else (n / 2) ^^^ crcP

def crcR (n : Nat) (bs : List Bool) : Nat := bs.foldl crcS n

theorem crcS_eq (n : Nat) (b : Bool) : crcS n b = (n / 2) ^^^ (if n.testBit 0 ^^ b then crcP else 0) := by
  unfold crcS
  cases n.testBit 0 <;> cases b <;> simp

theorem crcS_lt (n : Nat) (b : Bool) (hn : n < 4294967296) : crcS n b < 4294967296 := by
  have h1 : n / 2 < 2 ^ 32 := by omega
  have h2 : (n / 2) ^^^ crcP < 2 ^ 32 := Nat.xor_lt_two_pow h1 (by decide)
  unfold crcS
  split <;> omega

theorem crcR_lt (bs : List Bool) : ∀ n, n < 4294967296 → crcR n bs < 4294967296 := by
  induction bs with
  | nil => intro n hn; exact hn
  | cons b bs ih => intro n hn; exact ih _ (crcS_lt n b hn)

theorem crcR_append (n : Nat) (us bs : List Bool) : crcR n (us ++ bs) = crcR (crcR n us) bs := by
  simp [crcR, List.foldl_append]

theorem crc_if_xor (a b : Bool) : (if (a ^^ b) then crcP else 0) = (if a then crcP else 0) ^^^ (if b then crcP else 0) := by
  cases a <;> cases b <;> simp

theorem crcS_xor (m n : Nat) (a b : Bool) : crcS (m ^^^ n) (a ^^ b) = crcS m a ^^^ crcS n b := by
  have h : (m ^^^ n) / 2 = m / 2 ^^^ n / 2 := by
    simpa [Nat.shiftRight_eq_div_pow] using Nat.shiftRight_xor_distrib (a := m) (b := n) (i := 1)
  have hb : ((m ^^^ n).testBit 0 ^^ (a ^^ b)) = ((m.testBit 0 ^^ a) ^^ (n.testBit 0 ^^ b)) := by
    rw [Nat.testBit_xor]
    cases m.testBit 0 <;> cases n.testBit 0 <;> cases a <;> cases b <;> rfl
  rw [crcS_eq, crcS_eq, crcS_eq, h, hb, crc_if_xor]
  generalize (if (m.testBit 0 ^^ a) = true then crcP else 0) = x
  generalize (if (n.testBit 0 ^^ b) = true then crcP else 0) = y
  rw [Nat.xor_assoc, Nat.xor_assoc, ← Nat.xor_assoc (n / 2) x y, Nat.xor_comm (n / 2) x, Nat.xor_assoc x (n / 2) y]

theorem crcR_xor : ∀ (us bs : List Bool) (m n : Nat), us.length = bs.length → crcR (m ^^^ n) (List.zipWith (· ^^ ·) us bs) = crcR m us ^^^ crcR n bs
  | [], [], _, _, _ => rfl
  | a :: us, b :: bs, m, n, h => by
    have h1 : crcR (m ^^^ n) (List.zipWith (· ^^ ·) (a :: us) (b :: bs)) = crcR (crcS (m ^^^ n) (a ^^ b)) (List.zipWith (· ^^ ·) us bs) := rfl
    rw [h1, crcS_xor, crcR_xor us bs _ _ (by simpa using h)]
    rfl
  | [], _ :: _, _, _, h => by simp at h
  | _ :: _, [], _, _, h => by simp at h

theorem crcS_zero {n : Nat} (hn : n < 4294967296) (h : crcS n false = 0) : n = 0 := by
  unfold crcS at h
  rcases hb : n.testBit 0 with _ | _
  · rw [hb, if_pos rfl] at h
    rw [Nat.testBit_zero] at hb
    have : n % 2 ≠ 1 := by simpa using hb
    omega
  · rw [hb, if_neg (by decide)] at h
    have h1 : n / 2 = crcP := by
      have h2 : (n / 2 ^^^ crcP) ^^^ crcP = crcP := by rw [h, Nat.zero_xor]
      rwa [Nat.xor_assoc, Nat.xor_self, Nat.xor_zero] at h2
    unfold crcP at h1
    omega

theorem crcR_zero (k : Nat) : crcR 0 (List.replicate k false) = 0 := by
  induction k with
  | zero => rfl
  | succ k ih => rw [List.replicate_succ]; exact ih

theorem crcR_zero_of (k : Nat) : ∀ n, n < 4294967296 → crcR n (List.replicate k false) = 0 → n = 0 := by
  induction k with
  | zero => intro n _ h; exact h
  | succ k ih =>
    intro n hn h
    rw [List.replicate_succ] at h
    exact crcS_zero hn (ih _ (crcS_lt n false hn) h)

/-- the number whose bits these are, the lowest one first -/
def bitsN : List Bool → Nat
  | [] => 0
  | b :: bs => b.toNat + 2 * bitsN bs

theorem bitsN_lt : ∀ bs : List Bool, bitsN bs < 2 ^ bs.length
  | [] => by decide
  | b :: bs => by
    have := bitsN_lt bs
    have hb := b.toNat_lt
    rw [List.length_cons, Nat.pow_succ]
    unfold bitsN
    omega

theorem bitsN_zero : ∀ bs : List Bool, bitsN bs = 0 → bs = List.replicate bs.length false
  | [], _ => rfl
  | b :: bs, h => by
    unfold bitsN at h
    have hb : b = false := by cases b <;> simp at h ⊢
    have h2 : bitsN bs = 0 := by omega
    rw [List.length_cons, List.replicate_succ, hb, ← bitsN_zero bs h2]

theorem bitsN_testBit : ∀ (bs : List Bool) (i : Nat), (bitsN bs).testBit i = bs.getD i false
  | [], i => by simp [bitsN]
  | b :: bs, 0 => by
    unfold bitsN
    rw [Nat.testBit_zero]
    cases b <;> simp <;> omega
  | b :: bs, i + 1 => by
    unfold bitsN
    rw [Nat.testBit_succ, show (b.toNat + 2 * bitsN bs) / 2 = bitsN bs by have := b.toNat_lt; omega, bitsN_testBit bs i]
    rfl

/-- the bits that come are as good us laid in the register ahead -/
theorem crcR_laid : ∀ (bs : List Bool) (n : Nat), crcR n bs = crcR (n ^^^ bitsN bs) (List.replicate bs.length false)
  | [], n => by simp [bitsN]
  | b :: bs, n => by
    have h1 : bitsN (b :: bs) = b.toNat ^^^ (2 * bitsN bs) := by
      show b.toNat + 2 * bitsN bs = _
      apply Nat.eq_of_testBit_eq
      intro i
      rw [Nat.testBit_xor]
      cases i with
      | zero => rw [Nat.testBit_zero, Nat.testBit_zero, Nat.testBit_zero]; cases b <;> simp <;> omega
      | succ i =>
        rw [Nat.testBit_succ, Nat.testBit_succ, Nat.testBit_succ, show (b.toNat + 2 * bitsN bs) / 2 = bitsN bs by have := b.toNat_lt; omega, show b.toNat / 2 = 0 by have := b.toNat_lt; omega, Nat.mul_div_cancel_left _ (by decide)]
        simp
    have h2 : crcS (n ^^^ bitsN (b :: bs)) false = crcS n b ^^^ bitsN bs := by
      rw [h1, ← Nat.xor_assoc, show (false : Bool) = (false ^^ false) from rfl, crcS_xor]
      have h3 : crcS (2 * bitsN bs) false = bitsN bs := by
        unfold crcS
        rw [if_pos (by rw [Nat.testBit_zero]; simp)]
        omega
      have h4 : crcS (n ^^^ b.toNat) false = crcS n b := by
        rw [crcS_eq, crcS_eq, Nat.testBit_xor]
        have h5 : (n ^^^ b.toNat) / 2 = n / 2 := by
          have h6 : (n ^^^ b.toNat) / 2 = n / 2 ^^^ b.toNat / 2 := by
            simpa [Nat.shiftRight_eq_div_pow] using Nat.shiftRight_xor_distrib (a := n) (b := b.toNat) (i := 1)
          rw [h6, show b.toNat / 2 = 0 by have := b.toNat_lt; omega, Nat.xor_zero]
        rw [h5]
        cases b <;> simp
      rw [h3, h4]
    rw [List.length_cons, List.replicate_succ]
    show crcR (crcS n b) bs = crcR (crcS (n ^^^ bitsN (b :: bs)) false) (List.replicate bs.length false)
    rw [h2]
    exact crcR_laid bs (crcS n b)

/-- the register is told apart by zeros -/
theorem crcR_inj (k : Nat) {m n : Nat} (hm : m < 4294967296) (hn : n < 4294967296) (h : crcR m (List.replicate k false) = crcR n (List.replicate k false)) : m = n := by
  have h1 := crcR_xor (List.replicate k false) (List.replicate k false) m n rfl
  rw [h, Nat.xor_self] at h1
  rw [show List.zipWith (· ^^ ·) (List.replicate k false) (List.replicate k false) = List.replicate k false by rw [List.zipWith_replicate]; simp] at h1
  have h2 := crcR_zero_of k _ (Nat.xor_lt_two_pow (n := 32) (by omega) (by omega)) h1
  have h3 : (m ^^^ n) ^^^ n = n := by rw [h2, Nat.zero_xor]
  rwa [Nat.xor_assoc, Nat.xor_self, Nat.xor_zero] at h3

/-- behind 32 bits that tell the register's turned ones it is always the same, and else another one -/
theorem crcR_tail {n : Nat} (hn : n < 4294967296) (ts : List Bool) (ht : ts.length = 32) : crcR n ts = crcR 4294967295 (List.replicate 32 false) ↔ bitsN ts = n ^^^ 4294967295 := by
  have hb : bitsN ts < 2 ^ 32 := ht ▸ bitsN_lt ts
  rw [crcR_laid ts n, ht]
  constructor
  · intro h
    have h1 := crcR_inj 32 (Nat.xor_lt_two_pow (n := 32) (by omega) hb) (by omega) h
    rw [← h1, ← Nat.xor_assoc, Nat.xor_self, Nat.zero_xor]
  · intro h
    rw [h, ← Nat.xor_assoc, Nat.xor_self, Nat.zero_xor]

/-- bits of which some of 32 neighbours are turned come to another register -/
theorem crcR_burst (xs es : List Bool) (at0 : Nat) (bs : List Bool) (h0 : bs.length ≤ 32) (h1 : bitsN bs ≠ 0) (he : es = List.replicate at0 false ++ bs ++ List.replicate (xs.length - at0 - bs.length) false) (hl : at0 + bs.length ≤ xs.length) (n : Nat) : crcR n (List.zipWith (· ^^ ·) xs es) ≠ crcR n xs := by
  have hle : xs.length = es.length := by rw [he]; simp; omega
  have h2 := crcR_xor xs es n 0 hle
  rw [Nat.xor_zero] at h2
  rw [h2]
  intro h3
  have h4 : crcR 0 es = 0 := by
    have h5 : crcR n xs ^^^ (crcR n xs ^^^ crcR 0 es) = 0 := by rw [h3, Nat.xor_self]
    rwa [← Nat.xor_assoc, Nat.xor_self, Nat.zero_xor] at h5
  rw [he, crcR_append, crcR_append, crcR_zero, crcR_laid bs 0, Nat.zero_xor] at h4
  have hb : bitsN bs < 4294967296 := Nat.lt_of_lt_of_le (bitsN_lt bs) (show 2 ^ bs.length ≤ 2 ^ 32 from Nat.pow_le_pow_right (by decide) h0)
  have h6 := crcR_zero_of _ _ (crcR_lt _ _ hb) h4
  exact h1 (crcR_zero_of _ _ hb h6)

/-- a byte's bits, the lowest one first; all bytes' bits -/
def octBits (y : Nat) : List Bool := (List.range 8).map (fun i => y.testBit i)
def bitsOf (l : List Nat) : List Bool := l.flatMap octBits

theorem octBits_length (y : Nat) : (octBits y).length = 8 := by simp [octBits]
theorem bitsOf_length (l : List Nat) : (bitsOf l).length = 8 * l.length := by
  induction l with
  | nil => rfl
  | cons y l ih => rw [bitsOf, List.flatMap_cons, List.length_append, octBits_length, List.length_cons, ← bitsOf, ih]; omega
theorem bitsOf_append (a b : List Nat) : bitsOf (a ++ b) = bitsOf a ++ bitsOf b := by simp [bitsOf]

/-- the register behind bytes -/
def crcO (n : Nat) (l : List Nat) : Nat := crcR n (bitsOf l)
/-- the sum of bytes -/
def crcSum (l : List Nat) : Nat := 4294967295 - crcO 4294967295 l

theorem crcO_lt (l : List Nat) (n : Nat) (h : n < 4294967296) : crcO n l < 4294967296 := crcR_lt _ _ h
theorem crcO_append (n : Nat) (a b : List Nat) : crcO n (a ++ b) = crcO (crcO n a) b := by rw [crcO, bitsOf_append, crcR_append]; rfl
theorem crcO_cons (n y : Nat) (l : List Nat) : crcO n (y :: l) = crcO (crcR n (octBits y)) l := by
  show crcR n (bitsOf (y :: l)) = _
  rw [bitsOf, List.flatMap_cons, crcR_append]; rfl

theorem crcSum_lt (l : List Nat) : crcSum l < 4294967296 := by unfold crcSum; omega

theorem crc_turn {n : Nat} (h : n < 4294967296) : n ^^^ 4294967295 = 4294967295 - n := by
  have h1 : n ^^^ 4294967295 < 2 ^ 32 := Nat.xor_lt_two_pow (by omega) (by decide)
  have h2 : BitVec.ofNat 32 n ^^^ BitVec.allOnes 32 = ~~~ (BitVec.ofNat 32 n) := by rw [BitVec.xor_allOnes]
  have h3 := congrArg BitVec.toNat h2
  rw [BitVec.toNat_xor, BitVec.toNat_not, BitVec.toNat_ofNat, BitVec.toNat_allOnes, Nat.mod_eq_of_lt (by omega)] at h3
  simpa using h3

/-- four bytes, the lowest one first -/
def le4 (n : Nat) : List Nat := [n % 256, n / 256 % 256, n / 65536 % 256, n / 16777216 % 256]

theorem bitsN_append (us bs : List Bool) : bitsN (us ++ bs) = bitsN us + 2 ^ us.length * bitsN bs := by
  induction us with
  | nil => simp [bitsN]
  | cons a us ih =>
    rw [List.cons_append]
    show a.toNat + 2 * bitsN (us ++ bs) = a.toNat + 2 * bitsN us + _
    rw [ih, List.length_cons, Nat.pow_succ, Nat.mul_add, Nat.mul_comm (2 ^ us.length) 2, Nat.mul_assoc, Nat.add_assoc]

theorem bitsN_oct {y : Nat} (h : y < 256) : bitsN (octBits y) = y := by
  apply Nat.eq_of_testBit_eq
  intro i
  rw [bitsN_testBit]
  unfold octBits
  rcases Nat.lt_or_ge i 8 with hi | hi
  · rw [List.getD_eq_getElem?_getD, List.getElem?_map, List.getElem?_range hi]; rfl
  · rw [List.getD_eq_getElem?_getD, List.getElem?_eq_none (by simp; omega)]
    have : y < 2 ^ i := Nat.lt_of_lt_of_le h (show 2 ^ 8 ≤ 2 ^ i from Nat.pow_le_pow_right (by decide) hi)
    rw [Nat.testBit_lt_two_pow this]; rfl

theorem bitsN_four (a b c d : Nat) (ha : a < 256) (hb : b < 256) (hc : c < 256) (hd : d < 256) : bitsN (bitsOf [a, b, c, d]) = a + 256 * b + 65536 * c + 16777216 * d := by
  have h : bitsOf [a, b, c, d] = octBits a ++ (octBits b ++ (octBits c ++ octBits d)) := by simp [bitsOf]
  rw [h, bitsN_append, bitsN_append, bitsN_append, octBits_length, octBits_length, octBits_length, bitsN_oct ha, bitsN_oct hb, bitsN_oct hc, bitsN_oct hd]
  omega

/-- bytes are some with their sum just if the register behind all of them is the one number -/
theorem crc_whole (p : List Nat) (a b c d : Nat) (ha : a < 256) (hb : b < 256) (hc : c < 256) (hd : d < 256) : crcO 4294967295 (p ++ [a, b, c, d]) = crcR 4294967295 (List.replicate 32 false) ↔ [a, b, c, d] = le4 (crcSum p) := by
  rw [crcO_append]
  show crcR (crcO 4294967295 p) (bitsOf [a, b, c, d]) = _ ↔ _
  rw [crcR_tail (crcO_lt _ _ (by decide)) _ (by rw [bitsOf_length]; rfl), bitsN_four a b c d ha hb hc hd, crc_turn (crcO_lt _ _ (by decide))]
  show _ = crcSum p ↔ _
  have := crcSum_lt p
  generalize crcSum p = n at *
  unfold le4
  constructor
  · intro h
    simp only [List.cons.injEq, and_true]
    omega
  · intro h
    simp only [List.cons.injEq, and_true] at h
    omega
/-- bit k of bytes: bit k modulo 8 of byte k / 8 -/
def bitO (l : List Nat) (k : Nat) : Bool := (l.getD (k / 8) 0).testBit (k % 8)

theorem bitsOf_get : ∀ (l : List Nat) (k : Nat), k < 8 * l.length → (bitsOf l)[k]? = some (bitO l k)
  | [], k, h => by simp at h
  | y :: l, k, h => by
    rw [show bitsOf (y :: l) = octBits y ++ bitsOf l by simp [bitsOf]]
    rcases Nat.lt_or_ge k 8 with hk | hk
    · rw [List.getElem?_append_left (by rw [octBits_length]; exact hk)]
      unfold octBits bitO
      rw [List.getElem?_map, List.getElem?_range hk, Nat.div_eq_of_lt hk, Nat.mod_eq_of_lt hk]; rfl
    · rw [List.getElem?_append_right (by rw [octBits_length]; exact hk), octBits_length, bitsOf_get l (k - 8) (by rw [List.length_cons] at h; omega)]
      unfold bitO
      rw [show k / 8 = (k - 8) / 8 + 1 by omega, show (k - 8) % 8 = k % 8 by omega]; rfl

theorem bitsOf_eq (l : List Nat) : bitsOf l = (List.range (8 * l.length)).map (bitO l) := by
  apply List.ext_getElem?
  intro k
  rcases Nat.lt_or_ge k (8 * l.length) with h | h
  · rw [bitsOf_get l k h, List.getElem?_map, List.getElem?_range h]; rfl
  · rw [List.getElem?_eq_none (by rw [bitsOf_length]; exact h), List.getElem?_eq_none (by simp; exact h)]

/-- bytes of which bits are turned as a mask says, from a place on -/
def Spoilt (l l' : List Nat) (at0 mask : Nat) : Prop := l'.length = l.length ∧ ∀ k, k < 8 * l.length → bitO l' k = (bitO l k ^^ (decide (at0 ≤ k) && mask.testBit (k - at0)))

theorem spoilt_ne {l l' : List Nat} {at0 mask : Nat} (h : Spoilt l l' at0 mask) (ha : at0 < 8 * l.length) (hm : mask < 4294967296) (h0 : mask ≠ 0) (hin : ∀ i, mask.testBit i = true → at0 + i < 8 * l.length) (n : Nat) : crcO n l' ≠ crcO n l := by
  obtain ⟨hl, hb⟩ := h
  obtain ⟨m, hmd⟩ : ∃ m, m = min 32 (8 * l.length - at0) := ⟨_, rfl⟩
  have hz : ∀ i, m ≤ i → mask.testBit i = false := by
    intro i hi
    rcases hb2 : mask.testBit i with _ | _
    · rfl
    · exfalso
      have h1 := hin i hb2
      have h2 : i < 32 := by
        rcases Nat.lt_or_ge i 32 with h | h
        · exact h
        · have : mask < 2 ^ i := Nat.lt_of_lt_of_le hm (show 2 ^ 32 ≤ 2 ^ i from Nat.pow_le_pow_right (by decide) h)
          rw [Nat.testBit_lt_two_pow this] at hb2
          exact absurd hb2 (by decide)
      omega
  have hbs : bitsN ((List.range m).map (fun i => mask.testBit i)) = mask := by
    apply Nat.eq_of_testBit_eq
    intro i
    rw [bitsN_testBit, List.getD_eq_getElem?_getD]
    rcases Nat.lt_or_ge i m with hi | hi
    · rw [List.getElem?_map, List.getElem?_range hi]; rfl
    · rw [List.getElem?_eq_none (by simp; exact hi), hz i hi]; rfl
  have hes : bitsOf l' = List.zipWith (· ^^ ·) (bitsOf l) ((List.range (8 * l.length)).map (fun k => decide (at0 ≤ k) && mask.testBit (k - at0))) := by
    rw [bitsOf_eq, bitsOf_eq, hl, List.zipWith_map]
    apply List.ext_getElem?
    intro k
    rcases Nat.lt_or_ge k (8 * l.length) with h | h
    · rw [List.getElem?_map, List.getElem?_range h, List.getElem?_zipWith, List.getElem?_range h]
      show some _ = some _
      rw [hb k h]
    · rw [List.getElem?_eq_none (by simp; exact h), List.getElem?_eq_none (by simp; exact h)]
  unfold crcO
  rw [hes]
  refine crcR_burst (bitsOf l) _ at0 ((List.range m).map (fun i => mask.testBit i)) (by simp; omega) (by rw [hbs]; exact h0) ?_ (by rw [bitsOf_length]; simp; omega) n
  rw [bitsOf_length]
  apply List.ext_getElem?
  intro k
  rcases Nat.lt_or_ge k (8 * l.length) with h | h
  · rw [List.getElem?_map, List.getElem?_range h, List.append_assoc]
    rcases Nat.lt_or_ge k at0 with h1 | h1
    · rw [List.getElem?_append_left (by simp; exact h1), List.getElem?_replicate, if_pos h1]
      simp; omega
    · rw [List.getElem?_append_right (by simp; exact h1), List.length_replicate]
      rcases Nat.lt_or_ge (k - at0) m with h2 | h2
      · rw [List.getElem?_append_left (by simp; exact h2), List.getElem?_map, List.getElem?_range h2]
        simp [h1]
      · rw [List.getElem?_append_right (by simp; exact h2), List.getElem?_replicate]
        simp only [List.length_map, List.length_range]
        rw [if_pos (by omega)]
        simp [hz _ h2]
  · rw [List.getElem?_eq_none (by simp; exact h), List.getElem?_eq_none (by simp; omega)]
end Go.Proofs.YtmihpbdgilmdiaaDoor
end

section
/- The document's power, Sum (layer 15). -/
namespace Go.Proofs.YtmihpbdgilmdiaaDoor
open Go.RowKit Go.Extern.Stop Go.Stop Go.Extern

theorem two_pow_le {j : Nat} (h : j ≤ 30) : 2 ^ j ≤ 1073741824 := show 2 ^ j ≤ 2 ^ 30 from Nat.pow_le_pow_right (by decide) h

set_option maxRecDepth 1000000 in
set_option maxHeartbeats 4000000 in
theorem ckPower_any {w : World} (k : Nat) (hk : k ≤ 31) : Calls Tryd.prog 65 #[.int .i64 (k : Int)] w fun e w' => e = .returned (.int .u32 ((2 ^ k : Nat) : Int)) ∧ w = w' := by
  go_enter Tryd.func65, Tryd.ntmps65
  go_wp2_with fail
  go_loopw [3, 4] (fun n i wr => ∃ j : Nat, j ≤ k ∧ i = .int .i64 (j : Int) ∧ n = .int .u32 ((2 ^ j : Nat) : Int) ∧ w = wr) (fun _ i _ => k - (intOf i).toNat)
  case atStart => exact ⟨0, by omega, rfl, rfl, rfl⟩
  case round =>
    obtain ⟨j, hj, rfl, rfl, rfl⟩ := hrel
    by_cases hlt : j < k
    · have d1 : decide ((j : Int) < (k : Int)) = true := decide_eq_true (by omega)
      have hle := two_pow_le (show j ≤ 30 by omega)
      have HS : Hid (2 ^ (j + 1) = 2 ^ j * 2) := Lib.hid (Nat.pow_succ 2 j)
      generalize 2 ^ j = x at *
      go_wp2
      go_roundw
      case rel => exact ⟨j + 1, hlt, by go_num, by rw [HS.out]; go_num, trivial⟩
      case measure => simp [intOf]; omega
    · obtain rfl : j = k := by omega
      have d1 : decide ((j : Int) < (j : Int)) = false := decide_eq_false (by omega)
      go_wp2
      go_ret
      exact ⟨rfl, rfl⟩

theorem ck_xor_u32 (a b : Nat) (ha : a < 4294967296) (hb : b < 4294967296) : bits .xor .u32 (a : Int) (b : Int) = ((a ^^^ b : Nat) : Int) := by
  have hx : a ^^^ b < 2 ^ 32 := Nat.xor_lt_two_pow (by omega) (by omega)
  have h1 : (BitVec.ofInt 32 (a : Int)).toNat = a := by
    rw [BitVec.ofInt_natCast, BitVec.toNat_ofNat]; exact Nat.mod_eq_of_lt (by omega)
  have h2 : (BitVec.ofInt 32 (b : Int)).toNat = b := by
    rw [BitVec.ofInt_natCast, BitVec.toNat_ofNat]; exact Nat.mod_eq_of_lt (by omega)
  show IntKind.u32.wrap ((BitVec.ofInt 32 (a : Int) ^^^ BitVec.ofInt 32 (b : Int)).toNat : Int) = _
  rw [BitVec.toNat_xor, h1, h2, IntKind.wrap_u32]
  omega

theorem crc_take (l : List Nat) (n : Nat) (j : Nat) (h : j < l.length) : crcO n (l.take (j + 1)) = crcR (crcO n (l.take j)) (octBits (l.getD j 0)) := by
  rw [List.take_add_one, List.getElem?_eq_getElem h, crcO_append, List.getD_eq_getElem?_getD, List.getElem?_eq_getElem h]
  show crcO _ [l[j]] = _
  rw [crcO_cons]; rfl
theorem oct_take (n y b : Nat) (h : b < 8) : crcR n ((octBits y).take (b + 1)) = crcS (crcR n ((octBits y).take b)) (y.testBit b) := by
  have hl : b < (octBits y).length := by rw [octBits_length]; exact h
  rw [List.take_add_one, List.getElem?_eq_getElem hl, crcR_append]
  have : (octBits y)[b] = y.testBit b := by simp [octBits]
  rw [this]; rfl
theorem bit_div (y b : Nat) : y.testBit b = decide (y / 2 ^ b % 2 = 1) := Nat.testBit_eq_decide_div_mod_eq

set_option maxRecDepth 1000000 in
set_option maxHeartbeats 4000000 in
theorem ckSum_any {w : World} (v : Value) (l : List Nat) (h : ListAt byteV w v l) (ho : Octets l) : Calls Tryd.prog 51 #[v] w fun e w' => e = .returned (.int .u32 ((crcSum l : Nat) : Int)) ∧ Below w.heap.size w w' := by
  have hlen := h.len
  obtain ⟨a, cap, rfl, hc1, hc2, hcell⟩ := h
  have HC := Lib.hid hcell
  have HR0 : Hid (crcO 4294967295 (l.take 0) = 4294967295) := Lib.hid rfl
  have HLT : Hid (∀ j, crcO 4294967295 (l.take j) < 4294967296) := Lib.hid fun j => crcO_lt _ _ (by decide)
  have HLT2 : Hid (∀ j (bs : List Bool), crcR (crcO 4294967295 (l.take j)) bs < 4294967296) := Lib.hid fun j bs => crcR_lt _ _ (crcO_lt _ _ (by decide))
  have HO := Lib.hid ho
  have HEND : Hid (crcSum l = 4294967295 - crcO 4294967295 (l.take l.length)) := Lib.hid (by rw [List.take_length]; rfl)
  clear hcell ho
  go_enter Tryd.func51, Tryd.ntmps51
  go_wp2_with fail
  go_loopw [3, 4] (fun n i wr => ∃ j : Nat, j ≤ l.length ∧ i = .int .i64 (j : Int) ∧ n = .int .u32 ((crcO 4294967295 (l.take j) : Nat) : Int) ∧ Below w.heap.size w wr) (fun _ i _ => l.length - (intOf i).toNat)
  case atStart => exact ⟨0, by omega, rfl, by rw [HR0.out]; rfl, Below.refl _ _⟩
  case round =>
    obtain ⟨j, hj, rfl, rfl, hbel⟩ := hrel
    have HB := Lib.hid hbel
    have hn0 := HLT.out j
    by_cases hlt : j < l.length
    · have d1 : decide ((j : Int) < (l.length : Int)) = true := decide_eq_true (by omega)
      obtain ⟨bk, off, rfl, hcc⟩ := HC.out (by omega)
      have hx := hcc j hlt
      have hy : l.getD j 0 < 256 := HO.out.getD j
      have hcell : w.cell? ⟨bk, off + j, none⟩ = some (byteV (l.getD j 0)) := by
        rw [hx]; simp [List.getD_eq_getElem?_getD, hlt]
      have hbl := World.block_lt_of_cell? w _ hcell
      have HCELL : Hid (∀ V, Below w.heap.size w V → V.cell? ⟨bk, off + j, none⟩ = some (.int .u8 ((l.getD j 0 : Nat) : Int))) := Lib.hid fun V hV => (hV.cell (p := ⟨bk, off + j, none⟩) hbl).trans hcell
      have HTK := Lib.hid (crc_take l 4294967295 j hlt)
      have HLT3 := Lib.hid (HLT2.out j)
      clear hcc hx hcell hbel
      generalize l.getD j 0 = y at *
      generalize crcO 4294967295 (l.take j) = n0 at *
      have HB8 : Hid (crcR n0 (octBits y) = crcR n0 ((octBits y).take 8)) := Lib.hid (by rw [List.take_of_length_le (by rw [octBits_length]; exact Nat.le_refl _)])
      have HB0 : Hid (crcR n0 ((octBits y).take 0) = n0) := Lib.hid rfl
      go_wp2_with fail
      go_loopw [3, 5] (fun n b wr => ∃ t : Nat, t ≤ 8 ∧ b = .int .i64 (t : Int) ∧ n = .int .u32 ((crcR n0 ((octBits y).take t) : Nat) : Int) ∧ Below w.heap.size w wr) (fun _ b _ => 8 - (intOf b).toNat)
      case atStart => exact ⟨0, by omega, rfl, by rw [HB0.out], HB.out⟩
      case round =>
        obtain ⟨t, ht, rfl, rfl, hbel⟩ := hrel
        have HB2 := Lib.hid hbel
        have hn1 := HLT3.out ((octBits y).take t)
        by_cases htl : t < 8
        · have d2 : decide ((t : Int) < 8) = true := decide_eq_true (by omega)
          have HST := Lib.hid (oct_take n0 y t htl)
          have q1 := HCELL.out wr hbel
          have HP : Hid (∀ V : World, Calls Tryd.prog 65 #[.int .i64 (t : Int)] V fun e w' => e = .returned (.int .u32 ((2 ^ t : Nat) : Int)) ∧ w' = V) := Lib.hid fun V => (ckPower_any t (by omega)).mono (by rintro e w' ⟨rfl, rfl⟩; exact ⟨rfl, rfl⟩)
          have hx1 : 1 ≤ 2 ^ t := Nat.one_le_two_pow
          have hx2 := two_pow_le (show t ≤ 30 by omega)
          have HBIT := Lib.hid (bit_div y t)
          have hd : y / 2 ^ t ≤ y := Nat.div_le_self _ _
          clear hbel
          generalize crcR n0 ((octBits y).take t) = n at *
          generalize 2 ^ t = x at *
          have hz : ¬ x = 0 := by omega
          have hz2 : ¬ (x : Int) = 0 := by omega
          have hq1 : (y : Int) / (x : Int) = ((y / x : Nat) : Int) := by simp
          have hq2 : (y : Int).tdiv (x : Int) = ((y / x : Nat) : Int) := rfl
          generalize y / x = d at *
          go_upto_region 8 with fail
          go_quiet (exact Calls.quiet_of_same (HP.out _))
          have HBN := Lib.hid (below_draws HB2.out nq)
          have hh : (n : Int) / 2 = ((n / 2 : Nat) : Int) := by omega
          have hm : n / 2 < 4294967296 := by omega
          have HXR : Hid (bits .xor .u32 ((n / 2 : Nat) : Int) 2197175160 = ((n / 2 ^^^ 2197175160 : Nat) : Int)) := Lib.hid (ck_xor_u32 (n / 2) 2197175160 hm (by decide))
          have HCS : Hid (crcS n (y.testBit t) = if d % 2 = n % 2 then n / 2 else n / 2 ^^^ 2197175160) := Lib.hid (by
            unfold crcS crcP
            rw [HBIT.out, Nat.testBit_zero]
            by_cases h : d % 2 = n % 2
            · rw [if_pos h, if_pos (by rw [h])]
            · rw [if_neg h, if_neg (by intro e; have := decide_eq_decide.1 e; omega)])
          generalize n / 2 = m at *
          by_cases hb : d % 2 = n % 2
          · have e1 : (((d : Int) % 2) != ((n : Int) % 2)) = false := by simp; omega
            have HNW : Hid (crcS n (y.testBit t) = m) := Lib.hid (by rw [HCS.out, if_pos hb])
            clear hb
            go_wp2
            go_roundw
            case rel => exact ⟨t + 1, by omega, by go_num, by rw [HST.out, HNW.out], HBN.out⟩
            case measure => simp [intOf]; omega
          · have e1 : (((d : Int) % 2) != ((n : Int) % 2)) = true := by simp; omega
            have HNW : Hid (crcS n (y.testBit t) = m ^^^ 2197175160) := Lib.hid (by rw [HCS.out, if_neg hb])
            have hxr := HXR.out
            generalize m ^^^ 2197175160 = z at *
            clear hb
            go_wp2
            go_roundw
            case rel => exact ⟨t + 1, by omega, by go_num, by rw [HST.out, HNW.out], HBN.out⟩
            case measure => simp [intOf]; omega
        · obtain rfl : t = 8 := by omega
          clear hbel
          generalize hq : crcR n0 ((octBits y).take 8) = n at *
          have HQ := Lib.hid hq
          clear hq
          go_wp2
          go_roundw
          case rel => exact ⟨j + 1, hlt, by go_num, by rw [HTK.out, HB8.out], HB2.out⟩
          case measure => simp [intOf]; omega
    · obtain rfl : j = l.length := by omega
      have d1 : decide ((l.length : Int) < (l.length : Int)) = false := decide_eq_false (by omega)
      generalize crcO 4294967295 (l.take l.length) = n at *
      obtain ⟨m, hm⟩ : ∃ m, m = 4294967295 - n := ⟨_, rfl⟩
      have hsub : (4294967295 : Int) - (n : Int) = (m : Int) := by omega
      have hml : m < 4294967296 := by omega
      have HM := Lib.hid hm
      clear hbel hm
      go_wp2
      go_ret
      exact ⟨by rw [HEND.out, ← HM.out]; rfl, HB.out⟩
end Go.Proofs.YtmihpbdgilmdiaaDoor
end

section
/- The document's Add, Take (layer 15). -/
namespace Go.Proofs.YtmihpbdgilmdiaaDoor
open Go.RowKit Go.Extern.Stop Go.Stop Go.Extern

theorem le4_octets (n : Nat) : Octets (le4 n) := fun x hx => by
  simp [le4] at hx
  rcases hx with rfl | rfl | rfl | rfl <;> omega
theorem le4_length (n : Nat) : (le4 n).length = 4 := rfl

theorem four_new (w : World) (a b c d : Value) (e : TypeId) : ListAt id (w.alloc (.cells #[a, b, c, d] e)) (.slice (some ⟨w.heap.size, 0, none⟩) 4 4) [a, b, c, d] :=
  ListAt.of_owns (f := id) (l := [a, b, c, d]) (own_of_heap (base := 0) (n := 4) (g := w.heap.size) (e := e) (xs := [a, b, c, d].map id) (Nat.zero_le _) rfl (by decide) (heap_alloc_new w _))

set_option maxRecDepth 1000000 in
set_option maxHeartbeats 4000000 in
theorem ckAdd_any {w : World} (v : Value) (l : List Nat) (h : ListAt byteV w v l) (ho : Octets l) (hR : l.length ≤ 140737488351232) :
    Calls Tryd.prog 29 #[v] w fun e w' => ∃ v', e = .returned v' ∧ w'.ownsRow w.heap.size 5 1 v' (l.length + 4) ((l ++ le4 (crcSum l)).map byteV) ∧ Below w.heap.size w w' := by
  obtain ⟨j0, hj0, jz0, jz1, jz2⟩ := info_parts info_u8
  have HS := Lib.hid (ckSum_any v l h ho)
  have HL := Lib.hid h
  obtain ⟨a, cap, rfl, -, -, -⟩ := h
  have hn := crcSum_lt l
  have HLE : Hid (∀ n, n = crcSum l → le4 (crcSum l) = [n % 256, n / 256 % 256, n / 65536 % 256, n / 16777216 % 256]) := Lib.hid fun n e => by rw [e]; rfl
  generalize crcSum l = n at *
  have HLE' := HLE.out n rfl
  go_enter Tryd.func29, Tryd.ntmps29
  go_wp2_with fail
  refine HS.out.mono ?_
  rintro e w1 ⟨rfl, hb1⟩
  have HB1 := Lib.hid hb1
  have hsz := hb1.size
  have HOS := Lib.hid (World.ownsRow_made (base := w.heap.size) (e := 5) (size := 1) w1 #[] 0 hsz (by decide) rfl)
  have HB2 := Lib.hid (hb1.alloc hsz (.cells #[] 5))
  have HL2 := Lib.hid (HL.out.mono HB2.out)
  have n0 : n % 256 ≤ 255 := by omega
  have n1 : n / 256 % 256 ≤ 255 := by omega
  have n2 : n / 65536 % 256 ≤ 255 := by omega
  have n3 : n / 16777216 ≤ 255 := by omega
  clear hb1
  go_wp2_with (first
    | ((with_reducible show wpList _ _ _ (⟨some 9, _, _, _, _, _⟩ :: _) _ _); refine wpList_append_of _ rfl (.tmp 7) (.tmp 8) 22 rfl w.heap.size 5 j0 (.int .u8 0) 1 Tryd.underlying22 hj0 jz0 jz1 jz2 rfl (.slice (some ⟨w1.heap.size, 0, none⟩) 0 0) 0 [] rfl HOS.out (.slice a l.length cap) l rfl HL2.out (fun y _ => rfl) (by unfold maxLen; omega) (by omega) (by simp; omega) ?_; intro v3 w3 ho3 hg3; have HO3 := Lib.hid (show w3.ownsRow w.heap.size 5 1 v3 l.length (l.map byteV) by simpa using ho3); have HB3 := Lib.hid (HB2.out.grown hg3 (by simp; omega) (fun k hk => (HOS.out.lt k hk).1)); obtain ⟨a3, c3, rfl, -, -⟩ := own_open HO3.out; clear ho3 hg3)
    | (at_builtin; refine wpList_append_of (f := id) _ rfl (.tmp 10) (.tmp 25) 22 rfl w.heap.size 5 j0 (.int .u8 0) 1 Tryd.underlying22 hj0 jz0 jz1 jz2 rfl (.slice a3 l.length c3) l.length (l.map byteV) rfl (HO3.out.alloc _) (.slice (some ⟨w3.heap.size, 0, none⟩) 4 4) [.int .u8 ((n : Int) % 256), .int .u8 ((n : Int) / 256 % 256), .int .u8 ((n : Int) / 65536 % 256), .int .u8 ((n : Int) / 16777216)] rfl (four_new w3 _ _ _ _ _) (fun y hy => by simp at hy; rcases hy with rfl | rfl | rfl | rfl <;> rfl) (by simp; unfold maxLen; omega) (by simp; omega) (by have := HB3.out.size; simp; omega) ?_; intro v4 w4 ho4 hg4; have HO4 := Lib.hid ho4; have HB4 := Lib.hid ((HB3.out.alloc HB3.out.size (.cells #[.int .u8 ((n : Int) % 256), .int .u8 ((n : Int) / 256 % 256), .int .u8 ((n : Int) / 65536 % 256), .int .u8 ((n : Int) / 16777216)] 5)).grown hg4 (by have := HB3.out.size; simp; omega) (fun k hk => (HO3.out.lt k hk).1)); clear ho4 hg4))
  go_ret
  refine ⟨_, rfl, ?_, HB4.out⟩
  have h4 := HO4.out
  rw [List.map_append, HLE']
  have e : [n % 256, n / 256 % 256, n / 65536 % 256, n / 16777216 % 256].map byteV = [Value.int .u8 ((n : Int) % 256), .int .u8 ((n : Int) / 256 % 256), .int .u8 ((n : Int) / 65536 % 256), .int .u8 ((n : Int) / 16777216)].map id := by
    simp [byteV]
    omega
  rw [e]
  exact h4

theorem strN_toList (l : List Nat) : (strN l).toList = l.map UInt8.ofNat := by
  rw [ByteArray.toList_eq, strN, strOfNums_data, List.map_map]
  rfl
theorem map_u8_inj : ∀ {a b : List Nat}, Octets a → Octets b → a.map UInt8.ofNat = b.map UInt8.ofNat → a = b
  | [], [], _, _, _ => rfl
  | [], _ :: _, _, _, h => by simp at h
  | _ :: _, [], _, _, h => by simp at h
  | x :: a, y :: b, ha, hb, h => by
    rw [List.map_cons, List.map_cons, List.cons.injEq] at h
    have h1 : x = y := by
      have hx : x < 256 := ha x (List.mem_cons_self ..)
      have hy : y < 256 := hb y (List.mem_cons_self ..)
      have := congrArg UInt8.toNat h.1
      simpa [Nat.mod_eq_of_lt hx, Nat.mod_eq_of_lt hy] using this
    rw [h1, map_u8_inj (fun z hz => ha z (List.mem_cons_of_mem _ hz)) (fun z hz => hb z (List.mem_cons_of_mem _ hz)) h.2]
theorem strN_same {a b : List Nat} (ha : Octets a) (hb : Octets b) : ((strN a).toList == (strN b).toList) = decide (a = b) := by
  by_cases h : a = b
  · rw [h]; simp
  · rw [decide_eq_false h]
    exact beq_eq_false_iff_ne.2 fun e => h (map_u8_inj ha hb (by rwa [strN_toList, strN_toList] at e))

/-- Bytes that are some with their sum. -/
def WholeS (l : List Nat) : Prop := l.take (l.length - 4) ++ le4 (crcSum (l.take (l.length - 4))) = l

set_option maxRecDepth 1000000 in
set_option maxHeartbeats 4000000 in
theorem ckTake_any {w : World} (v : Value) (l : List Nat) (h : ListAt byteV w v l) (ho : Octets l) (hR : l.length ≤ 140737488351232) :
    Calls Tryd.prog 33 #[v] w fun e w' => Below w.heap.size w w' ∧
      ((l.length < 4 ∧ e = .returned (.tuple #[nilS, .int .i64 2])) ∨ (4 ≤ l.length ∧ ¬ WholeS l ∧ e = .returned (.tuple #[nilS, .int .i64 6])) ∨
      (4 ≤ l.length ∧ WholeS l ∧ ∃ v', e = .returned (.tuple #[v', .int .i64 0]) ∧ ListAt byteV w' v' (l.take (l.length - 4)))) := by
  have HL := Lib.hid h
  obtain ⟨a, cap, rfl, hcap, hcm, -⟩ := h
  by_cases h4 : l.length < 4
  · have d1 : decide ((l.length : Int) < 4) = true := decide_eq_true (by omega)
    go_enter Tryd.func33, Tryd.ntmps33
    go_wp2_with fail
    go_ret2
    exact ⟨Below.refl _ _, .inl ⟨h4, rfl⟩⟩
  · have d1 : decide ((l.length : Int) < 4) = false := decide_eq_false (by omega)
    have htk := HL.out.take (l.length - 4) (by omega)
    have hcb : cap ≤ 9223372036854775807 := hcm
    have hsub : (l.length : Int) - 4 = ((l.length - 4 : Nat) : Int) := by omega
    have hle : l.length - 4 ≤ l.length := by omega
    have hoP : Octets (l.take (l.length - 4)) := fun x hx => ho x (List.mem_of_mem_take hx)
    have hPl : (l.take (l.length - 4)).length = l.length - 4 := by rw [List.length_take]; omega
    have hbd : Below w.heap.size w w.drew := (Below.refl _ _).drew
    have HBD := Lib.hid hbd
    have HAD : Hid (∀ V, Below w.heap.size w V → Calls Tryd.prog 29 #[.slice a (l.length - 4) cap] V fun e w' => ∃ v', e = .returned v' ∧ w'.ownsRow V.heap.size 5 1 v' (l.length - 4 + 4) ((l.take (l.length - 4) ++ le4 (crcSum (l.take (l.length - 4)))).map byteV) ∧ Below V.heap.size V w') := Lib.hid fun V hV => by
      have := ckAdd_any (.slice a (l.length - 4) cap) (l.take (l.length - 4)) (htk.mono hV) hoP (by omega)
      rwa [hPl] at this
    have HTK := Lib.hid htk
    have HWS : Hid (WholeS l ↔ l.take (l.length - 4) ++ le4 (crcSum (l.take (l.length - 4))) = l) := Lib.hid Iff.rfl
    have HLEN : Hid ((l.take (l.length - 4) ++ le4 (crcSum (l.take (l.length - 4)))).length = l.length - 4 + 4) := Lib.hid (by rw [List.length_append, hPl]; rfl)
    have HOQ : Hid (Octets (l.take (l.length - 4) ++ le4 (crcSum (l.take (l.length - 4))))) := Lib.hid fun x hx => by
      rcases List.mem_append.1 hx with h | h
      · exact hoP x h
      · exact le4_octets _ x h
    have HO := Lib.hid ho
    have HCV : Hid (∀ V, Below w.heap.size w V → (convert 22 9 (.slice a l.length cap)).run Tryd.prog V = .ok (.string (strN l)) V) := Lib.hid fun V hV => (HL.out.mono hV).str
    have h4' : 4 ≤ l.length := by omega
    have HSD := Lib.hid (HCV.out _ hbd)
    clear htk hoP hPl hbd ho h4
    generalize l.take (l.length - 4) ++ le4 (crcSum (l.take (l.length - 4))) = Q at *
    have hm4 : l.length - 4 + 4 = l.length := by omega
    generalize l.length - 4 = m at *
    have hw1 : IntKind.i64.wrap (m : Int) = (m : Int) := IntWalk.i64_in _ (by omega)
    have hi0 : (0 : Int) ≤ (m : Int) := by omega
    have hi1 : (m : Int) ≤ (cap : Int) := by omega
    go_enter Tryd.func33, Tryd.ntmps33
    go_upto_region 3 with fail
    have hsd := HSD.out
    go_region_law (first
      | (go_simp; go_at_call 29; (with_reducible refine (HAD.out _ HBD.out).mono ?_); rintro e w3 ⟨v3, rfl, ho3, hb3⟩; have HB3 := Lib.hid (HBD.out.trans (hb3.mono HBD.out.size)); have HO3 := Lib.hid ho3; have hst := (ListAt.of_owns (f := byteV) (l := Q) (show w3.ownsRow w.drew.heap.size 5 1 v3 Q.length (Q.map byteV) by rw [HLEN.out]; exact ho3)).str; have hcv := HCV.out _ HB3.out; clear ho3 hb3))
    all_goals
      by_cases hQ : Q = l
      · have hneq : (!((strN Q).toList == (strN l).toList)) = false := by rw [strN_same HOQ.out HO.out, decide_eq_true hQ]; rfl
        rw [hneq]
        go_wp2
        go_ret2
        exact ⟨HB3.out, .inr (.inr ⟨h4', HWS.out.2 hQ, _, rfl, HTK.out.mono HB3.out⟩)⟩
      · have hneq : (!((strN Q).toList == (strN l).toList)) = true := by rw [strN_same HOQ.out HO.out, decide_eq_false hQ]; rfl
        rw [hneq]
        go_wp2
        go_ret2
        exact ⟨HB3.out, .inr (.inl ⟨h4', fun e => hQ (HWS.out.1 e), rfl⟩)⟩
end Go.Proofs.YtmihpbdgilmdiaaDoor
end
