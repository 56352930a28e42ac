import Derived.Test.YticoaioeeppapaaGreatDoorChecked

section
/- The degree table and a number's degree (was in DgA). -/
namespace Go.Proofs.YticoaioeeppapaaGreatDoor

/-- The table: bounds and degrees. -/
def dgTab : List (Int × Int) := [(10241, 1), (491582, 2), (712794, 3), (831695, 4), (948446, 10), (1032189, 11), (1048576, 40)]

/-- The degree of a number. -/
def dgOf (v : Int) : Int := if v < 10241 then 1 else if v < 491582 then 2 else if v < 712794 then 3 else if v < 831695 then 4 else if v < 948446 then 10 else if v < 1032189 then 11 else 40
theorem dgOf_bd (v : Int) : 1 ≤ dgOf v ∧ dgOf v ≤ 40 := by
  unfold dgOf
  repeat' split
  all_goals omega
end Go.Proofs.YticoaioeeppapaaGreatDoor
end

section
/- Package mix: the mathematics of mixing (modulo 2 to the 32) and of taking it back. -/
namespace Go.Proofs.YticoaioeeppapaaGreatDoor

theorem xor16 (h : Nat) (hh : h < 4294967296) : (h ^^^ h >>> 16) ^^^ (h ^^^ h >>> 16) >>> 16 = h := by
  have h0 : h >>> 16 >>> 16 = 0 := by
    rw [← Nat.shiftRight_add, Nat.shiftRight_eq_div_pow]; exact Nat.div_eq_of_lt hh
  rw [Nat.shiftRight_xor_distrib, h0, Nat.xor_zero, Nat.xor_assoc, Nat.xor_self, Nat.xor_zero]

theorem xor13 (h : Nat) (hh : h < 4294967296) : (h ^^^ h >>> 13) ^^^ ((h ^^^ h >>> 13) >>> 13 ^^^ (h ^^^ h >>> 13) >>> 26) = h := by
  have h0 : h >>> 13 >>> 26 = 0 := by
    rw [← Nat.shiftRight_add, Nat.shiftRight_eq_div_pow]; exact Nat.div_eq_of_lt (by omega)
  have h1 : h >>> 26 = h >>> 13 >>> 13 := by rw [← Nat.shiftRight_add]
  rw [Nat.shiftRight_xor_distrib, Nat.shiftRight_xor_distrib, h0, Nat.xor_zero, h1]
  generalize h >>> 13 >>> 13 = c
  generalize h >>> 13 = b
  rw [Nat.xor_assoc b c c, Nat.xor_self, Nat.xor_zero, Nat.xor_assoc, Nat.xor_self, Nat.xor_zero]

theorem xor13' (h : Nat) (hh : h < 4294967296) : (h ^^^ (h >>> 13 ^^^ h >>> 26)) ^^^ (h ^^^ (h >>> 13 ^^^ h >>> 26)) >>> 13 = h := by
  have h0 : h >>> 26 >>> 13 = 0 := by
    rw [← Nat.shiftRight_add, Nat.shiftRight_eq_div_pow]; exact Nat.div_eq_of_lt (by omega)
  have h1 : h >>> 26 = h >>> 13 >>> 13 := by rw [← Nat.shiftRight_add]
  rw [Nat.shiftRight_xor_distrib, Nat.shiftRight_xor_distrib, h0, Nat.xor_zero, h1]
  generalize h >>> 13 >>> 13 = c
  generalize h >>> 13 = b
  rw [Nat.xor_assoc h, Nat.xor_self, Nat.xor_zero]

theorem mul_back (x a b : Nat) (hx : x < 4294967296) (h : a * b % 4294967296 = 1) : x * a % 4294967296 * b % 4294967296 = x := by
  rw [Nat.mod_mul_mod, Nat.mul_assoc, Nat.mul_mod, h, Nat.mul_one, Nat.mod_mod, Nat.mod_eq_of_lt hx]

def foldN (h k : Nat) : Nat := h ^^^ h >>> k
def foldB (h : Nat) : Nat := h ^^^ (h >>> 13 ^^^ h >>> 26)
def mixN (x s : Nat) : Nat := foldN (foldN (foldN ((x * 2654435761 + s) % 4294967296) 16 * 2246822507 % 4294967296) 13 * 3266489909 % 4294967296) 16
def unmixN (h s : Nat) : Nat := (foldN (foldB (foldN h 16 * 2127672349 % 4294967296) * 2781581891 % 4294967296) 16 + (4294967296 - s)) % 4294967296 * 244002641 % 4294967296

theorem fold_lt (h k : Nat) (hh : h < 4294967296) : foldN h k < 4294967296 := by
  unfold foldN
  refine Nat.xor_lt_two_pow (n := 32) hh ?_
  rw [Nat.shiftRight_eq_div_pow]; exact Nat.lt_of_le_of_lt (Nat.div_le_self _ _) hh
theorem foldB_lt (h : Nat) (hh : h < 4294967296) : foldB h < 4294967296 := by
  unfold foldB
  have (k : Nat) : h >>> k < 2 ^ 32 := by rw [Nat.shiftRight_eq_div_pow]; exact Nat.lt_of_le_of_lt (Nat.div_le_self _ _) hh
  exact Nat.xor_lt_two_pow (n := 32) hh (Nat.xor_lt_two_pow (this 13) (this 26))
theorem fold_fold (h : Nat) (hh : h < 4294967296) : foldN (foldN h 16) 16 = h := xor16 h hh
theorem fold2_fold (h : Nat) (hh : h < 4294967296) : foldB (foldN h 13) = h := xor13 h hh
theorem fold_fold2 (h : Nat) (hh : h < 4294967296) : foldN (foldB h) 13 = h := xor13' h hh
theorem mod_lt32 (x : Nat) : x % 4294967296 < 4294967296 := Nat.mod_lt _ (by decide)
theorem mixN_lt (x s : Nat) : mixN x s < 4294967296 := fold_lt _ _ (mod_lt32 _)
theorem unmixN_lt (x s : Nat) : unmixN x s < 4294967296 := mod_lt32 _
theorem unmix_mix (x s : Nat) (hx : x < 4294967296) (hs : s < 4294967296) : unmixN (mixN x s) s = x := by
  unfold unmixN mixN
  rw [fold_fold _ (mod_lt32 _), mul_back _ 3266489909 2127672349 (fold_lt _ _ (mod_lt32 _)) (by decide), fold2_fold _ (mod_lt32 _), mul_back _ 2246822507 2781581891 (fold_lt _ _ (mod_lt32 _)) (by decide), fold_fold _ (mod_lt32 _)]
  have : ((x * 2654435761 + s) % 4294967296 + (4294967296 - s)) % 4294967296 = x * 2654435761 % 4294967296 := by omega
  rw [this, mul_back x 2654435761 244002641 hx (by decide)]
theorem salt_back (y s : Nat) (hy : y < 4294967296) (hs : s < 4294967296) : ((y + (4294967296 - s)) % 4294967296 * 244002641 % 4294967296 * 2654435761 + s) % 4294967296 = y := by
  rw [Nat.add_mod, mul_back _ 244002641 2654435761 (mod_lt32 _) (by decide)]; omega
theorem mix_unmix (h s : Nat) (hh : h < 4294967296) (hs : s < 4294967296) : mixN (unmixN h s) s = h := by
  unfold unmixN mixN
  rw [salt_back _ s (fold_lt _ _ (mod_lt32 _)) hs, fold_fold _ (mod_lt32 _), mul_back _ 2781581891 2246822507 (foldB_lt _ (mod_lt32 _)) (by decide), fold_fold2 _ (mod_lt32 _), mul_back _ 2127672349 3266489909 (fold_lt _ _ hh) (by decide), fold_fold _ hh]
theorem mix_inj (x y s : Nat) (hx : x < 4294967296) (hy : y < 4294967296) (hs : s < 4294967296) : mixN x s = mixN y s ↔ x = y :=
  ⟨fun h => by rw [← unmix_mix x s hx hs, h, unmix_mix y s hy hs], fun h => by rw [h]⟩
theorem awake_a : mixN 0 0 = 0 := by decide +kernel
theorem awake_b : mixN 7 9 = 4216259275 := by decide +kernel
theorem awake_c : unmixN 4216259275 9 = 7 := by decide +kernel
def timesN (a b : Nat) : Nat := (a * (b % 65536) + a * (b / 65536) % 4294967296 * 65536) % 4294967296
theorem timesN_eq (a b : Nat) : timesN a b = a * b % 4294967296 := by
  unfold timesN
  have e : a * b = a * (b % 65536) + a * (b / 65536) * 65536 := by
    rw [Nat.mul_assoc, ← Nat.mul_add]; congr 1; omega
  rw [e]
  generalize a * (b / 65536) = q
  generalize a * (b % 65536) = r at *
  omega
end Go.Proofs.YticoaioeeppapaaGreatDoor
end

section
/- The trip that a mixed number gives (was in LtB). -/
namespace Go.Proofs.YticoaioeeppapaaGreatDoor

/-- Degree, step and beginning of the trip that a mixed number gives. -/
def trD (l y : Nat) : Nat := min (dgOf ((mixN y 0 % 1048576 : Nat) : Int)).toNat l
def trS (p y : Nat) : Nat := 1 + mixN y 1 % (p - 1)
def trA (p y : Nat) : Nat := mixN y 2 % p
theorem trD_bd {l y : Nat} (h : 1 ≤ l) : 1 ≤ trD l y ∧ trD l y ≤ l := by
  have := dgOf_bd ((mixN y 0 % 1048576 : Nat) : Int)
  unfold trD
  omega
theorem trS_bd {p y : Nat} (h : 2 ≤ p) : 1 ≤ trS p y ∧ trS p y < p := by
  have := Nat.mod_lt (mixN y 1) (show p - 1 > 0 by omega)
  unfold trS
  omega
theorem trA_bd {p y : Nat} (h : 2 ≤ p) : trA p y < p := Nat.mod_lt _ (by omega)
end Go.Proofs.YticoaioeeppapaaGreatDoor
end
