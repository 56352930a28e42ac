/- Mathematics of package params: primes, ways to choose. -/
import Derived.Test.YtedadhoaegjhfaaDoorChecked
namespace Go.Proofs.YtedadhoaegjhfaaDoor

def IsP (n : Nat) : Prop := 2 ≤ n ∧ ∀ d, 2 ≤ d → d < n → n % d ≠ 0

theorem isP_of_root {c : Nat} (h2 : 2 ≤ c) (d0 : Nat) (hd : ∀ d, 2 ≤ d → d < d0 → c % d ≠ 0) (hr : c < d0 * d0) : IsP c := by
  refine ⟨h2, fun d h1 h3 h4 => ?_⟩
  obtain ⟨e, he⟩ := Nat.dvd_of_mod_eq_zero h4
  rcases Nat.lt_or_ge d d0 with hdd | hdd
  · exact hd d h1 hdd h4
  · rcases Nat.lt_or_ge e d0 with h | h
    · have he2 : 2 ≤ e := by
        rcases (by omega : e = 0 ∨ e = 1 ∨ 2 ≤ e) with rfl | rfl | h'
        · omega
        · omega
        · exact h'
      exact hd e he2 h (by rw [he]; exact Nat.mul_mod_left d e)
    · have := Nat.mul_le_mul hdd h
      omega

theorem not_isP {c d : Nat} (h1 : 2 ≤ d) (h2 : d < c) (h : c % d = 0) : ¬ IsP c := fun hp => hp.2 d h1 h2 h

theorem noDiv_of {c : Nat} (n : Nat) (h : ∀ j : Fin n, c % (j.1 + 2) ≠ 0) (d : Nat) (h1 : 2 ≤ d) (h2 : d < n + 2) : c % d ≠ 0 := by
  have := h ⟨d - 2, by omega⟩
  rwa [show d - 2 + 2 = d by omega] at this
set_option maxRecDepth 100000 in
theorem p65521 : IsP 65521 := isP_of_root (by decide) 256 (fun d h1 h2 => noDiv_of 254 (by decide +kernel) d h1 h2) (by decide)
set_option maxRecDepth 100000 in
theorem p65537 : IsP 65537 := isP_of_root (by decide) 257 (fun d h1 h2 => noDiv_of 255 (by decide +kernel) d h1 h2) (by decide)
theorem p19 : IsP 19 := isP_of_root (by decide) 5 (fun d h1 h2 => noDiv_of 3 (by decide +kernel) d h1 h2) (by decide)
theorem p157 : IsP 157 := isP_of_root (by decide) 13 (fun d h1 h2 => noDiv_of 11 (by decide +kernel) d h1 h2) (by decide)

/-- The least prime that is at least n. -/
def LeastP (n : Int) (p : Nat) : Prop := IsP p ∧ n ≤ (p : Int) ∧ ∀ q : Nat, n ≤ (q : Int) → q < p → ¬ IsP q
theorem LeastP.unique {n : Int} {p q : Nat} (h : LeastP n p) (h' : LeastP n q) : p = q := by
  rcases Nat.lt_trichotomy p q with hh | hh | hh
  · exact absurd h.1 (h'.2.2 p h.2.1 hh)
  · exact hh
  · exact absurd h'.1 (h.2.2 q h'.2.1 hh)
theorem LeastP.le {n : Int} {p : Nat} (h : LeastP n p) {q : Nat} (hq : IsP q) (hn : n ≤ (q : Int)) : p ≤ q := by
  rcases Nat.lt_or_ge q p with hh | hh
  · exact absurd hq (h.2.2 q hn hh)
  · exact hh
theorem LeastP.mono {n m : Int} {p q : Nat} (h : LeastP n p) (h' : LeastP m q) (hnm : n ≤ m) : p ≤ q := h.le h'.1 (by have := h'.2.1; omega)
theorem LeastP.two {n : Int} {p : Nat} (h : LeastP n p) : 2 ≤ p := h.1.1
theorem LeastP.self {n : Nat} {p : Nat} (h : LeastP (n : Int) p) : p = n ↔ IsP n := by
  constructor
  · rintro rfl; exact h.1
  · intro hn
    have h1 := h.le hn (Int.le_refl _)
    have h2 := h.2.1
    omega

/-- In how many ways k of n can be chosen. -/
def ch : Nat → Nat → Nat
  | _, 0 => 1
  | 0, _ + 1 => 0
  | n + 1, k + 1 => ch n k + ch n (k + 1)
theorem ch_zero (n : Nat) : ch n 0 = 1 := by cases n <;> rfl
theorem ch_succ (n k : Nat) : ch (n + 1) (k + 1) = ch n k + ch n (k + 1) := rfl
theorem ch_over : ∀ (n k : Nat), n < k → ch n k = 0 := by
  intro n
  induction n with
  | zero => intro k hk; cases k with
    | zero => omega
    | succ k => rfl
  | succ n ih => intro k hk; cases k with
    | zero => omega
    | succ k => rw [ch_succ, ih k (by omega), ih (k + 1) (by omega)]
theorem ch_self (n : Nat) : ch n n = 1 := by
  induction n with
  | zero => rfl
  | succ n ih => rw [ch_succ, ih, ch_over n (n + 1) (by omega)]
theorem ch_symm' : ∀ (n a b : Nat), a + b = n → ch n a = ch n b := by
  intro n
  induction n with
  | zero => intro a b h; obtain ⟨rfl, rfl⟩ : a = 0 ∧ b = 0 := by omega
            rfl
  | succ n ih =>
    intro a b h
    cases a with
    | zero => obtain rfl : b = n + 1 := by omega
              rw [ch_zero, ch_self]
    | succ a =>
      cases b with
      | zero => obtain rfl : a = n := by omega
                rw [ch_zero, ch_self]
      | succ b =>
        rw [ch_succ, ch_succ, ih a (b + 1) (by omega), ih (a + 1) b (by omega)]
        omega
theorem ch_symm (n k : Nat) (h : k ≤ n) : ch n (n - k) = ch n k := ch_symm' n _ _ (by omega)
theorem ch_mul : ∀ (n k : Nat), (k + 1) * ch (n + 1) (k + 1) = (n + 1) * ch n k := by
  intro n
  induction n with
  | zero => intro k; cases k with
    | zero => rfl
    | succ k => show (k + 2) * 0 = 1 * 0; omega
  | succ n ih =>
    intro k
    cases k with
    | zero =>
      have h := ih 0
      rw [ch_zero] at h
      rw [ch_zero, ch_succ, ch_zero]
      omega
    | succ j =>
      have h1 := ih j
      have h2 := ih (j + 1)
      have e1 : ch (n + 1 + 1) (j + 1 + 1) = ch (n + 1) (j + 1) + ch (n + 1) (j + 1 + 1) := rfl
      have e2 : ch (n + 1) (j + 1) = ch n j + ch n (j + 1) := rfl
      rw [e1, Nat.mul_add, h2, Nat.succ_mul, h1]
      have e3 : (n + 1 + 1) * ch (n + 1) (j + 1) = (n + 1) * ch (n + 1) (j + 1) + ch (n + 1) (j + 1) := Nat.succ_mul _ _
      rw [e3, e2, Nat.mul_add]
      omega
theorem ch_le2 : ∀ (n k : Nat), ch n k ≤ 2 ^ n := by
  intro n
  induction n with
  | zero => intro k; cases k <;> simp [ch]
  | succ n ih => intro k; cases k with
    | zero => rw [ch_zero]; exact Nat.pos_of_ne_zero (by simp)
    | succ k => rw [ch_succ, Nat.pow_succ]; have := ih k; have := ih (k + 1); omega
theorem ch_le10 : ∀ (m k : Nat), ch (m + 10) k ≤ 252 * 2 ^ m := by
  intro m
  induction m with
  | zero =>
    intro k
    rcases Nat.lt_or_ge 10 k with h | h
    · rw [ch_over _ _ (by omega)]; omega
    · have : ∀ k, k ≤ 10 → ch 10 k ≤ 252 := by decide
      exact this k h
  | succ m ih => intro k; cases k with
    | zero => rw [ch_zero]; have : 0 < 2 ^ (m + 1) := Nat.pos_of_ne_zero (by simp); omega
    | succ k =>
      have e : ch (m + 1 + 10) (k + 1) = ch (m + 10) k + ch (m + 10) (k + 1) := by
        rw [show m + 1 + 10 = (m + 10) + 1 by omega]; rfl
      rw [e, Nat.pow_succ]
      have := ih k
      have := ih (k + 1)
      omega
theorem ch_bound (n k : Nat) (h : n ≤ 60) : ch n k ≤ 283726776524341248 := by
  rcases Nat.lt_or_ge n 10 with h1 | h1
  · have := ch_le2 n k
    have : 2 ^ n ≤ 2 ^ 10 := Nat.pow_le_pow_right (by omega) (by omega)
    omega
  · have e := ch_le10 (n - 10) k
    rw [show n - 10 + 10 = n by omega] at e
    have : 2 ^ (n - 10) ≤ 2 ^ 50 := Nat.pow_le_pow_right (by omega) (by omega)
    omega

/-- In how many ways k of n can be chosen: of whatever k. -/
def chI (n : Nat) (k : Int) : Nat := if k < 0 ∨ (n : Int) < k then 0 else ch n k.toNat
theorem chI_nat (n k : Nat) : chI n (k : Int) = ch n k := by
  unfold chI
  rcases Nat.lt_or_ge n k with h | h
  · rw [if_pos (.inr (by omega)), ch_over n k h]
  · rw [if_neg (by omega)]; rfl
theorem chI_out (n : Nat) (k : Int) (h : k < 0 ∨ (n : Int) < k) : chI n k = 0 := if_pos h

/-- The least number with x times x - 1 at least 2 k. -/
def LeastX (k x : Nat) : Prop := 1 ≤ x ∧ 2 * k ≤ x * (x - 1) ∧ ∀ y, 1 ≤ y → y < x → y * (y - 1) < 2 * k
theorem LeastX.mono {k l x y : Nat} (h : LeastX k x) (h' : LeastX l y) (hkl : k ≤ l) : x ≤ y := by
  rcases Nat.lt_or_ge y x with hh | hh
  · have := h.2.2 y h'.1 hh
    have := h'.2.1
    omega
  · exact hh
theorem LeastX.unique {k x y : Nat} (h : LeastX k x) (h' : LeastX k y) : x = y := Nat.le_antisymm (h.mono h' (Nat.le_refl _)) (h'.mono h (Nat.le_refl _))
theorem LeastX.le {k x : Nat} (h : LeastX k x) (hk : k ≤ 128) : x ≤ 17 := by
  rcases Nat.lt_or_ge 17 x with hh | hh
  · have := h.2.2 17 (by omega) hh
    omega
  · exact hh
theorem LeastX.ge {k x : Nat} (h : LeastX k x) (hk : 1 ≤ k) : 2 ≤ x := by
  rcases Nat.lt_or_ge x 2 with hh | hh
  · have h1 := h.1
    obtain rfl : x = 1 := by omega
    have := h.2.1
    omega
  · exact hh

/-- The least number of which half can be chosen in so many ways. -/
def LeastH (u h : Nat) : Prop := u ≤ ch h ((h + 1) / 2) ∧ ∀ j, j < h → ch j ((j + 1) / 2) < u
theorem LeastH.mono {u v h g : Nat} (H : LeastH u h) (H' : LeastH v g) (huv : u ≤ v) : h ≤ g := by
  rcases Nat.lt_or_ge g h with hh | hh
  · have := H.2 g hh
    have := H'.1
    omega
  · exact hh
theorem LeastH.unique {u h g : Nat} (H : LeastH u h) (H' : LeastH u g) : h = g := Nat.le_antisymm (H.mono H' (Nat.le_refl _)) (H'.mono H (Nat.le_refl _))
theorem ch105 : ch 10 5 = 252 := by decide
theorem LeastH.le {u h : Nat} (H : LeastH u h) (hu : u ≤ 252) : h ≤ 10 := by
  rcases Nat.lt_or_ge 10 h with hh | hh
  · have := H.2 10 hh
    rw [show (10 + 1) / 2 = 5 from rfl, ch105] at this
    omega
  · exact hh

/-- The numbers of k source symbols. -/
def OfP (k s h l p : Nat) : Prop := (∃ x, LeastX k x ∧ LeastP (((k + 99) / 100 + x : Nat) : Int) s) ∧ LeastH (k + s) h ∧ l = k + s + h ∧ LeastP (l : Int) p
theorem OfP.unique {k s h l p s' h' l' p' : Nat} (H : OfP k s h l p) (H' : OfP k s' h' l' p') : s = s' ∧ h = h' ∧ l = l' ∧ p = p' := by
  obtain ⟨⟨x, hx, hs⟩, hh, rfl, hp⟩ := H
  obtain ⟨⟨x', hx', hs'⟩, hh', rfl, hp'⟩ := H'
  obtain rfl := hx.unique hx'
  obtain rfl := hs.unique hs'
  obtain rfl := hh.unique hh'
  obtain rfl := hp.unique hp'
  exact ⟨rfl, rfl, rfl, rfl⟩
theorem up_le {k : Nat} (hk : k ≤ 128) : (k + 99) / 100 ≤ 2 := by omega
theorem OfP.bounds {k s h l p : Nat} (H : OfP k s h l p) (h1 : 1 ≤ k) (h2 : k ≤ 128) : 3 ≤ s ∧ s ≤ 19 ∧ h ≤ 10 ∧ 1 ≤ h ∧ l ≤ 157 ∧ l ≤ p ∧ p ≤ 157 := by
  obtain ⟨⟨x, hx, hs⟩, hh, rfl, hp⟩ := H
  have hx1 := hx.le h2
  have hx2 := hx.ge h1
  have hs1 := hs.le p19 (by omega)
  have hs2 := hs.2.1
  have hh1 := hh.le (by omega)
  have hp1 := hp.le p157 (by omega)
  have hp2 := hp.2.1
  have hh2 : 1 ≤ h := by
    rcases Nat.eq_zero_or_pos h with rfl | hh
    · have := hh.1
      rw [show ch 0 ((0 + 1) / 2) = 1 from rfl] at this
      omega
    · exact hh
  refine ⟨by omega, by omega, by omega, by omega, by omega, by omega, by omega⟩
theorem OfP.mono {k s h l p s' h' l' p' : Nat} (H : OfP k s h l p) (H' : OfP (k + 1) s' h' l' p') : s ≤ s' ∧ h ≤ h' ∧ l < l' ∧ p ≤ p' := by
  obtain ⟨⟨x, hx, hs⟩, hh, rfl, hp⟩ := H
  obtain ⟨⟨x', hx', hs'⟩, hh', rfl, hp'⟩ := H'
  have h1 := hx.mono hx' (by omega)
  have h2 := hs.mono hs' (by omega)
  have h3 := hh.mono hh' (by omega)
  exact ⟨h2, h3, by omega, hp.mono hp' (by omega)⟩
end Go.Proofs.YtedadhoaegjhfaaDoor
