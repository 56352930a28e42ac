import Derived.Test.YtkhdjjcflbdegaaGreatDoorChecked
import Derived.Test.YtkhdjjcflbdegaaGreatDoorG03

section
/- Mathematics of package params: primes, ways to choose. -/
namespace Go.Proofs.YtkhdjjcflbdegaaGreatDoor

def IsP (n : Nat) : Prop := 2 ≤ n ∧ ∀ d, 2 ≤ d → d < n → n % d ≠ 0

theorem isP_of_root {c : Nat} (h2 : 2 ≤ c) (d0 : Nat) (hd : ∀ d, 2 ≤ d → d < d0 → c % d ≠ 0) (hr : c < d0 * d0) : IsP c := by
  refine ⟨h2, fun d h1 h3 h4 => ?_⟩
  obtain ⟨e, he⟩ := Nat.dvd_of_mod_eq_zero h4
  rcases Nat.lt_or_ge d d0 with hdd | hdd
  · exact hd d h1 hdd h4
  · rcases Nat.lt_or_ge e d0 with h | h
    · have he2 : 2 ≤ e := by
        rcases (by omega : e = 0 ∨ e = 1 ∨ 2 ≤ e) with rfl | rfl | h'
        · omega
        · omega
        · exact h'
      exact hd e he2 h (by rw [he]; exact Nat.mul_mod_left d e)
    · have := Nat.mul_le_mul hdd h
      omega

theorem not_isP {c d : Nat} (h1 : 2 ≤ d) (h2 : d < c) (h : c % d = 0) : ¬ IsP c := fun hp => hp.2 d h1 h2 h

theorem noDiv_of {c : Nat} (n : Nat) (h : ∀ j : Fin n, c % (j.1 + 2) ≠ 0) (d : Nat) (h1 : 2 ≤ d) (h2 : d < n + 2) : c % d ≠ 0 := by
  have := h ⟨d - 2, by omega⟩
  rwa [show d - 2 + 2 = d by omega] at this
set_option maxRecDepth 100000 in
theorem p65521 : IsP 65521 := isP_of_root (by decide) 256 (fun d h1 h2 => noDiv_of 254 (by decide +kernel) d h1 h2) (by decide)
set_option maxRecDepth 100000 in
theorem p65537 : IsP 65537 := isP_of_root (by decide) 257 (fun d h1 h2 => noDiv_of 255 (by decide +kernel) d h1 h2) (by decide)
theorem p19 : IsP 19 := isP_of_root (by decide) 5 (fun d h1 h2 => noDiv_of 3 (by decide +kernel) d h1 h2) (by decide)
theorem p157 : IsP 157 := isP_of_root (by decide) 13 (fun d h1 h2 => noDiv_of 11 (by decide +kernel) d h1 h2) (by decide)

/-- The least prime that is at least n. -/
def LeastP (n : Int) (p : Nat) : Prop := IsP p ∧ n ≤ (p : Int) ∧ ∀ q : Nat, n ≤ (q : Int) → q < p → ¬ IsP q
theorem LeastP.unique {n : Int} {p q : Nat} (h : LeastP n p) (h' : LeastP n q) : p = q := by
  rcases Nat.lt_trichotomy p q with hh | hh | hh
  · exact absurd h.1 (h'.2.2 p h.2.1 hh)
  · exact hh
  · exact absurd h'.1 (h.2.2 q h'.2.1 hh)
theorem LeastP.le {n : Int} {p : Nat} (h : LeastP n p) {q : Nat} (hq : IsP q) (hn : n ≤ (q : Int)) : p ≤ q := by
  rcases Nat.lt_or_ge q p with hh | hh
  · exact absurd hq (h.2.2 q hn hh)
  · exact hh
theorem LeastP.mono {n m : Int} {p q : Nat} (h : LeastP n p) (h' : LeastP m q) (hnm : n ≤ m) : p ≤ q := h.le h'.1 (by have := h'.2.1; omega)
theorem LeastP.two {n : Int} {p : Nat} (h : LeastP n p) : 2 ≤ p := h.1.1
theorem LeastP.self {n : Nat} {p : Nat} (h : LeastP (n : Int) p) : p = n ↔ IsP n := by
  constructor
  · rintro rfl; exact h.1
  · intro hn
    have h1 := h.le hn (Int.le_refl _)
    have h2 := h.2.1
    omega

/-- In how many ways k of n can be chosen. -/
def ch : Nat → Nat → Nat
  | _, 0 => 1
  | 0, _ + 1 => 0
  | n + 1, k + 1 => ch n k + ch n (k + 1)
theorem ch_zero (n : Nat) : ch n 0 = 1 := by cases n <;> rfl
theorem ch_succ (n k : Nat) : ch (n + 1) (k + 1) = ch n k + ch n (k + 1) := rfl
theorem ch_over : ∀ (n k : Nat), n < k → ch n k = 0 := by
  intro n
  induction n with
  | zero => intro k hk; cases k with
    | zero => omega
    | succ k => rfl
  | succ n ih => intro k hk; cases k with
    | zero => omega
    | succ k => rw [ch_succ, ih k (by omega), ih (k + 1) (by omega)]
theorem ch_self (n : Nat) : ch n n = 1 := by
  induction n with
  | zero => rfl
  | succ n ih => rw [ch_succ, ih, ch_over n (n + 1) (by omega)]
theorem ch_symm' : ∀ (n a b : Nat), a + b = n → ch n a = ch n b := by
  intro n
  induction n with
  | zero => intro a b h; obtain ⟨rfl, rfl⟩ : a = 0 ∧ b = 0 := by omega
            rfl
  | succ n ih =>
    intro a b h
    cases a with
    | zero => obtain rfl : b = n + 1 := by omega
              rw [ch_zero, ch_self]
    | succ a =>
      cases b with
      | zero => obtain rfl : a = n := by omega
                rw [ch_zero, ch_self]
      | succ b =>
        rw [ch_succ, ch_succ, ih a (b + 1) (by omega), ih (a + 1) b (by omega)]
        omega
theorem ch_symm (n k : Nat) (h : k ≤ n) : ch n (n - k) = ch n k := ch_symm' n _ _ (by omega)
theorem ch_mul : ∀ (n k : Nat), (k + 1) * ch (n + 1) (k + 1) = (n + 1) * ch n k := by
  intro n
  induction n with
  | zero => intro k; cases k with
    | zero => rfl
    | succ k => show (k + 2) * 0 = 1 * 0; omega
  | succ n ih =>
    intro k
    cases k with
    | zero =>
      have h := ih 0
      rw [ch_zero] at h
      rw [ch_zero, ch_succ, ch_zero]
      omega
    | succ j =>
      have h1 := ih j
      have h2 := ih (j + 1)
      have e1 : ch (n + 1 + 1) (j + 1 + 1) = ch (n + 1) (j + 1) + ch (n + 1) (j + 1 + 1) := rfl
      have e2 : ch (n + 1) (j + 1) = ch n j + ch n (j + 1) := rfl
      rw [e1, Nat.mul_add, h2, Nat.succ_mul, h1]
      have e3 : (n + 1 + 1) * ch (n + 1) (j + 1) = (n + 1) * ch (n + 1) (j + 1) + ch (n + 1) (j + 1) := Nat.succ_mul _ _
      rw [e3, e2, Nat.mul_add]
      omega
theorem ch_le2 : ∀ (n k : Nat), ch n k ≤ 2 ^ n := by
  intro n
  induction n with
  | zero => intro k; cases k <;> simp [ch]
  | succ n ih => intro k; cases k with
    | zero => rw [ch_zero]; exact Nat.pos_of_ne_zero (by simp)
    | succ k => rw [ch_succ, Nat.pow_succ]; have := ih k; have := ih (k + 1); omega
theorem ch_le10 : ∀ (m k : Nat), ch (m + 10) k ≤ 252 * 2 ^ m := by
  intro m
  induction m with
  | zero =>
    intro k
    rcases Nat.lt_or_ge 10 k with h | h
    · rw [ch_over _ _ (by omega)]; omega
    · have : ∀ k, k ≤ 10 → ch 10 k ≤ 252 := by decide
      exact this k h
  | succ m ih => intro k; cases k with
    | zero => rw [ch_zero]; have : 0 < 2 ^ (m + 1) := Nat.pos_of_ne_zero (by simp); omega
    | succ k =>
      have e : ch (m + 1 + 10) (k + 1) = ch (m + 10) k + ch (m + 10) (k + 1) := by
        rw [show m + 1 + 10 = (m + 10) + 1 by omega]; rfl
      rw [e, Nat.pow_succ]
      have := ih k
      have := ih (k + 1)
      omega
theorem ch_bound (n k : Nat) (h : n ≤ 60) : ch n k ≤ 283726776524341248 := by
  rcases Nat.lt_or_ge n 10 with h1 | h1
  · have := ch_le2 n k
    have : 2 ^ n ≤ 2 ^ 10 := Nat.pow_le_pow_right (by omega) (by omega)
    omega
  · have e := ch_le10 (n - 10) k
    rw [show n - 10 + 10 = n by omega] at e
    have : 2 ^ (n - 10) ≤ 2 ^ 50 := Nat.pow_le_pow_right (by omega) (by omega)
    omega

/-- In how many ways k of n can be chosen: of whatever k. -/
def chI (n : Nat) (k : Int) : Nat := if k < 0 ∨ (n : Int) < k then 0 else ch n k.toNat
theorem chI_nat (n k : Nat) : chI n (k : Int) = ch n k := by
  unfold chI
  rcases Nat.lt_or_ge n k with h | h
  · rw [if_pos (.inr (by omega)), ch_over n k h]
  · rw [if_neg (by omega)]; rfl
theorem chI_out (n : Nat) (k : Int) (h : k < 0 ∨ (n : Int) < k) : chI n k = 0 := if_pos h

/-- The least number with x times x - 1 at least 2 k. -/
def LeastX (k x : Nat) : Prop := 1 ≤ x ∧ 2 * k ≤ x * (x - 1) ∧ ∀ y, 1 ≤ y → y < x → y * (y - 1) < 2 * k
theorem LeastX.mono {k l x y : Nat} (h : LeastX k x) (h' : LeastX l y) (hkl : k ≤ l) : x ≤ y := by
  rcases Nat.lt_or_ge y x with hh | hh
  · have := h.2.2 y h'.1 hh
    have := h'.2.1
    omega
  · exact hh
theorem LeastX.unique {k x y : Nat} (h : LeastX k x) (h' : LeastX k y) : x = y := Nat.le_antisymm (h.mono h' (Nat.le_refl _)) (h'.mono h (Nat.le_refl _))
theorem LeastX.le {k x : Nat} (h : LeastX k x) (hk : k ≤ 128) : x ≤ 17 := by
  rcases Nat.lt_or_ge 17 x with hh | hh
  · have := h.2.2 17 (by omega) hh
    omega
  · exact hh
theorem LeastX.ge {k x : Nat} (h : LeastX k x) (hk : 1 ≤ k) : 2 ≤ x := by
  rcases Nat.lt_or_ge x 2 with hh | hh
  · have h1 := h.1
    obtain rfl : x = 1 := by omega
    have := h.2.1
    omega
  · exact hh

/-- The least number of which half can be chosen in so many ways. -/
def LeastH (u h : Nat) : Prop := u ≤ ch h ((h + 1) / 2) ∧ ∀ j, j < h → ch j ((j + 1) / 2) < u
theorem LeastH.mono {u v h g : Nat} (H : LeastH u h) (H' : LeastH v g) (huv : u ≤ v) : h ≤ g := by
  rcases Nat.lt_or_ge g h with hh | hh
  · have := H.2 g hh
    have := H'.1
    omega
  · exact hh
theorem LeastH.unique {u h g : Nat} (H : LeastH u h) (H' : LeastH u g) : h = g := Nat.le_antisymm (H.mono H' (Nat.le_refl _)) (H'.mono H (Nat.le_refl _))
theorem ch105 : ch 10 5 = 252 := by decide
theorem LeastH.le {u h : Nat} (H : LeastH u h) (hu : u ≤ 252) : h ≤ 10 := by
  rcases Nat.lt_or_ge 10 h with hh | hh
  · have := H.2 10 hh
    rw [show (10 + 1) / 2 = 5 from rfl, ch105] at this
    omega
  · exact hh

/-- The numbers of k source symbols. -/
def OfP (k s h l p : Nat) : Prop := (∃ x, LeastX k x ∧ LeastP (((k + 99) / 100 + x : Nat) : Int) s) ∧ LeastH (k + s) h ∧ l = k + s + h ∧ LeastP (l : Int) p
theorem OfP.unique {k s h l p s' h' l' p' : Nat} (H : OfP k s h l p) (H' : OfP k s' h' l' p') : s = s' ∧ h = h' ∧ l = l' ∧ p = p' := by
  obtain ⟨⟨x, hx, hs⟩, hh, rfl, hp⟩ := H
  obtain ⟨⟨x', hx', hs'⟩, hh', rfl, hp'⟩ := H'
  obtain rfl := hx.unique hx'
  obtain rfl := hs.unique hs'
  obtain rfl := hh.unique hh'
  obtain rfl := hp.unique hp'
  exact ⟨rfl, rfl, rfl, rfl⟩
theorem up_le {k : Nat} (hk : k ≤ 128) : (k + 99) / 100 ≤ 2 := by omega
theorem OfP.bounds {k s h l p : Nat} (H : OfP k s h l p) (h1 : 1 ≤ k) (h2 : k ≤ 128) : 3 ≤ s ∧ s ≤ 19 ∧ h ≤ 10 ∧ 1 ≤ h ∧ l ≤ 157 ∧ l ≤ p ∧ p ≤ 157 := by
  obtain ⟨⟨x, hx, hs⟩, hh, rfl, hp⟩ := H
  have hx1 := hx.le h2
  have hx2 := hx.ge h1
  have hs1 := hs.le p19 (by omega)
  have hs2 := hs.2.1
  have hh1 := hh.le (by omega)
  have hp1 := hp.le p157 (by omega)
  have hp2 := hp.2.1
  have hh2 : 1 ≤ h := by
    rcases Nat.eq_zero_or_pos h with rfl | hh
    · have := hh.1
      rw [show ch 0 ((0 + 1) / 2) = 1 from rfl] at this
      omega
    · exact hh
  refine ⟨by omega, by omega, by omega, by omega, by omega, by omega, by omega⟩
theorem OfP.mono {k s h l p s' h' l' p' : Nat} (H : OfP k s h l p) (H' : OfP (k + 1) s' h' l' p') : s ≤ s' ∧ h ≤ h' ∧ l < l' ∧ p ≤ p' := by
  obtain ⟨⟨x, hx, hs⟩, hh, rfl, hp⟩ := H
  obtain ⟨⟨x', hx', hs'⟩, hh', rfl, hp'⟩ := H'
  have h1 := hx.mono hx' (by omega)
  have h2 := hs.mono hs' (by omega)
  have h3 := hh.mono hh' (by omega)
  exact ⟨h2, h3, by omega, hp.mono hp' (by omega)⟩
end Go.Proofs.YtkhdjjcflbdegaaGreatDoor
end

section
/- Mathematics of package precode: the numbers g(i) of one weight, the rows. -/
namespace Go.Proofs.YtkhdjjcflbdegaaGreatDoor

/-! ### numbers of one weight -/
/-- The number g(i). -/
def gry (i : Nat) : Nat := i ^^^ (i / 2)
/-- Those of the first k numbers that have that weight. -/
def graysTo (w k : Nat) : List Nat := ((List.range k).map gry).filter fun g => pop g == w
theorem graysTo_zero (w : Nat) : graysTo w 0 = [] := rfl
theorem graysTo_succ (w k : Nat) : graysTo w (k + 1) = graysTo w k ++ if pop (gry k) = w then [gry k] else [] := by
  unfold graysTo
  rw [List.range_succ, List.map_append, List.filter_append, List.map_cons, List.map_nil, List.filter_cons, List.filter_nil]
  generalize pop (gry k) = x
  simp only [beq_iff_eq]
theorem graysTo_one {w k : Nat} (h : pop (gry k) = w) : graysTo w (k + 1) = graysTo w k ++ [gry k] := by rw [graysTo_succ, if_pos h]
theorem graysTo_none {w k : Nat} (h : pop (gry k) ≠ w) : graysTo w (k + 1) = graysTo w k := by rw [graysTo_succ, if_neg h, List.append_nil]
theorem graysTo_add (w k : Nat) : ∀ d, graysTo w k <+: graysTo w (k + d)
  | 0 => List.prefix_refl _
  | d + 1 => (graysTo_add w k d).trans (by rw [← Nat.add_assoc, graysTo_succ]; exact List.prefix_append _ _)
theorem graysTo_le (w : Nat) {k m : Nat} (h : k ≤ m) : graysTo w k <+: graysTo w m := by
  obtain ⟨d, rfl⟩ : ∃ d, m = k + d := ⟨m - k, by omega⟩
  exact graysTo_add w k d
theorem graysTo_length (w k : Nat) : (graysTo w k).length ≤ k := by
  unfold graysTo
  exact Nat.le_trans (List.length_filter_le _ _) (by simp)
theorem prefix_eq {α : Type} {l m : List α} (h : l <+: m) (hl : m.length ≤ l.length) : l = m := h.eq_of_length_le hl

theorem gry_lt {i n : Nat} (h : i < 2 ^ n) : gry i < 2 ^ n := Nat.xor_lt_two_pow h (Nat.lt_of_le_of_lt (Nat.div_le_self _ _) h)
theorem gry_half (i : Nat) : gry i / 2 = gry (i / 2) := by unfold gry; rw [Nat.xor_div_two]
theorem gry_odd (i : Nat) : gry i % 2 = (i + i / 2) % 2 := by
  unfold gry
  have h : (i ^^^ i / 2).testBit 0 = (i.testBit 0 ^^ (i / 2).testBit 0) := Nat.testBit_xor ..
  rw [Nat.testBit_zero, Nat.testBit_zero, Nat.testBit_zero] at h
  generalize (i ^^^ i / 2) = x at *
  rcases Nat.mod_two_eq_zero_or_one x with h1 | h1 <;> rcases Nat.mod_two_eq_zero_or_one i with h2 | h2 <;> rcases Nat.mod_two_eq_zero_or_one (i / 2) with h3 | h3 <;> simp [h1, h2, h3] at h <;> omega
theorem gry_inj_lt : ∀ n i j, i < 2 ^ n → j < 2 ^ n → gry i = gry j → i = j := by
  intro n
  induction n with
  | zero => intro i j hi hj _; simp at hi hj; omega
  | succ n ih =>
    intro i j hi hj h
    have h1 : i / 2 = j / 2 := ih (i / 2) (j / 2) (by rw [Nat.pow_succ] at hi; omega) (by rw [Nat.pow_succ] at hj; omega) (by rw [← gry_half, ← gry_half, h])
    have h2 := gry_odd i
    have h3 := gry_odd j
    rw [h, h3] at h2
    omega
theorem gry_inj {i j : Nat} (h : gry i = gry j) : i = j := by
  have h1 : i < 2 ^ (i + j) ∨ i = 0 ∧ j = 0 := by
    rcases Nat.eq_zero_or_pos (i + j) with h' | h'
    · exact .inr (by omega)
    · exact .inl (Nat.lt_of_le_of_lt (Nat.le_add_right i j) Nat.lt_two_pow_self)
  rcases h1 with h1 | h1
  · exact gry_inj_lt (i + j) i j h1 (Nat.lt_of_le_of_lt (Nat.le_add_left j i) Nat.lt_two_pow_self) h
  · omega
theorem graysTo_mem {w k x : Nat} (h : x ∈ graysTo w k) : pop x = w ∧ ∃ i, i < k ∧ gry i = x := by
  unfold graysTo at h
  rw [List.mem_filter, List.mem_map] at h
  obtain ⟨⟨i, hi, rfl⟩, h2⟩ := h
  exact ⟨by simpa using h2, i, List.mem_range.1 hi, rfl⟩
theorem graysTo_nodup (w k : Nat) : (graysTo w k).Nodup := by
  unfold graysTo List.Nodup
  refine List.Pairwise.filter _ (List.Pairwise.map gry (R := (· ≠ ·)) (fun a b hab h => hab (gry_inj h)) ?_)
  exact List.nodup_range

/-- The first n numbers of that weight, or as many as there are. -/
def IsGr (w n : Nat) (l : List Nat) : Prop := ∃ k, k ≤ 1048576 ∧ l = graysTo w k ∧ l.length ≤ n ∧ (l.length = n ∨ k = 1048576)
theorem IsGr.unique {w n : Nat} {l m : List Nat} (h : IsGr w n l) (h' : IsGr w n m) : l = m := by
  have key : ∀ {l m : List Nat} {k q : Nat}, k ≤ q → q ≤ 1048576 → l = graysTo w k → m = graysTo w q → m.length ≤ n → (l.length = n ∨ k = 1048576) → l = m := by
    intro l m k q hkq hq hl hm hn ho
    rcases ho with ho | ho
    · exact prefix_eq (by rw [hl, hm]; exact graysTo_le w hkq) (by omega)
    · rw [hl, hm, show k = q by omega]
  obtain ⟨k, k1, k2, k3, k4⟩ := h
  obtain ⟨q, q1, q2, q3, q4⟩ := h'
  rcases Nat.le_total k q with hh | hh
  · exact key hh q1 k2 q2 q3 k4
  · exact (key hh k1 q2 k2 k3 q4).symm
theorem IsGr.take {w n m : Nat} {l : List Nat} (h : IsGr w n l) (hm : m ≤ 1048576) (hn : n ≤ (graysTo w m).length) : l.length = n ∧ ∀ x ∈ l, x ∈ graysTo w m := by
  obtain ⟨k, k1, rfl, k3, k4⟩ := h
  rcases Nat.le_total k m with hh | hh
  · have hp := graysTo_le w hh
    refine ⟨?_, fun x hx => hp.subset hx⟩
    rcases k4 with k4 | k4
    · exact k4
    · have : k = m := by omega
      subst this
      omega
  · have hp := graysTo_le w hh
    have e := prefix_eq hp (by omega)
    rw [← e]
    exact ⟨by have := hp.length_le; omega, fun x hx => hx⟩
theorem IsGr.nodup {w n : Nat} {l : List Nat} (h : IsGr w n l) : l.Nodup := by
  obtain ⟨k, k1, rfl, k3, k4⟩ := h
  exact graysTo_nodup w k
theorem IsGr.len {w n : Nat} {l : List Nat} (h : IsGr w n l) : l.length ≤ n ∧ l.length ≤ 1048576 := by
  obtain ⟨k, k1, rfl, k3, k4⟩ := h
  exact ⟨k3, Nat.le_trans (graysTo_length w k) k1⟩
theorem IsGr.bits {w n : Nat} {l : List Nat} (h : IsGr w n l) : ∀ x ∈ l, x < 1048576 := by
  obtain ⟨k, k1, rfl, k3, k4⟩ := h
  intro x hx
  obtain ⟨-, i, hi, rfl⟩ := graysTo_mem hx
  exact gry_lt (n := 20) (by omega)
set_option maxRecDepth 100000 in
theorem gr_many : ∀ h, h ≤ 10 → ch h ((h + 1) / 2) ≤ (graysTo ((h + 1) / 2) (2 ^ h)).length := by decide +kernel
theorem gr_of {k s h l p : Nat} (H : OfP k s h l p) (h1 : 1 ≤ k) (h2 : k ≤ 128) {g : List Nat} (hg : IsGr ((h + 1) / 2) (k + s) g) : g.length = k + s ∧ ∀ x ∈ g, x < 2 ^ h ∧ pop x = (h + 1) / 2 := by
  obtain ⟨b1, b2, b3, b4, -⟩ := H.bounds h1 h2
  have hc := H.2.1.1
  have hm := gr_many h b3
  have hp : 2 ^ h ≤ 2 ^ 10 := Nat.pow_le_pow_right (by decide) b3
  obtain ⟨e1, e2⟩ := hg.take (m := 2 ^ h) (by omega) (by omega)
  refine ⟨e1, fun x hx => ?_⟩
  obtain ⟨f1, i, hi, rfl⟩ := graysTo_mem (e2 x hx)
  exact ⟨gry_lt hi, f1⟩

/-- How the bits of a number are counted, from the last one on. -/
theorem pop_step {x : Nat} (hx : x < 2 ^ 63) : pop x = x % 2 + pop (x / 2) := by
  unfold pop
  have e : popN 64 (x / 2) = popN 63 (x / 2) := by
    have := popN_add 63 1 (x / 2)
    rw [show 63 + 1 = 64 from rfl] at this
    rw [this, Nat.div_eq_of_lt (show x / 2 < 2 ^ 63 by omega), popN_zero, Nat.add_zero]
  rw [e]
  rfl
theorem pop_zero : pop 0 = 0 := popN_zero 64
theorem pop_width {x h : Nat} (hx : x < 2 ^ h) (hh : h ≤ 64) : ((List.range h).filter fun i => x.testBit i).length = pop x := by
  rw [popN_filter]
  unfold pop
  obtain ⟨d, hd⟩ : ∃ d, 64 = h + d := ⟨64 - h, by omega⟩
  rw [hd, popN_add h d x, Nat.div_eq_of_lt hx, popN_zero, Nat.add_zero]

/-! ### the rows -/
theorem fr_succ (p : Nat → Bool) (n : Nat) : (List.range (n + 1)).filter p = (List.range n).filter p ++ if p n then [n] else [] := by
  rw [List.range_succ, List.filter_append]
  congr 1
  by_cases h : p n <;> simp [h]
theorem fr_one {p : Nat → Bool} {n : Nat} (h : p n = true) : (List.range (n + 1)).filter p = (List.range n).filter p ++ [n] := by rw [fr_succ, if_pos h]
theorem fr_none {p : Nat → Bool} {n : Nat} (h : p n = false) : (List.range (n + 1)).filter p = (List.range n).filter p := by rw [fr_succ, if_neg (by rw [h]; decide), List.append_nil]
theorem fr_len (p : Nat → Bool) (n : Nat) : ((List.range n).filter p).length ≤ n := Nat.le_trans (List.length_filter_le _ _) (by simp)

def ldA (s i : Nat) : Nat := 1 + i / s % (s - 1)
/-- Is a place in one of the first rows? -/
def ldB (k s row place : Nat) : Bool :=
  if k ≤ place then decide (place = k + row) else decide (row = place % s) || decide (row = (place % s + ldA s place) % s) || decide (row = (place % s + 2 * ldA s place) % s)
theorem ldB_far {k s row place : Nat} (h : k ≤ place) : ldB k s row place = decide (place = k + row) := if_pos h
theorem ldB_near {k s row place : Nat} (h : place < k) : ldB k s row place = (decide (row = place % s) || decide (row = (place % s + ldA s place) % s) || decide (row = (place % s + 2 * ldA s place) % s)) := if_neg (by omega)
def rowL (k s row : Nat) : List Nat := (List.range (k + s)).filter (ldB k s row)
def rowK (k s row : Nat) : List Nat := (List.range k).filter (ldB k s row)
theorem rowL_to {k s row : Nat} : ∀ t, (List.range (k + t)).filter (ldB k s row) = rowK k s row ++ if row < t then [k + row] else []
  | 0 => by rw [if_neg (by omega)]; simp [rowK]
  | t + 1 => by
    rw [← Nat.add_assoc, fr_succ, rowL_to t, ldB_far (Nat.le_add_right k t), List.append_assoc]
    congr 1
    by_cases h : row = t
    · subst h
      rw [if_neg (Nat.lt_irrefl row), if_pos (Nat.lt_succ_self row), if_pos (decide_eq_true (rfl : k + row = k + row))]; rfl
    · rw [if_neg (c := decide (k + t = k + row) = true) (by simpa using fun e => h e.symm)]
      by_cases h2 : row < t
      · rw [if_pos h2, if_pos (by omega)]; simp
      · rw [if_neg h2, if_neg (by omega)]; simp
theorem rowL_eq {k s row : Nat} (h : row < s) : rowL k s row = rowK k s row ++ [k + row] := by
  unfold rowL
  rw [rowL_to s, if_pos h]
def colB (g : List Nat) (j x : Nat) : List Nat := (List.range j).filter fun p => (g.getD p 0).testBit x
def rowH (k s : Nat) (g : List Nat) (x : Nat) : List Nat := colB g (k + s) x ++ [k + s + x]
def rowsP (k s h : Nat) (g : List Nat) : List (List Nat) := (List.range s).map (rowL k s) ++ (List.range h).map (rowH k s g)
theorem rowsP_length (k s h : Nat) (g : List Nat) : (rowsP k s h g).length = s + h := by simp [rowsP]
theorem rowsP_L {k s h r : Nat} {g : List Nat} (hr : r < s) : (rowsP k s h g).getD r [] = rowL k s r := by
  unfold rowsP
  rw [List.getD_eq_getElem?_getD, List.getElem?_append_left (by simpa using hr)]
  simp [hr]
theorem rowsP_H {k s h x : Nat} {g : List Nat} (hx : x < h) : (rowsP k s h g).getD (s + x) [] = rowH k s g x := by
  unfold rowsP
  rw [List.getD_eq_getElem?_getD, List.getElem?_append_right (by simp)]
  simp [hx]
theorem rowsP_of {k s h : Nat} {g : List Nat} {f : Nat → List Nat} (h1 : ∀ r, r < s → f r = rowL k s r) (h2 : ∀ x, x < h → f (s + x) = rowH k s g x) : (List.range (s + h)).map f = rowsP k s h g := by
  apply List.ext_getElem?
  intro i
  rcases Nat.lt_or_ge i s with hi | hi
  · unfold rowsP
    rw [List.getElem?_append_left (by simpa using hi)]
    simp [hi, h1 i hi, show i < s + h by omega]
  · obtain ⟨x, rfl⟩ : ∃ x, i = s + x := ⟨i - s, by omega⟩
    unfold rowsP
    rw [List.getElem?_append_right (by simp)]
    rcases Nat.lt_or_ge x h with hx | hx
    · simp [hx, h2 x hx]
    · rw [List.getElem?_eq_none (by simp; omega), List.getElem?_eq_none (by simp; omega)]
theorem rowL_len (k s r : Nat) : (rowL k s r).length ≤ k + s := fr_len _ _
theorem rowH_len (k s : Nat) (g : List Nat) (x : Nat) : (rowH k s g x).length ≤ k + s + 1 := by
  unfold rowH
  rw [List.length_append]
  have := fr_len (fun p => (g.getD p 0).testBit x) (k + s)
  exact Nat.add_le_add this (Nat.le_refl _)

/-! ### three rows of one place -/
theorem mod_cases1 {s x : Nat} (h : x < 2 * s) : (x < s ∧ x % s = x) ∨ (s ≤ x ∧ x % s = x - s) := by
  rcases Nat.lt_or_ge x s with h' | h'
  · exact .inl ⟨h', Nat.mod_eq_of_lt h'⟩
  · exact .inr ⟨h', by rw [Nat.mod_eq_sub_mod h', Nat.mod_eq_of_lt (by omega)]⟩
theorem mod_cases2 {s x : Nat} (h : x < 3 * s) : (x < s ∧ x % s = x) ∨ (s ≤ x ∧ x < 2 * s ∧ x % s = x - s) ∨ (2 * s ≤ x ∧ x % s = x - 2 * s) := by
  rcases Nat.lt_or_ge x (2 * s) with h' | h'
  · rcases mod_cases1 h' with h1 | h1
    · exact .inl h1
    · exact .inr (.inl ⟨h1.1, h', h1.2⟩)
  · refine .inr (.inr ⟨h', ?_⟩)
    rw [Nat.mod_eq_sub_mod (by omega), Nat.mod_eq_sub_mod (by omega), Nat.mod_eq_of_lt (by omega)]
    omega
theorem three {s i : Nat} (h3 : 3 ≤ s) (ho : s % 2 = 1) : i % s < s ∧ (i % s + ldA s i) % s < s ∧ (i % s + 2 * ldA s i) % s < s ∧ i % s ≠ (i % s + ldA s i) % s ∧ i % s ≠ (i % s + 2 * ldA s i) % s ∧ (i % s + ldA s i) % s ≠ (i % s + 2 * ldA s i) % s ∧ 1 ≤ ldA s i ∧ ldA s i ≤ s - 1 := by
  have hb : i % s < s := Nat.mod_lt _ (by omega)
  have ha : 1 ≤ ldA s i ∧ ldA s i ≤ s - 1 := by
    unfold ldA
    have := Nat.mod_lt (i / s) (show s - 1 > 0 by omega)
    omega
  generalize i % s = b at *
  generalize ldA s i = a at *
  have m1 := mod_cases1 (s := s) (x := b + a) (by omega)
  have m2 := mod_cases2 (s := s) (x := b + 2 * a) (by omega)
  refine ⟨hb, Nat.mod_lt _ (by omega), Nat.mod_lt _ (by omega), ?_, ?_, ?_, ha⟩
  all_goals
    generalize (b + a) % s = u at *
    generalize (b + 2 * a) % s = v at *
    omega
theorem ofP_odd {k s h l p : Nat} (H : OfP k s h l p) (h1 : 1 ≤ k) (h2 : k ≤ 128) : s % 2 = 1 := by
  have hb := H.bounds h1 h2
  obtain ⟨⟨x, hx, hs⟩, -⟩ := H
  have := hs.1.2 2 (by omega) (by omega)
  omega

/-! ### the rows as they grow -/
def addAt (f : Nat → List Nat) (r x : Nat) : Nat → List Nat := fun d => if d = r then f d ++ [x] else f d
def fA (k s i : Nat) : Nat → List Nat := fun r => if r < s then (List.range i).filter (ldB k s r) else []
theorem fA_zero (k s : Nat) (r : Nat) : fA k s 0 r = [] := by unfold fA; split <;> rfl
theorem fA_step {k s i : Nat} (h3 : 3 ≤ s) (ho : s % 2 = 1) (hi : i < k) :
    addAt (addAt (addAt (fA k s i) (i % s) i) ((i % s + ldA s i) % s) i) ((i % s + 2 * ldA s i) % s) i = fA k s (i + 1) := by
  obtain ⟨l1, l2, l3, n1, n2, n3, -, -⟩ := three (i := i) h3 ho
  have hl : ∀ r, ldB k s r i = (decide (r = i % s) || decide (r = (i % s + ldA s i) % s) || decide (r = (i % s + 2 * ldA s i) % s)) := fun r => ldB_near hi
  funext r
  unfold addAt fA
  generalize i % s = x at *
  generalize (x + ldA s i) % s = y at *
  generalize (x + 2 * ldA s i) % s = z at *
  by_cases hr : r < s
  · simp only [if_pos hr]
    by_cases e1 : r = x
    · subst e1
      rw [if_neg n2, if_neg n1, if_pos rfl, fr_one (by rw [hl]; simp)]
    · by_cases e2 : r = y
      · subst e2
        rw [if_neg n3, if_pos rfl, if_neg e1, fr_one (by rw [hl]; simp)]
      · by_cases e3 : r = z
        · subst e3
          rw [if_pos rfl, if_neg e2, if_neg e1, fr_one (by rw [hl]; simp)]
        · rw [if_neg e3, if_neg e2, if_neg e1, fr_none (by rw [hl]; simp [e1, e2, e3])]
  · simp only [if_neg hr]
    rw [if_neg (by omega), if_neg (by omega), if_neg (by omega)]
def fB (k s t : Nat) : Nat → List Nat := fun r => if r < s then (if r < t then rowL k s r else rowK k s r) else []
theorem fB_zero (k s : Nat) : fA k s k = fB k s 0 := by funext r; unfold fA fB; simp [rowK]
theorem fB_step {k s t : Nat} (ht : t < s) : addAt (fB k s t) t (k + t) = fB k s (t + 1) := by
  funext r
  unfold addAt fB
  by_cases hr : r < s
  · simp only [if_pos hr]
    by_cases e : r = t
    · subst e
      rw [if_pos rfl, if_neg (by omega), if_pos (by omega), rowL_eq hr]
    · rw [if_neg e]
      by_cases h2 : r < t
      · rw [if_pos h2, if_pos (by omega)]
      · rw [if_neg h2, if_neg (by omega)]
  · simp only [if_neg hr]
    rw [if_neg (by omega)]
/-- j of the numbers done, and of the next one y bits. -/
def fC (k s : Nat) (g : List Nat) (j y : Nat) : Nat → List Nat := fun r => if r < s then rowL k s r else colB g (if r - s < y then j + 1 else j) (r - s)
theorem fC_zero (k s : Nat) (g : List Nat) : fB k s s = fC k s g 0 0 := by
  funext r
  unfold fB fC
  by_cases hr : r < s
  · rw [if_pos hr, if_pos hr, if_pos hr]
  · rw [if_neg hr, if_neg hr, if_neg (by omega)]; rfl
theorem colB_one {g : List Nat} {j x : Nat} (h : (g.getD j 0).testBit x = true) : colB g (j + 1) x = colB g j x ++ [j] := fr_one h
theorem colB_none {g : List Nat} {j x : Nat} (h : (g.getD j 0).testBit x = false) : colB g (j + 1) x = colB g j x := fr_none h
theorem fC_one {k s : Nat} {g : List Nat} {j y : Nat} (h : (g.getD j 0).testBit y = true) : addAt (fC k s g j y) (s + y) j = fC k s g j (y + 1) := by
  funext r
  unfold addAt fC
  by_cases hr : r < s
  · simp only [if_pos hr]; rw [if_neg (by omega)]
  · simp only [if_neg hr]
    by_cases e : r = s + y
    · subst e
      rw [if_pos rfl, show s + y - s = y by omega, if_neg (by omega), if_pos (by omega), colB_one h]
    · rw [if_neg e]
      by_cases h2 : r - s < y
      · rw [if_pos h2, if_pos (by omega)]
      · rw [if_neg h2, if_neg (by omega)]
theorem fC_none {k s : Nat} {g : List Nat} {j y : Nat} (h : (g.getD j 0).testBit y = false) : fC k s g j y = fC k s g j (y + 1) := by
  funext r
  unfold fC
  by_cases hr : r < s
  · simp only [if_pos hr]
  · simp only [if_neg hr]
    by_cases e : r - s = y
    · rw [if_neg (by omega), if_pos (by omega), e, colB_none h]
    · by_cases h2 : r - s < y
      · rw [if_pos h2, if_pos (by omega)]
      · rw [if_neg h2, if_neg (by omega)]
theorem fC_next {k s h : Nat} {g : List Nat} {j r : Nat} (hr : r < s + h) : fC k s g j h r = fC k s g (j + 1) 0 r := by
  unfold fC
  by_cases h1 : r < s
  · rw [if_pos h1, if_pos h1]
  · rw [if_neg h1, if_neg h1, if_pos (by omega), if_neg (by omega)]
def fD (k s : Nat) (g : List Nat) (y : Nat) : Nat → List Nat := fun r => if r < s then rowL k s r else if r - s < y then rowH k s g (r - s) else colB g (k + s) (r - s)
theorem fD_zero (k s : Nat) (g : List Nat) : fC k s g (k + s) 0 = fD k s g 0 := by
  funext r
  unfold fC fD
  by_cases hr : r < s
  · rw [if_pos hr, if_pos hr]
  · rw [if_neg hr, if_neg hr, if_neg (by omega), if_neg (by omega)]
theorem fD_step {k s : Nat} {g : List Nat} {y : Nat} : addAt (fD k s g y) (s + y) (k + s + y) = fD k s g (y + 1) := by
  funext r
  unfold addAt fD
  by_cases hr : r < s
  · simp only [if_pos hr]; rw [if_neg (by omega)]
  · simp only [if_neg hr]
    by_cases e : r = s + y
    · subst e
      rw [if_pos rfl, show s + y - s = y by omega, if_neg (by omega), if_pos (by omega)]; rfl
    · rw [if_neg e]
      by_cases h2 : r - s < y
      · rw [if_pos h2, if_pos (by omega)]
      · rw [if_neg h2, if_neg (by omega)]
theorem fD_end (k s h : Nat) (g : List Nat) : (List.range (s + h)).map (fD k s g h) = rowsP k s h g :=
  rowsP_of (fun r hr => by unfold fD; rw [if_pos hr]) (fun x hx => by unfold fD; rw [if_neg (by omega), show s + x - s = x by omega, if_pos hx])
theorem fA_len {k s i : Nat} (r : Nat) (hi : i ≤ 1000) : (fA k s i r).length ≤ 1000 := by
  unfold fA
  split
  · exact Nat.le_trans (fr_len _ _) hi
  · simp
theorem fB_len {k s t : Nat} (r : Nat) (h : k + s ≤ 1000) : (fB k s t r).length ≤ 1000 := by
  unfold fB
  split
  · split
    · exact Nat.le_trans (rowL_len _ _ _) h
    · exact Nat.le_trans (fr_len _ _) (by omega)
  · simp
theorem fC_len {k s : Nat} {g : List Nat} {j y : Nat} (r : Nat) (h : k + s ≤ 1000) (hj : j < 1000) : (fC k s g j y r).length ≤ 1000 := by
  unfold fC
  split
  · exact Nat.le_trans (rowL_len _ _ _) h
  · refine Nat.le_trans (fr_len _ _) ?_
    split <;> omega
theorem fD_len {k s : Nat} {g : List Nat} {y : Nat} (r : Nat) (h : k + s ≤ 900) : (fD k s g y r).length ≤ 1000 := by
  unfold fD
  split
  · exact Nat.le_trans (rowL_len _ _ _) (by omega)
  · split
    · exact Nat.le_trans (rowH_len _ _ _ _) (by omega)
    · exact Nat.le_trans (fr_len _ _) (by omega)
theorem addAt_len {f : Nat → List Nat} {r x n : Nat} (h : ∀ d, (f d).length ≤ n) (d : Nat) : (addAt f r x d).length ≤ n + 1 := by
  unfold addAt
  have := h d
  split
  · rw [List.length_append]; simp; exact this
  · omega

/-! ### the rows that have a place -/
def rowsWith (R : List (List Nat)) (place : Nat) : List Nat := (List.range R.length).filter fun i => decide (place ∈ R.getD i [])

/-! ### there are numbers of each K -/
theorem least_nat (p : Nat → Prop) : ∀ n, p n → ∃ m, p m ∧ (∀ j, j < m → ¬ p j) ∧ m ≤ n := by
  intro n
  induction n using Nat.strongRecOn with
  | _ n ih =>
    intro h
    by_cases hj : ∃ j, j < n ∧ p j
    · obtain ⟨j, h1, h2⟩ := hj
      obtain ⟨m, a, b, c⟩ := ih j h1 h2
      exact ⟨m, a, b, by omega⟩
    · exact ⟨n, h, fun j h1 h2 => hj ⟨j, h1, h2⟩, Nat.le_refl _⟩
theorem leastP_ex {n : Nat} (h : n ≤ 157) : ∃ p, LeastP (n : Int) p := by
  obtain ⟨m, ⟨a1, a2⟩, b, -⟩ := least_nat (fun q => IsP q ∧ n ≤ q) 157 ⟨p157, h⟩
  exact ⟨m, a1, by omega, fun q h1 h2 h3 => b q h2 ⟨h3, by omega⟩⟩
theorem ofP_ex {k : Nat} (h1 : 1 ≤ k) (h2 : k ≤ 128) : ∃ s h l p, OfP k s h l p := by
  obtain ⟨x, ⟨a1, a2⟩, b, hx⟩ := least_nat (fun x => 1 ≤ x ∧ 2 * k ≤ x * (x - 1)) 17 ⟨by omega, by omega⟩
  obtain ⟨s, hs⟩ := leastP_ex (n := (k + 99) / 100 + x) (by omega)
  have hs19 : s ≤ 19 := hs.le p19 (by omega)
  obtain ⟨h, c1, c2, hh⟩ := least_nat (fun h => k + s ≤ ch h ((h + 1) / 2)) 10 (by
    show k + s ≤ ch 10 5
    rw [ch105]
    omega)
  obtain ⟨p, hp⟩ := leastP_ex (n := k + s + h) (by omega)
  exact ⟨s, h, _, p, ⟨x, ⟨a1, a2, fun y h3 h4 => Nat.lt_of_not_le fun h5 => b y h4 ⟨h3, h5⟩⟩, hs⟩, ⟨c1, fun j hj => Nat.lt_of_not_le (c2 j hj)⟩, rfl, hp⟩

theorem gr_ex (w n : Nat) : ∃ l, IsGr w n l := by
  obtain ⟨m, h1, h2, h3⟩ := least_nat (fun k => (graysTo w k).length = n ∨ k = 1048576) 1048576 (.inr rfl)
  have key : ∀ j, j ≤ m → (graysTo w j).length ≤ n := by
    intro j
    induction j with
    | zero => intro _; exact Nat.zero_le _
    | succ j ih =>
      intro hj
      have a1 := ih (by omega)
      have a2 : (graysTo w j).length ≠ n := fun e => h2 j (by omega) (.inl e)
      rw [graysTo_succ, List.length_append]
      have : (if pop (gry j) = w then [gry j] else []).length ≤ 1 := by split <;> simp
      omega
  exact ⟨_, m, h3, rfl, key m (Nat.le_refl _), h1⟩

/-! ### K 1 -/
theorem p3 : IsP 3 := isP_of_root (by decide) 2 (fun d h1 h2 => by omega) (by decide)
theorem p11 : IsP 11 := isP_of_root (by decide) 4 (fun d h1 h2 => noDiv_of 2 (by decide +kernel) d h1 h2) (by decide)
theorem of1 : OfP 1 3 4 8 11 := by
  refine ⟨⟨2, ⟨by decide, by decide, fun y h1 h2 => ?_⟩, p3, by decide, fun q h1 h2 => ?_⟩, ⟨by decide, fun j hj => ?_⟩, rfl, p11, by decide, fun q h1 h2 => ?_⟩
  · obtain rfl : y = 1 := by omega
    decide
  · omega
  · rcases (by omega : j = 0 ∨ j = 1 ∨ j = 2 ∨ j = 3) with rfl | rfl | rfl | rfl <;> decide
  · rcases (by omega : q = 8 ∨ q = 9 ∨ q = 10) with rfl | rfl | rfl
    · exact not_isP (d := 2) (by decide) (by decide) (by decide)
    · exact not_isP (d := 3) (by decide) (by decide) (by decide)
    · exact not_isP (d := 2) (by decide) (by decide) (by decide)
theorem gr23 : IsGr 2 3 [3, 6, 5] := ⟨7, by omega, by decide +kernel, by decide, .inl rfl⟩
theorem row10 : rowL 1 3 0 = [0, 1] := by decide +kernel
end Go.Proofs.YtkhdjjcflbdegaaGreatDoor
end

section
/- Mathematics of package ltrow: steps modulo a prime go through all places once. -/
namespace Go.Proofs.YtkhdjjcflbdegaaGreatDoor

theorem nodup_sub {α : Type} [BEq α] [LawfulBEq α] : ∀ {l m : List α}, l.Nodup → (∀ x ∈ l, x ∈ m) → l.length ≤ m.length := by
  intro l
  induction l with
  | nil => intro m _ _; exact Nat.zero_le _
  | cons a l ih =>
    intro m hd hs
    have ha := hs a List.mem_cons_self
    have h1 := ih (m := m.erase a) (List.nodup_cons.1 hd).2 (fun x hx => by
      have hne : x ≠ a := fun e => (List.nodup_cons.1 hd).1 (e ▸ hx)
      exact (List.mem_erase_of_ne hne).2 (hs x (List.mem_cons_of_mem _ hx)))
    rw [List.length_erase_of_mem ha] at h1
    have := List.length_pos_of_mem ha
    simp only [List.length_cons]
    omega

/-- The j-th place on a trip. -/
def seqA (p st a j : Nat) : Nat := (a + j * st) % p
theorem seqA_zero {p st a : Nat} (h : a < p) : seqA p st a 0 = a := by unfold seqA; rw [Nat.zero_mul, Nat.add_zero, Nat.mod_eq_of_lt h]
theorem seqA_succ (p st a j : Nat) : seqA p st a (j + 1) = (seqA p st a j + st) % p := by
  unfold seqA
  rw [Nat.mod_add_mod, Nat.succ_mul, Nat.add_assoc]
theorem seqA_lt {p st a j : Nat} (h : 0 < p) : seqA p st a j < p := Nat.mod_lt _ h
theorem isP_coprime {p s : Nat} (hp : IsP p) (h1 : 1 ≤ s) (h2 : s < p) : Nat.Coprime p s := by
  have hg1 : Nat.gcd p s ∣ p := Nat.gcd_dvd_left _ _
  have hg2 : Nat.gcd p s ∣ s := Nat.gcd_dvd_right _ _
  have hg3 : Nat.gcd p s ≤ s := Nat.le_of_dvd (by omega) hg2
  have hg4 : 0 < Nat.gcd p s := Nat.pos_of_dvd_of_pos hg2 (by omega)
  refine Classical.byContradiction fun hne => hp.2 (Nat.gcd p s) ?_ (by omega) (Nat.mod_eq_zero_of_dvd hg1)
  have : Nat.gcd p s ≠ 1 := hne
  omega
theorem seqA_inj {p st a i j : Nat} (hp : IsP p) (h1 : 1 ≤ st) (h2 : st < p) (hi : i < j) (hj : j < p) : seqA p st a i ≠ seqA p st a j := by
  intro e
  unfold seqA at e
  have hd : p ∣ (j - i) * st := by
    have e1 := Nat.sub_mod_eq_zero_of_mod_eq e.symm
    have e2 : a + j * st - (a + i * st) = (j - i) * st := by rw [Nat.sub_mul]; omega
    rw [e2] at e1
    exact Nat.dvd_of_mod_eq_zero e1
  have h3 : p ∣ j - i := (isP_coprime hp h1 h2).dvd_of_dvd_mul_right hd
  have := Nat.le_of_dvd (by omega) h3
  omega

/-- All places that a trip comes to in its first j steps, of those below l. -/
def trW (l p st a j : Nat) : List Nat := ((List.range j).map (seqA p st a)).filter fun x => decide (x < l)
theorem trW_zero (l p st a : Nat) : trW l p st a 0 = [] := rfl
theorem trW_succ (l p st a j : Nat) : trW l p st a (j + 1) = trW l p st a j ++ if seqA p st a j < l then [seqA p st a j] else [] := by
  unfold trW
  rw [List.range_succ, List.map_append, List.filter_append]
  congr 1
  by_cases h : seqA p st a j < l <;> simp [h]
theorem trW_in {l p st a j : Nat} (h : seqA p st a j < l) : trW l p st a (j + 1) = trW l p st a j ++ [seqA p st a j] := by rw [trW_succ, if_pos h]
theorem trW_out {l p st a j : Nat} (h : ¬ seqA p st a j < l) : trW l p st a (j + 1) = trW l p st a j := by rw [trW_succ, if_neg h, List.append_nil]
theorem trW_add (l p st a j : Nat) : ∀ d, trW l p st a j <+: trW l p st a (j + d)
  | 0 => List.prefix_refl _
  | d + 1 => (trW_add l p st a j d).trans (by rw [← Nat.add_assoc, trW_succ]; exact List.prefix_append _ _)
theorem trW_le {l p st a j m : Nat} (h : j ≤ m) : trW l p st a j <+: trW l p st a m := by
  have := trW_add l p st a j (m - j)
  rwa [show j + (m - j) = m by omega] at this
theorem trW_nodup {l p st a j : Nat} (hp : IsP p) (h1 : 1 ≤ st) (h2 : st < p) (hj : j ≤ p) : (trW l p st a j).Nodup := by
  unfold trW
  refine List.Pairwise.filter _ ?_
  rw [List.pairwise_map]
  refine List.Pairwise.imp_of_mem ?_ (List.pairwise_lt_range)
  intro x y hx hy hxy
  exact seqA_inj hp h1 h2 hxy (by have := List.mem_range.1 hy; omega)
theorem trW_lt {l p st a j x : Nat} (h : x ∈ trW l p st a j) : x < l := of_decide_eq_true (List.mem_filter.1 h).2
theorem seqA_onto {p st a v : Nat} (hp : IsP p) (h1 : 1 ≤ st) (h2 : st < p) (hv : v < p) : ∃ j, j < p ∧ seqA p st a j = v := by
  refine Classical.byContradiction fun hno => ?_
  have hd : (v :: (List.range p).map (seqA p st a)).Nodup := by
    rw [List.nodup_cons]
    refine ⟨fun hm => ?_, ?_⟩
    · obtain ⟨j, hj, e⟩ := List.mem_map.1 hm
      exact hno ⟨j, List.mem_range.1 hj, e⟩
    · unfold List.Nodup
      rw [List.pairwise_map]
      refine List.Pairwise.imp_of_mem ?_ (List.pairwise_lt_range)
      intro x y hx hy hxy
      exact seqA_inj hp h1 h2 hxy (List.mem_range.1 hy)
  have := nodup_sub (m := List.range p) hd (fun x hx => by
    rw [List.mem_range]
    rcases List.mem_cons.1 hx with rfl | hx
    · exact hv
    · obtain ⟨j, -, rfl⟩ := List.mem_map.1 hx
      exact seqA_lt (by omega))
  simp at this
  omega
theorem trW_all {l p st a : Nat} (hp : IsP p) (h1 : 1 ≤ st) (h2 : st < p) (hl : l ≤ p) : (trW l p st a p).length = l := by
  refine Nat.le_antisymm ?_ ?_
  · have := nodup_sub (m := List.range l) (trW_nodup (l := l) (a := a) hp h1 h2 (Nat.le_refl _)) (fun x hx => List.mem_range.2 (trW_lt hx))
    rwa [List.length_range] at this
  · have := nodup_sub (l := List.range l) (m := trW l p st a p) List.nodup_range (fun x hx => by
      have hx := List.mem_range.1 hx
      obtain ⟨j, hj, e⟩ := seqA_onto (a := a) hp h1 h2 (show x < p by omega)
      exact List.mem_filter.2 ⟨List.mem_map.2 ⟨j, List.mem_range.2 hj, e⟩, decide_eq_true hx⟩)
    rwa [List.length_range] at this

/-- The first d places of a trip. -/
def IsTr (l p st a d : Nat) (w : List Nat) : Prop := w.length = d ∧ ∃ j, j ≤ p ∧ w = trW l p st a j
theorem IsTr.unique {l p st a d : Nat} {v w : List Nat} (h : IsTr l p st a d v) (h' : IsTr l p st a d w) : v = w := by
  obtain ⟨h1, i, -, rfl⟩ := h
  obtain ⟨h2, j, -, rfl⟩ := h'
  rcases Nat.le_total i j with h | h
  · exact (trW_le h).eq_of_length (by omega)
  · exact ((trW_le h).eq_of_length (by omega)).symm
theorem IsTr.nodup {l p st a d : Nat} {w : List Nat} (h : IsTr l p st a d w) (hp : IsP p) (h1 : 1 ≤ st) (h2 : st < p) : w.Nodup := by
  obtain ⟨-, j, hj, rfl⟩ := h
  exact trW_nodup hp h1 h2 hj
theorem IsTr.lt {l p st a d x : Nat} {w : List Nat} (h : IsTr l p st a d w) (hx : x ∈ w) : x < l := by
  obtain ⟨-, j, hj, rfl⟩ := h
  exact trW_lt hx
/-- Fewer than l places are there: a further one is to come, within the first p steps. -/
theorem trW_more {l p st a j : Nat} (hp : IsP p) (h1 : 1 ≤ st) (h2 : st < p) (hl : l ≤ p) (hlt : (trW l p st a j).length < l) : ∃ i, j ≤ i ∧ i < p ∧ seqA p st a i < l ∧ ∀ m, j ≤ m → m < i → ¬ seqA p st a m < l := by
  have key : ∀ d, (∀ m, j ≤ m → m < j + d → ¬ seqA p st a m < l) → trW l p st a (j + d) = trW l p st a j := by
    intro d
    induction d with
    | zero => intro _; rfl
    | succ d ih =>
      intro hn
      rw [← Nat.add_assoc, trW_out (hn (j + d) (by omega) (by omega)), ih (fun m h1 h2 => hn m h1 (by omega))]
  have hjp : j < p := by
    refine Classical.byContradiction fun hge => ?_
    have e := (trW_le (l := l) (p := p) (st := st) (a := a) (show p ≤ j by omega)).length_le
    rw [trW_all hp h1 h2 hl] at e
    omega
  have hex : ∃ i, j ≤ i ∧ i < p ∧ seqA p st a i < l := by
    refine Classical.byContradiction fun hno => ?_
    have e := key (p - j) (fun m h1 h2 h3 => hno ⟨m, h1, by omega, h3⟩)
    rw [show j + (p - j) = p by omega] at e
    have := trW_all (a := a) hp h1 h2 hl
    rw [e] at this
    omega
  obtain ⟨i, hi1, hi2, hi3⟩ := hex
  induction i using Nat.strongRecOn with
  | _ i ih =>
    by_cases h : ∀ m, j ≤ m → m < i → ¬ seqA p st a m < l
    · exact ⟨i, hi1, hi2, hi3, h⟩
    · obtain ⟨m, hm⟩ := Classical.not_forall.1 h
      obtain ⟨hm1, hm⟩ := Classical.not_imp.1 hm
      obtain ⟨hm2, hm3⟩ := Classical.not_imp.1 hm
      exact ih m hm2 hm1 (by omega) (Classical.byContradiction hm3)
end Go.Proofs.YtkhdjjcflbdegaaGreatDoor
end

section
/- The degree table and a number's degree (was in DgA). -/
namespace Go.Proofs.YtkhdjjcflbdegaaGreatDoor

/-- The table: bounds and degrees. -/
def dgTab : List (Int × Int) := [(10241, 1), (491582, 2), (712794, 3), (831695, 4), (948446, 10), (1032189, 11), (1048576, 40)]

/-- The degree of a number. -/
def dgOf (v : Int) : Int := if v < 10241 then 1 else if v < 491582 then 2 else if v < 712794 then 3 else if v < 831695 then 4 else if v < 948446 then 10 else if v < 1032189 then 11 else 40
theorem dgOf_bd (v : Int) : 1 ≤ dgOf v ∧ dgOf v ≤ 40 := by
  unfold dgOf
  repeat' split
  all_goals omega
end Go.Proofs.YtkhdjjcflbdegaaGreatDoor
end
