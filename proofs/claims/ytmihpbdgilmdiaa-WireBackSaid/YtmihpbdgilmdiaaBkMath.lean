/- Plans of objects: how many symbols, how many blocks, which plan is right. Pure mathematics. -/
import Derived.Test.YtmihpbdgilmdiaaKit
namespace Go.Proofs.Ytmihpbdgilmdiaa

/-- n divided by d, rounded up. -/
def upN (d n : Nat) : Nat := n / d + (if 0 < n % d then 1 else 0)
theorem upN_le {d n k : Nat} (hd : 0 < d) : upN d n ≤ k ↔ n ≤ k * d := by
  have e := Nat.div_add_mod n d
  have hr := Nat.mod_lt n hd
  unfold upN
  generalize n / d = q at *
  generalize n % d = r at *
  rw [Nat.mul_comm] at e
  by_cases h : 0 < r
  · rw [if_pos h]
    constructor
    · intro hk
      have := Nat.mul_le_mul_right d hk
      rw [Nat.add_mul] at this
      omega
    · intro hk
      rcases Nat.lt_or_ge q k with h' | h'
      · omega
      · have := Nat.mul_le_mul_right d h'
        omega
  · rw [if_neg h]
    constructor
    · intro hk
      have := Nat.mul_le_mul_right d (show q ≤ k by omega)
      omega
    · intro hk
      exact Nat.le_of_mul_le_mul_right (show q * d ≤ k * d by omega) hd
theorem upN_self {d : Nat} (hd : 0 < d) (n : Nat) : upN d n ≤ n := (upN_le hd).2 (Nat.le_mul_of_pos_right _ hd)
theorem upN_mul {d : Nat} (hd : 0 < d) (n : Nat) : n ≤ upN d n * d := (upN_le hd).1 (Nat.le_refl _)
/-- How many symbols of b bytes an object of s bytes has. -/
def symT (s b : Nat) : Nat := max (upN b s) 1
theorem symT_pos (s b : Nat) : 1 ≤ symT s b := by unfold symT; omega
theorem symT_le {s b : Nat} (hb : 0 < b) : symT s b ≤ max s 1 := by have := upN_self hb s; unfold symT; omega
theorem symT_doc {s b : Nat} (_ : 0 < b) : symT s b = if 0 < s % b ∨ s = 0 then s / b + 1 else s / b := by
  unfold symT upN
  by_cases h0 : s = 0
  · subst h0; simp
  · have e := Nat.div_add_mod s b
    generalize s / b = q at *
    generalize s % b = r at *
    by_cases h : 0 < r
    · rw [if_pos h, if_pos (.inl h)]; omega
    · rw [if_neg h, if_neg (by omega)]
      have : q ≠ 0 := fun h' => by rw [h', Nat.mul_zero] at e; omega
      omega
theorem symT_mul {s b : Nat} (hb : 0 < b) : s ≤ symT s b * b ∧ symT s b * b < max s 1 + b := by
  have h1 := upN_mul hb s
  have e := Nat.div_add_mod s b
  have hr := Nat.mod_lt s hb
  have h3 : upN b s * b ≤ symT s b * b := Nat.mul_le_mul_right _ (by unfold symT; omega)
  refine ⟨by omega, ?_⟩
  by_cases h0 : s = 0
  · subst h0
    have : symT 0 b = 1 := by simp [symT, upN]
    rw [this]; omega
  · have : symT s b = upN b s := by
      unfold symT
      have : 1 ≤ upN b s := by
        rcases Nat.eq_zero_or_pos (upN b s) with h | h
        · rw [h] at h1; omega
        · exact h
      omega
    rw [this]
    unfold upN
    rw [Nat.mul_comm] at e
    rw [Nat.add_mul]
    split <;> omega

/-- How many symbols block i of a plan has. -/
def cntP (l q i : Nat) : Nat := if i < l then q + 1 else q
/-- Ahead of block i so many symbols lie. -/
def offP (l q i : Nat) : Nat := i * q + min i l
theorem offP_zero (l q : Nat) : offP l q 0 = 0 := by simp [offP]
theorem offP_succ (l q i : Nat) : offP l q (i + 1) = offP l q i + cntP l q i := by
  unfold offP cntP
  rw [Nat.add_mul]
  split <;> omega
theorem offP_le {l q i j : Nat} (h : i ≤ j) : offP l q i ≤ offP l q j := by
  unfold offP
  have := Nat.mul_le_mul_right q h
  omega
theorem offP_all {l q n : Nat} (h : l ≤ n) : offP l q n = n * q + l := by unfold offP; omega

/-- A plan that is right. -/
structure PlanOk (s b n l q : Nat) : Prop where
  b1 : 1 ≤ b
  b64 : b ≤ 64
  n1 : 1 ≤ n
  n16 : n ≤ 16
  lt : l < n
  q1 : 1 ≤ q
  q128 : q ≤ 128
  q127 : 0 < l → q < 128
  sum : n * q + l = symT s b
theorem PlanOk.symT_le {s b n l q : Nat} (h : PlanOk s b n l q) : symT s b ≤ 2048 := by
  rw [← h.sum]
  have h1 := h.n16
  have h2 := h.q128
  have h4 := h.lt
  rcases Nat.eq_zero_or_pos l with h0 | h0
  · subst h0
    have : n * q ≤ 16 * 128 := Nat.mul_le_mul h1 h2
    omega
  · have := h.q127 h0
    have : n * q ≤ 16 * 127 := Nat.mul_le_mul h1 (by omega)
    omega
theorem PlanOk.size_le {s b n l q : Nat} (h : PlanOk s b n l q) : s ≤ 131072 ∧ symT s b * b ≤ 131072 := by
  have h1 := (symT_mul (s := s) h.b1).1
  have : symT s b * b ≤ 2048 * 64 := Nat.mul_le_mul h.symT_le h.b64
  omega
theorem PlanOk.off {s b n l q : Nat} (h : PlanOk s b n l q) : offP l q n = symT s b := by rw [offP_all (by have := h.lt; omega), h.sum]
theorem PlanOk.cnt {s b n l q : Nat} (h : PlanOk s b n l q) (i : Nat) : 1 ≤ cntP l q i ∧ cntP l q i ≤ 128 := by
  have h1 := h.q1; have h2 := h.q128; have h3 := h.q127
  unfold cntP
  split <;> omega
/-- What Check says of any plan. -/
def planC (s b n l q : Int) : Int :=
  if s < 0 ∨ b < 1 ∨ 64 < b then 1 else if n < 1 ∨ 16 < n ∨ l < 0 ∨ n ≤ l ∨ q < 1 ∨ 128 < q ∨ (0 < l ∧ q = 128) then 2 else if n * q + l = (symT s.toNat b.toNat : Int) then 0 else 2
theorem planC_zero {s b n l q : Int} (h : planC s b n l q = 0) : ∃ s' b' n' l' q' : Nat, s = s' ∧ b = b' ∧ n = n' ∧ l = l' ∧ q = q' ∧ PlanOk s' b' n' l' q' := by
  unfold planC at h
  split at h
  · omega
  · split at h
    · omega
    · split at h
      · rename_i h1 h2 h3
        refine ⟨s.toNat, b.toNat, n.toNat, l.toNat, q.toNat, by omega, by omega, by omega, by omega, by omega, ⟨by omega, by omega, by omega, by omega, by omega, by omega, by omega, by omega, ?_⟩⟩
        have e1 : ((n.toNat : Nat) : Int) = n := by omega
        have e2 : ((q.toNat : Nat) : Int) = q := by omega
        have e3 : ((l.toNat : Nat) : Int) = l := by omega
        have : ((n.toNat * q.toNat + l.toNat : Nat) : Int) = (symT s.toNat b.toNat : Int) := by
          rw [Int.natCast_add, Int.natCast_mul, e1, e2, e3, h3]
        omega
      · omega
theorem planC_ok {s b n l q : Nat} (h : PlanOk s b n l q) : planC (s : Int) (b : Int) (n : Int) (l : Int) (q : Int) = 0 := by
  obtain ⟨h1, h2, h3, h4, h5, h6, h7, h8, h9⟩ := h
  unfold planC
  rw [if_neg (by omega), if_neg (by omega), if_pos]
  have : ((n * q + l : Nat) : Int) = ((symT s b : Nat) : Int) := by rw [h9]
  rw [Int.natCast_add, Int.natCast_mul] at this
  simpa using this
/-- The plan of an object. -/
structure PlanOf (s b m n l q : Nat) : Prop where
  b1 : 1 ≤ b
  b64 : b ≤ 64
  m1 : 1 ≤ m
  m128 : m ≤ 128
  ns : n = upN m (symT s b)
  ls : l = symT s b % n
  qs : q = symT s b / n
theorem up_pos {m t : Nat} (hm : 1 ≤ m) (ht : 1 ≤ t) : 1 ≤ upN m t := by
  have := upN_mul hm t
  rcases Nat.eq_zero_or_pos (upN m t) with h | h
  · rw [h] at this; omega
  · exact h
theorem PlanOf.ok {s b m n l q : Nat} (h : PlanOf s b m n l q) (hn : n ≤ 16) : PlanOk s b n l q := by
  obtain ⟨h1, h2, h3, h4, h5, h6, h7⟩ := h
  have ht := symT_pos s b
  have hp : 1 ≤ n := by rw [h5]; exact up_pos h3 ht
  have e := Nat.div_add_mod (symT s b) n
  have hr := Nat.mod_lt (symT s b) hp
  have hup := upN_mul h3 (symT s b)
  rw [← h5] at hup
  have hle : upN m (symT s b) ≤ symT s b := upN_self h3 _
  rw [← h5] at hle
  rw [← h6, ← h7] at e
  rw [← h6] at hr
  have hq1 : 1 ≤ q := by
    rcases Nat.eq_zero_or_pos q with h0 | h0
    · rw [h0, Nat.mul_zero] at e; omega
    · exact h0
  have hqm : n * q + l ≤ n * m := by omega
  have hqm1 : q ≤ m := by
    rcases Nat.lt_or_ge m q with h' | h'
    · have := Nat.mul_le_mul_left n (show m + 1 ≤ q by omega)
      rw [Nat.mul_add] at this
      omega
    · exact h'
  refine ⟨h1, h2, hp, hn, hr, hq1, by omega, fun h0 => ?_, e⟩
  rcases Nat.lt_or_ge q 128 with h' | h'
  · exact h'
  · have : q = m := by omega
    rw [this] at hqm
    omega
theorem PlanOf.cnt {s b m n l q : Nat} (h : PlanOf s b m n l q) (hn : n ≤ 16) (i : Nat) : cntP l q i ≤ m := by
  have hk := h.ok hn
  have hup := upN_mul h.m1 (symT s b)
  rw [← h.ns] at hup
  have e := hk.sum
  have hqm1 : q ≤ m := by
    rcases Nat.lt_or_ge m q with h' | h'
    · have := Nat.mul_le_mul_left n (show m + 1 ≤ q by omega)
      rw [Nat.mul_add] at this
      have := hk.n1
      omega
    · exact h'
  unfold cntP
  split
  · rcases Nat.lt_or_ge q m with h' | h'
    · omega
    · have : q = m := by omega
      rw [this] at e
      omega
  · exact hqm1
theorem PlanOf.few {s b m n l q : Nat} (h : PlanOf s b m n l q) : (n - 1) * m < symT s b := by
  have ht := symT_pos s b
  have hp := up_pos h.m1 ht
  rcases Nat.lt_or_ge ((n - 1) * m) (symT s b) with h' | h'
  · exact h'
  · have := (upN_le h.m1).2 h'
    rw [← h.ns] at this hp
    omega
end Go.Proofs.Ytmihpbdgilmdiaa
