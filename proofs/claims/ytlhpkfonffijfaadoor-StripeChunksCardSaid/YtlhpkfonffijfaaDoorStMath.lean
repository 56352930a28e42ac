/- Numbers reversed bit by bit; the chunks of a level and of a layer (stage 17). Pure. -/
import Derived.Test.YtlhpkfonffijfaaDoorKit
namespace Go.Proofs.YtlhpkfonffijfaaDoor

/-- A number of b bits, reversed. -/
def revN : Nat → Nat → Nat
  | 0, _ => 0
  | b + 1, v => v % 2 * 2 ^ b + revN b (v / 2)
theorem revN_succ (b v : Nat) : revN (b + 1) v = v % 2 * 2 ^ b + revN b (v / 2) := rfl
theorem revN_lt : ∀ (b v : Nat), revN b v < 2 ^ b
  | 0, v => by simp [revN]
  | b + 1, v => by
    have h := revN_lt b (v / 2)
    rw [revN_succ, Nat.pow_succ]
    rcases Nat.mod_two_eq_zero_or_one v with e | e <;> rw [e] <;> omega
/-- The same from the other end. -/
theorem revN_last : ∀ (b v : Nat), revN (b + 1) v = 2 * revN b v + v / 2 ^ b % 2
  | 0, v => by simp [revN]
  | b + 1, v => by
    have h : revN (b + 1) (v / 2) = 2 * revN b (v / 2) + v / 2 ^ (b + 1) % 2 := by
      rw [revN_last b (v / 2), Nat.div_div_eq_div_mul, Nat.mul_comm 2 (2 ^ b), ← Nat.pow_succ]
    rw [revN_succ (b + 1) v, revN_succ b v, h]
    generalize v / 2 ^ (b + 1) % 2 = e
    rw [Nat.pow_succ, ← Nat.mul_assoc]
    omega
/-- Only its low bits count. -/
theorem revN_mod : ∀ (b v : Nat), revN b (v % 2 ^ b) = revN b v
  | 0, v => rfl
  | b + 1, v => by
    have e1 : v % 2 ^ (b + 1) % 2 = v % 2 := Nat.mod_mod_of_dvd v ⟨2 ^ b, by rw [Nat.pow_succ, Nat.mul_comm]⟩
    have e2 : v % 2 ^ (b + 1) / 2 = v / 2 % 2 ^ b := by rw [Nat.pow_succ, Nat.mul_comm, Nat.mod_mul_right_div_self]
    rw [revN_succ, revN_succ, e1, e2, revN_mod b]
/-- Reversed twice (P17.5). -/
theorem revN_revN : ∀ (b v : Nat), v < 2 ^ b → revN b (revN b v) = v
  | 0, v, h => by simp [revN] at *; omega
  | b + 1, v, h => by
    have h1 : v / 2 < 2 ^ b := by rw [Nat.pow_succ] at h; omega
    have h2 := revN_revN b (v / 2) h1
    have h3 := revN_lt b (v / 2)
    have e2 : revN (b + 1) v / 2 ^ b % 2 = v % 2 := by
      rw [revN_succ, Nat.mul_comm, Nat.mul_add_div (Nat.two_pow_pos b), Nat.div_eq_of_lt h3]
      omega
    have e3 : revN b (revN (b + 1) v) = revN b (revN b (v / 2)) := by
      rw [← revN_mod b (revN (b + 1) v), revN_succ, Nat.mul_comm, Nat.mul_add_mod, Nat.mod_eq_of_lt h3]
    rw [revN_last, e2, e3, h2]
    omega
theorem revN_inj {b v w : Nat} (hv : v < 2 ^ b) (hw : w < 2 ^ b) (h : revN b v = revN b w) : v = w := by
  rw [← revN_revN b v hv, h, revN_revN b w hw]
/-- A number reversed, parted: its high m bits are the low ones of what comes out. -/
theorem revN_part : ∀ (l m c : Nat), revN (m + l) c = revN l (c % 2 ^ l) * 2 ^ m + revN m (c / 2 ^ l)
  | 0, m, c => by simp [revN]
  | l + 1, m, c => by
    have h := revN_part l m (c / 2)
    have e : c / 2 / 2 ^ l = c / 2 ^ (l + 1) := by rw [Nat.div_div_eq_div_mul, Nat.mul_comm, ← Nat.pow_succ]
    rw [e, revN_mod] at h
    rw [revN_mod, ← Nat.add_assoc, revN_succ (m + l), h, revN_succ l, Nat.add_mul, Nat.mul_assoc, ← Nat.pow_add, Nat.add_comm l m, Nat.add_assoc]

/-- Is c a chunk of level l in step s, of m + l + 1 layers? (The document's words.) -/
def InLev (m l s c : Nat) : Prop := c < 2 ^ (m + l) ∧ revN (m + l) c % 2 ^ m = s % 2 ^ m
/-- Where a level's chunks begin. -/
def levF (m s : Nat) : Nat := revN m (s % 2 ^ m)
theorem levF_lt (m s : Nat) : levF m s < 2 ^ m := revN_lt _ _
/-- A level's chunks are as many in a row. -/
theorem inLev_iff (m l s c : Nat) : InLev m l s c ↔ levF m s * 2 ^ l ≤ c ∧ c < levF m s * 2 ^ l + 2 ^ l := by
  have hp : 0 < 2 ^ l := Nat.two_pow_pos l
  have hs : s % 2 ^ m < 2 ^ m := Nat.mod_lt _ (Nat.two_pow_pos m)
  have key : (revN (m + l) c % 2 ^ m = s % 2 ^ m) ↔ revN m (c / 2 ^ l) = s % 2 ^ m := by
    rw [revN_part, Nat.mul_comm, Nat.mul_add_mod, Nat.mod_eq_of_lt (revN_lt m _)]
  have hdiv : c / 2 ^ l = levF m s ↔ levF m s * 2 ^ l ≤ c ∧ c < levF m s * 2 ^ l + 2 ^ l := by
    have e := Nat.div_add_mod c (2 ^ l)
    have hr := Nat.mod_lt c hp
    constructor
    · intro h
      rw [h, Nat.mul_comm] at e
      omega
    · rintro ⟨h1, h2⟩
      exact Nat.div_eq_of_lt_le h1 (by rw [Nat.succ_mul]; exact h2)
  rw [← hdiv]
  unfold InLev
  rw [key]
  constructor
  · rintro ⟨h1, h2⟩
    have h3 : c / 2 ^ l < 2 ^ m := by
      rw [Nat.div_lt_iff_lt_mul hp, ← Nat.pow_add]
      exact h1
    unfold levF
    rw [← h2, revN_revN m _ h3]
  · intro h
    refine ⟨?_, ?_⟩
    · have h3 := levF_lt m s
      rw [← h, Nat.div_lt_iff_lt_mul hp, ← Nat.pow_add] at h3
      exact h3
    · rw [h]
      exact revN_revN m _ hs
/-- The level below: its chunks are half of the level's. -/
theorem levF_succ (m s : Nat) : levF (m + 1) s = 2 * levF m s + s / 2 ^ m % 2 := by
  unfold levF
  rw [revN_mod, revN_mod, revN_last]

/-- What of numbers in a row lies between two of them. -/
theorem filter_row {p : Nat → Bool} {s n a k : Nat} (h1 : s ≤ a) (h2 : a + k ≤ s + n) (hp : ∀ c, s ≤ c → c < s + n → (p c = true ↔ a ≤ c ∧ c < a + k)) : (List.range' s n).filter p = List.range' a k := by
  have e : List.range' s n = List.range' s (a - s) ++ (List.range' a k ++ List.range' (a + k) (s + n - (a + k))) := by
    have e1 := List.range'_append_1 (s := a) (m := k) (n := s + n - (a + k))
    have e2 := List.range'_append_1 (s := s) (m := a - s) (n := k + (s + n - (a + k)))
    rw [show s + (a - s) = a by omega, show a - s + (k + (s + n - (a + k))) = n by omega] at e2
    rw [e1, e2]
  rw [e, List.filter_append, List.filter_append]
  have f1 : (List.range' s (a - s)).filter p = [] := by
    rw [List.filter_eq_nil_iff]
    intro c hc
    rw [List.mem_range'_1] at hc
    rw [hp c (by omega) (by omega)]
    omega
  have f2 : (List.range' a k).filter p = List.range' a k := by
    rw [List.filter_eq_self]
    intro c hc
    rw [List.mem_range'_1] at hc
    exact (hp c (by omega) (by omega)).2 ⟨by omega, by omega⟩
  have f3 : (List.range' (a + k) (s + n - (a + k))).filter p = [] := by
    rw [List.filter_eq_nil_iff]
    intro c hc
    rw [List.mem_range'_1] at hc
    rw [hp c (by omega) (by omega)]
    omega
  rw [f1, f2, f3, List.nil_append, List.append_nil]

/-- A level's chunks, rising. -/
def levL (m l s : Nat) : List Nat := List.range' (levF m s * 2 ^ l) (2 ^ l)
/-- A layer's (of level 0: all of them). -/
def layL (m s : Nat) : Nat → List Nat
  | 0 => levL m 0 s
  | l + 1 => List.range' ((2 * levF m s + (1 - s / 2 ^ m % 2)) * 2 ^ l) (2 ^ l)
theorem levL_end (m l s : Nat) : levF m s * 2 ^ l + 2 ^ l ≤ 2 ^ (m + l) := by
  have h := Nat.mul_le_mul_right (2 ^ l) (levF_lt m s)
  rw [Nat.succ_mul, ← Nat.pow_add] at h
  exact h
theorem levL_length (m l s : Nat) : (levL m l s).length = 2 ^ l := List.length_range' ..
theorem mem_levL (m l s c : Nat) : c ∈ levL m l s ↔ InLev m l s c := by
  rw [inLev_iff, levL, List.mem_range'_1]
/-- The document's level: of all chunks those that are. -/
theorem levL_filter {p : Nat → Bool} (m l s : Nat) (hp : ∀ c, c < 2 ^ (m + l) → (p c = true ↔ revN (m + l) c % 2 ^ m = s % 2 ^ m)) : (List.range (2 ^ (m + l))).filter p = levL m l s := by
  rw [List.range_eq_range']
  refine filter_row (Nat.zero_le _) (by have := levL_end m l s; omega) fun c _ hc => ?_
  have hc' : c < 2 ^ (m + l) := by omega
  rw [hp c hc', ← inLev_iff]
  exact ⟨fun h => ⟨hc', h⟩, fun h => h.2⟩
/-- The document's layer: of the level those that are not of the level below. -/
theorem layL_filter {p : Nat → Bool} (m l s : Nat) (hp : ∀ c, p c = true ↔ c ∉ levL (m + 1) l s) : (levL m (l + 1) s).filter p = layL m s (l + 1) := by
  have e : s / 2 ^ m % 2 < 2 := Nat.mod_lt _ (by decide)
  have hf := levF_succ m s
  show (List.range' (levF m s * 2 ^ (l + 1)) (2 ^ (l + 1))).filter p = List.range' ((2 * levF m s + (1 - s / 2 ^ m % 2)) * 2 ^ l) (2 ^ l)
  have hq : levF m s * 2 ^ (l + 1) = 2 * (levF m s * 2 ^ l) := by rw [Nat.pow_succ, ← Nat.mul_assoc, Nat.mul_comm]
  have hq2 : 2 ^ (l + 1) = 2 * 2 ^ l := by rw [Nat.pow_succ, Nat.mul_comm]
  have hr : ∀ b : Nat, (2 * levF m s + b) * 2 ^ l = 2 * (levF m s * 2 ^ l) + b * 2 ^ l := fun b => by rw [Nat.add_mul, Nat.mul_assoc]
  have hm : ∀ c, c ∈ levL (m + 1) l s ↔ 2 * (levF m s * 2 ^ l) + (s / 2 ^ m % 2) * 2 ^ l ≤ c ∧ c < 2 * (levF m s * 2 ^ l) + (s / 2 ^ m % 2) * 2 ^ l + 2 ^ l := fun c => by
    unfold levL
    rw [List.mem_range'_1, hf, hr]
  rw [hq, hq2, hr]
  generalize levF m s * 2 ^ l = F at *
  generalize 2 ^ l = P at *
  generalize s / 2 ^ m % 2 = b at *
  have hb : b = 0 ∨ b = 1 := by omega
  refine filter_row (by omega) ?_ fun c h1 h2 => ?_
  · rcases hb with rfl | rfl
    · simp; omega
    · simp; omega
  · rw [hp, hm]
    rcases hb with rfl | rfl
    · simp; omega
    · simp; omega
/-- How many chunks a layer has in a step. -/
def rateN : Nat → Nat
  | 0 => 1
  | l + 1 => 2 ^ l
theorem layL_length (m s : Nat) : ∀ l, (layL m s l).length = rateN l
  | 0 => by simp [layL, levL_length, rateN]
  | l + 1 => by simp [layL, rateN]
/-- Of a level's steps just one carries a chunk (P17.3). -/
theorem once_step (m s r : Nat) (hr : r < 2 ^ m) : ∃ i, i < 2 ^ m ∧ (s + i) % 2 ^ m = r ∧ ∀ j, j < 2 ^ m → (s + j) % 2 ^ m = r → j = i := by
  have hp : 0 < 2 ^ m := Nat.two_pow_pos m
  generalize 2 ^ m = P at *
  have e := Nat.div_add_mod s P
  have hs := Nat.mod_lt s hp
  have key : ∀ j, j < P → (s + j) % P = if s % P + j < P then s % P + j else s % P + j - P := fun j hj => by
    rw [Nat.add_mod, Nat.mod_eq_of_lt hj]
    split
    · exact Nat.mod_eq_of_lt ‹_›
    · rw [Nat.mod_eq_sub_mod (by omega), Nat.mod_eq_of_lt (by omega)]
  refine ⟨if s % P ≤ r then r - s % P else r + P - s % P, by split <;> omega, ?_, fun j hj h => ?_⟩
  · rw [key _ (by split <;> omega)]
    split <;> split <;> omega
  · rw [key j hj] at h
    split at h <;> split <;> omega
/-- Steps begin anew behind 2^32 - 1. -/
theorem step_mod (m s i : Nat) (hm : m ≤ 32) : (s + i) % 4294967296 % 2 ^ m = (s + i) % 2 ^ m :=
  Nat.mod_mod_of_dvd _ (by rw [show (4294967296 : Nat) = 2 ^ 32 by decide]; exact Nat.pow_dvd_pow 2 hm)
end Go.Proofs.YtlhpkfonffijfaaDoor
