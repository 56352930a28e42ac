/- Calendars: bursts, sync points, steps (stage 18). Pure. -/
import Derived.Test.YtgbogglalnafeaaKit
namespace Go.Proofs.Ytgbogglalnafeaa

/-- Is there such a calendar, such a tick? -/
def CaOk (b u t : Int) : Prop := 2 ≤ b ∧ b ≤ 4096 ∧ 1 ≤ u ∧ u < b ∧ 0 ≤ t ∧ t < 1099511627776
instance (b u t : Int) : Decidable (CaOk b u t) := by unfold CaOk; infer_instance
def caN (b u t : Int) : Int := if CaOk b u t then 0 else 1
theorem caN_zero {b u t : Int} : caN b u t = 0 ↔ CaOk b u t := by
  unfold caN
  split
  · simp_all
  · simp_all
theorem caN_one {b u t : Int} (h : ¬ CaOk b u t) : caN b u t = 1 := if_neg h
theorem caN_cases (b u t : Int) : (CaOk b u t ∧ caN b u t = 0) ∨ (¬ CaOk b u t ∧ caN b u t = 1) := by
  by_cases h : CaOk b u t
  · exact .inl ⟨h, if_pos h⟩
  · exact .inr ⟨h, if_neg h⟩
theorem CaOk.nat {b u t : Int} (h : CaOk b u t) : ∃ b' u' t' : Nat, b = b' ∧ u = u' ∧ t = t' ∧ 2 ≤ b' ∧ b' ≤ 4096 ∧ 1 ≤ u' ∧ u' < b' ∧ t' < 1099511627776 := by
  obtain ⟨h1, h2, h3, h4, h5, h6⟩ := h
  exact ⟨b.toNat, u.toNat, t.toNat, by omega, by omega, by omega, by omega, by omega, by omega, by omega, by omega⟩

def burstB (b u t : Nat) : Bool := decide (b - u ≤ t % b)
/-- The greatest level below g of which a tick is a sync point. -/
def syncZ (b t : Nat) : Nat → Int
  | 0 => -1
  | l + 1 => if 0 < t ∧ t % (b * 2 ^ l) = 0 then (l : Int) else syncZ b t l
/-- The next sync point. -/
def nextZ (b l t : Nat) : Nat := t + b * 2 ^ l - t % (b * 2 ^ l)
/-- How many steps the first ticks of a round have. -/
def cntZ (b u r : Nat) : Nat := r + (r - (b - u))
def stepsZ (b u t : Nat) : Nat := t / b * (b + u) + cntZ b u (t % b)
/-- A tick's steps. -/
def rowZ (b u t : Nat) : List Nat := if burstB b u t then [stepsZ b u t % 4294967296, (stepsZ b u t + 1) % 4294967296] else [stepsZ b u t % 4294967296]

theorem cntZ_one (b u r : Nat) : cntZ b u (r + 1) = cntZ b u r + 1 + (if b - u ≤ r then 1 else 0) := by
  unfold cntZ
  split <;> omega
theorem stepsZ_succ {b u t : Nat} (hb : 2 ≤ b) (hu : 1 ≤ u) (hub : u < b) : stepsZ b u (t + 1) = stepsZ b u t + (if burstB b u t then 2 else 1) := by
  have hr : t % b < b := Nat.mod_lt _ (by omega)
  have e := Nat.div_add_mod t b
  unfold stepsZ burstB
  rcases Nat.lt_or_ge (t % b + 1) b with h | h
  · have h1 : (t + 1) / b = t / b := by
      rw [← e, Nat.add_assoc, Nat.mul_add_div (by omega), Nat.mul_add_div (by omega), Nat.div_eq_of_lt h, Nat.div_eq_of_lt hr]
    have h2 : (t + 1) % b = t % b + 1 := by
      have := Nat.add_mod t 1 b
      rw [Nat.mod_eq_of_lt (a := 1) (by omega), Nat.mod_eq_of_lt h] at this
      exact this
    rw [h1, h2, cntZ_one]
    by_cases h3 : b - u ≤ t % b
    · simp [h3]; omega
    · simp [h3]; omega
  · have h0 : t % b = b - 1 := by omega
    have h1 : (t + 1) / b = t / b + 1 := by
      have : t + 1 = b * (t / b + 1) := by rw [Nat.mul_add]; omega
      rw [this, Nat.mul_div_cancel_left _ (by omega)]
    have h2 : (t + 1) % b = 0 := by
      have : t + 1 = b * (t / b + 1) := by rw [Nat.mul_add]; omega
      rw [this, Nat.mul_mod_right]
    rw [h1, h2, h0, Nat.add_mul]
    have h3 : b - u ≤ b - 1 := by omega
    simp [h3, cntZ]
    omega
/-- A tick's steps follow those of the tick ahead (P18.3). -/
theorem row_follows {b u t : Nat} (hb : 2 ≤ b) (hu : 1 ≤ u) (hub : u < b) : ((rowZ b u t).getLastD 0 + 1) % 4294967296 = (rowZ b u (t + 1)).headD 0 := by
  have h := stepsZ_succ (t := t) hb hu hub
  have e : (rowZ b u (t + 1)).headD 0 = stepsZ b u (t + 1) % 4294967296 := by unfold rowZ; split <;> rfl
  rw [e, h]
  unfold rowZ
  by_cases hB : burstB b u t = true
  · rw [if_pos hB, if_pos hB]
    show ((stepsZ b u t + 1) % 4294967296 + 1) % 4294967296 = _
    omega
  · rw [if_neg hB, if_neg hB]
    show (stepsZ b u t % 4294967296 + 1) % 4294967296 = _
    omega
theorem nextZ_eq {b l t : Nat} (hb : 0 < b) : nextZ b l t = (t / (b * 2 ^ l) + 1) * (b * 2 ^ l) := by
  have hp : 0 < b * 2 ^ l := Nat.mul_pos hb (Nat.two_pow_pos l)
  unfold nextZ
  generalize b * 2 ^ l = E at *
  have e := Nat.div_add_mod t E
  have hr := Nat.mod_lt t hp
  rw [Nat.add_mul, Nat.one_mul, Nat.mul_comm]
  omega
theorem nextZ_gt {b l t : Nat} (hb : 0 < b) : t < nextZ b l t := by
  have hp : 0 < b * 2 ^ l := Nat.mul_pos hb (Nat.two_pow_pos l)
  have hr := Nat.mod_lt t hp
  unfold nextZ
  omega
theorem syncZ_at {b t l : Nat} (h0 : 0 < t) (h : t % (b * 2 ^ l) = 0) : syncZ b t (l + 1) = (l : Int) := if_pos ⟨h0, h⟩
theorem sync_next {b l t : Nat} (hb : 0 < b) : syncZ b (nextZ b l t) (l + 1) = (l : Int) := by
  refine syncZ_at ?_ ?_
  · have := nextZ_gt (l := l) (t := t) hb; omega
  · rw [nextZ_eq hb, Nat.mul_mod_left]
theorem syncZ_nonneg {b t : Nat} (h0 : 0 < t) (h : t % b = 0) : ∀ l, 0 ≤ syncZ b t (l + 1)
  | 0 => by rw [syncZ_at h0 (by simpa using h)]; omega
  | l + 1 => by
    unfold syncZ
    split
    · omega
    · exact syncZ_nonneg h0 h l
theorem sync_below {b lv x g : Nat} (hb : 0 < b) (hx : 0 < x) (hg : g ≤ lv) : syncZ b (b * 2 ^ lv * x) (g + 1) = (g : Int) := by
  refine syncZ_at (Nat.mul_pos (Nat.mul_pos hb (Nat.two_pow_pos lv)) hx) ?_
  have : b * 2 ^ lv * x = b * 2 ^ g * (2 ^ (lv - g) * x) := by
    rw [← Nat.mul_assoc, Nat.mul_assoc b (2 ^ g), ← Nat.pow_add, show g + (lv - g) = lv by omega]
  rw [this, Nat.mul_mod_right]
theorem burst_at {b u i r : Nat} (hi : i < b) : burstB b u (r * b + i) = decide (b - u ≤ i) := by
  unfold burstB
  rw [Nat.add_comm, Nat.add_mul_mod_self_right, Nat.mod_eq_of_lt hi]
theorem syncZ_bound (b t : Nat) : ∀ l, -1 ≤ syncZ b t l ∧ syncZ b t l < l
  | 0 => ⟨Int.le_refl _, show (-1 : Int) < 0 by decide⟩
  | l + 1 => by
    have := syncZ_bound b t l
    unfold syncZ
    split <;> omega
theorem cntZ_le {b u r : Nat} (hr : r ≤ b) (hu : u ≤ b) : cntZ b u r ≤ b + u := by unfold cntZ; omega
end Go.Proofs.Ytgbogglalnafeaa
