/- Mathematics of package precode: in which rows a place is. -/
import Derived.Test.YtpnjjbbpcdeooaaPcMath
namespace Go.Proofs.Ytpnjjbbpcdeooaa

theorem fr_add (p : Nat → Bool) (n m : Nat) : (List.range (n + m)).filter p = (List.range n).filter p ++ ((List.range m).filter fun i => p (n + i)).map (n + ·) := by
  induction m with
  | zero => simp
  | succ m ih =>
    rw [show n + (m + 1) = (n + m) + 1 from rfl, fr_succ, ih, fr_succ (fun i => p (n + i)) m, List.map_append, List.append_assoc]
    congr 2
    split <;> rfl
theorem fr_one_len {p : Nat → Bool} {a : Nat} (n : Nat) (h : ∀ i, p i = decide (i = a)) : ((List.range n).filter p).length = if a < n then 1 else 0 := by
  induction n with
  | zero => simp
  | succ n ih =>
    rw [fr_succ, List.length_append, ih, h n]
    by_cases h1 : n = a
    · simp [h1]
    · simp [h1]
      split <;> split <;> omega
theorem fr_three_len {p : Nat → Bool} {a b c : Nat} (n : Nat) (h : ∀ i, p i = (decide (i = a) || decide (i = b) || decide (i = c))) (hab : a ≠ b) (hac : a ≠ c) (hbc : b ≠ c) :
    ((List.range n).filter p).length = (if a < n then 1 else 0) + (if b < n then 1 else 0) + (if c < n then 1 else 0) := by
  induction n with
  | zero => simp
  | succ n ih =>
    rw [fr_succ, List.length_append, ih, h n]
    by_cases h1 : n = a
    · subst h1; simp; split <;> split <;> split <;> split <;> omega
    · by_cases h2 : n = b
      · subst h2; simp; split <;> split <;> split <;> split <;> omega
      · by_cases h3 : n = c
        · subst h3; simp; split <;> split <;> split <;> split <;> omega
        · simp [h1, h2, h3]
          split <;> split <;> split <;> split <;> split <;> split <;> omega

theorem filter_none {α : Type} {p : α → Bool} {l : List α} (h : ∀ x ∈ l, p x = false) : l.filter p = [] := by
  rw [List.filter_eq_nil_iff]
  intro x hx
  rw [h x hx]; simp
theorem filter_all {α : Type} {p : α → Bool} {l : List α} (h : ∀ x ∈ l, p x = true) : l.filter p = l := List.filter_eq_self.2 h

/-- The first rows, and the last ones, that have a place. -/
def inL (k s x : Nat) : List Nat := (List.range s).filter fun r => decide (x < k + s) && ldB k s r x
def inH (k s h : Nat) (g : List Nat) (x : Nat) : List Nat := (List.range h).filter fun i => (decide (x < k + s) && (g.getD x 0).testBit i) || decide (x = k + s + i)
theorem rowsWith_eq (k s h : Nat) (g : List Nat) (x : Nat) : rowsWith (rowsP k s h g) x = inL k s x ++ (inH k s h g x).map (s + ·) := by
  unfold rowsWith inL inH
  rw [rowsP_length, fr_add]
  congr 1
  · refine List.filter_congr fun r hr => ?_
    rw [rowsP_L (List.mem_range.1 hr)]
    unfold rowL
    by_cases h1 : x < k + s <;> by_cases h2 : ldB k s r x = true <;> simp [List.mem_filter, h1, h2]
  · congr 1
    refine List.filter_congr fun i hi => ?_
    rw [rowsP_H (List.mem_range.1 hi)]
    unfold rowH colB
    by_cases h1 : x < k + s <;> simp [List.mem_filter, h1]
theorem with_first (k s h : Nat) (g : List Nat) (x : Nat) : (rowsWith (rowsP k s h g) x).filter (fun r => decide (r < s)) = inL k s x := by
  rw [rowsWith_eq, List.filter_append, filter_all, filter_none, List.append_nil]
  · intro y hy
    obtain ⟨z, -, rfl⟩ := List.mem_map.1 hy
    exact decide_eq_false (by omega)
  · intro y hy
    exact decide_eq_true (List.mem_range.1 (List.mem_filter.1 hy).1)
theorem with_last (k s h : Nat) (g : List Nat) (x : Nat) : (rowsWith (rowsP k s h g) x).filter (fun r => decide (s ≤ r)) = (inH k s h g x).map (s + ·) := by
  rw [rowsWith_eq, List.filter_append, filter_none, filter_all, List.nil_append]
  · intro y hy
    obtain ⟨z, -, rfl⟩ := List.mem_map.1 hy
    exact decide_eq_true (by omega)
  · intro y hy
    have := List.mem_range.1 (List.mem_filter.1 hy).1
    exact decide_eq_false (by omega)
theorem with_len (k s h : Nat) (g : List Nat) (x : Nat) : (rowsWith (rowsP k s h g) x).length = (inL k s x).length + (inH k s h g x).length := by
  rw [rowsWith_eq, List.length_append, List.length_map]
theorem inL_le (k s x : Nat) : (inL k s x).length ≤ s := fr_len _ _
theorem inH_le (k s h : Nat) (g : List Nat) (x : Nat) : (inH k s h g x).length ≤ h := fr_len _ _

theorem inL_near {k s x : Nat} (h3 : 3 ≤ s) (ho : s % 2 = 1) (hx : x < k) : (inL k s x).length = 3 := by
  obtain ⟨t1, t2, t3, t4, t5, t6, -, -⟩ := three (s := s) (i := x) h3 ho
  unfold inL
  rw [fr_three_len s (a := x % s) (b := (x % s + ldA s x) % s) (c := (x % s + 2 * ldA s x) % s) (fun i => ?_) t4 t5 t6, if_pos t1, if_pos t2, if_pos t3]
  rw [ldB_near hx, decide_eq_true (show x < k + s by omega), Bool.true_and]
theorem inL_mid {k s x : Nat} (h1 : k ≤ x) (h2 : x < k + s) : (inL k s x).length = 1 := by
  unfold inL
  rw [fr_one_len s (a := x - k) (fun i => ?_), if_pos (by omega)]
  rw [ldB_far h1, decide_eq_true h2, Bool.true_and]
  exact decide_eq_decide.2 (by omega)
theorem inL_far {k s x : Nat} (h2 : k + s ≤ x) : inL k s x = [] := by
  unfold inL
  refine filter_none fun r _ => ?_
  rw [decide_eq_false (by omega), Bool.false_and]
theorem inH_near_eq {k s h x : Nat} {g : List Nat} (hx : x < k + s) : inH k s h g x = (List.range h).filter fun i => (g.getD x 0).testBit i := by
  unfold inH
  refine List.filter_congr fun i _ => ?_
  rw [decide_eq_true hx, decide_eq_false (show ¬ x = k + s + i by omega), Bool.true_and, Bool.or_false]
theorem inH_far {k s h x : Nat} {g : List Nat} (h1 : k + s ≤ x) (h2 : x < k + s + h) : (inH k s h g x).length = 1 := by
  unfold inH
  rw [fr_one_len h (a := x - (k + s)) (fun i => ?_), if_pos (by omega)]
  rw [decide_eq_false (show ¬ x < k + s by omega), Bool.false_and, Bool.false_or]
  exact decide_eq_decide.2 (by omega)
theorem getD_memN {g : List Nat} {x : Nat} (hx : x < g.length) : g.getD x 0 ∈ g := by
  rw [List.getD_eq_getElem?_getD, List.getElem?_eq_getElem hx]
  exact List.getElem_mem hx
theorem inH_near {k s h l p x : Nat} {g : List Nat} (H : OfP k s h l p) (h1 : 1 ≤ k) (h2 : k ≤ 128) (hg : IsGr ((h + 1) / 2) (k + s) g) (hx : x < k + s) : (inH k s h g x).length = (h + 1) / 2 := by
  obtain ⟨hl, ha⟩ := gr_of H h1 h2 hg
  obtain ⟨b1, b2, b3, b4, b5, b6, b7⟩ := H.bounds h1 h2
  obtain ⟨g1, g2⟩ := ha _ (getD_memN (show x < g.length by omega))
  rw [inH_near_eq hx, pop_width g1 (by omega), g2]

theorem fr_eq_iff {p q : Nat → Bool} {n : Nat} (h : (List.range n).filter p = (List.range n).filter q) : ∀ i, i < n → p i = q i := by
  intro i hi
  have h1 : i ∈ (List.range n).filter p ↔ i ∈ (List.range n).filter q := by rw [h]
  rw [List.mem_filter, List.mem_filter, List.mem_range] at h1
  cases hp : p i <;> cases hq : q i <;> simp [hp, hq, hi] at h1 <;> rfl
theorem nodup_getD {g : List Nat} (h : g.Nodup) {x y : Nat} (hx : x < g.length) (hy : y < g.length) (e : g.getD x 0 = g.getD y 0) : x = y := by
  rw [List.getD_eq_getElem?_getD, List.getElem?_eq_getElem hx, List.getD_eq_getElem?_getD, List.getElem?_eq_getElem hy] at e
  exact (List.getElem_inj h).1 e
theorem map_add_inj {s : Nat} {l m : List Nat} (h : l.map (s + ·) = m.map (s + ·)) : l = m :=
  (List.map_inj_right (fun a b (e : s + a = s + b) => by omega)).1 h
theorem inH_apart {k s h l p x y : Nat} {g : List Nat} (H : OfP k s h l p) (h1 : 1 ≤ k) (h2 : k ≤ 128) (hg : IsGr ((h + 1) / 2) (k + s) g) (hx : x < k + s) (hy : y < k + s) (hne : x ≠ y) :
    (inH k s h g x).map (s + ·) ≠ (inH k s h g y).map (s + ·) := by
  intro e
  have e := map_add_inj e
  obtain ⟨hl, ha⟩ := gr_of H h1 h2 hg
  rw [inH_near_eq hx, inH_near_eq hy] at e
  have e1 := fr_eq_iff e
  refine hne (nodup_getD hg.nodup (by omega) (by omega) (Nat.eq_of_testBit_eq fun i => ?_))
  rcases Nat.lt_or_ge i h with hi | hi
  · exact e1 i hi
  · have b1 := (ha _ (getD_memN (show x < g.length by omega))).1
    have b2 := (ha _ (getD_memN (show y < g.length by omega))).1
    have hp : 2 ^ h ≤ 2 ^ i := Nat.pow_le_pow_right (by decide) hi
    rw [Nat.testBit_lt_two_pow (Nat.lt_of_lt_of_le b1 hp), Nat.testBit_lt_two_pow (Nat.lt_of_lt_of_le b2 hp)]
end Go.Proofs.Ytpnjjbbpcdeooaa
