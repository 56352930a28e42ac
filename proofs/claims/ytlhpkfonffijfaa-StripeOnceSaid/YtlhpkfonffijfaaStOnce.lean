/- How often encoding symbols go out on a level (layer 17). Pure. -/
import Derived.Test.YtlhpkfonffijfaaLaw17P
namespace Go.Proofs.Ytlhpkfonffijfaa

def cntL (n : Nat) (L : List Nat) : List Nat := (List.range n).map fun x => L.count x
theorem cntL_length (n : Nat) (L : List Nat) : (cntL n L).length = n := by simp [cntL]
theorem cntL_get {n y : Nat} {L : List Nat} (h : y < n) : (cntL n L)[y]? = some (L.count y) := by
  unfold cntL
  rw [List.getElem?_map, List.getElem?_range h]
  rfl
theorem cntL_zero (n : Nat) : cntL n [] = List.replicate n 0 := by
  apply List.ext_getElem?
  intro i
  by_cases h : i < n
  · rw [cntL_get h, List.getElem?_replicate, if_pos h]; rfl
  · rw [List.getElem?_eq_none (by rw [cntL_length]; omega), List.getElem?_eq_none (by simp; omega)]
theorem cntL_set {n y : Nat} {L : List Nat} (h : y < n) : (cntL n L).set y (L.count y + 1) = cntL n (L ++ [y]) := by
  apply List.ext_getElem?
  intro i
  rw [List.getElem?_set]
  by_cases hi : i < n
  · rw [cntL_get hi, cntL_get hi, List.count_append]
    by_cases e : y = i
    · subst e; rw [if_pos rfl, if_pos (by rw [cntL_length]; exact h)]; simp
    · rw [if_neg e, List.count_singleton, if_neg (by simpa using e)]; simp
  · rw [List.getElem?_eq_none (by rw [cntL_length]; omega), List.getElem?_eq_none (by rw [cntL_length]; omega)]
    split
    · split
      · rw [cntL_length] at *; omega
      · rfl
    · rfl

theorem count_esi (x : Nat) : ∀ F : List Nat, (stEsiTo 2 F).count x = F.count (x / 2)
  | [] => rfl
  | c :: F => by
    have ih := count_esi x F
    have e : stEsiTo 2 (c :: F) = [c * 2 + 0, c * 2 + 1] ++ stEsiTo 2 F := rfl
    rw [e, List.count_append, ih, List.count_cons (a := x / 2)]
    have h : [c * 2 + 0, c * 2 + 1].count x = if (c == x / 2) = true then 1 else 0 := by
      by_cases h : c = x / 2
      · rw [if_pos (by simpa using h)]
        rcases Nat.mod_two_eq_zero_or_one x with e | e
        · have : x = c * 2 + 0 := by omega
          rw [List.count_cons, List.count_cons, List.count_nil, if_neg (by simp; omega), if_pos (by simp; omega)]
        · rw [List.count_cons, List.count_cons, List.count_nil, if_pos (by simp; omega), if_neg (by simp; omega)]
      · rw [if_neg (by simpa using h), List.count_cons, List.count_cons, List.count_nil, if_neg (by simp; omega), if_neg (by simp; omega)]
    rw [h]
    omega

/-- what the layers below k carry in a step; what all layers up to l have carried in some steps -/
def midL (G s : Nat) : Nat → List Nat
  | 0 => []
  | k + 1 => midL G s k ++ stEsiL (G - 1 - k) k s 2
def allL (G l s : Nat) : Nat → List Nat
  | 0 => []
  | i + 1 => allL G l s i ++ midL G ((s + i) % 4294967296) (l + 1)

open Classical in
theorem layL_count (m s k c : Nat) : (layL m s k).count c = if c ∈ layL m s k then 1 else 0 := by
  have hn : (layL m s k).Nodup := by
    cases k with
    | zero => exact List.nodup_range' ..
    | succ j => exact List.nodup_range' ..
  by_cases h : c ∈ layL m s k
  · rw [if_pos h]; exact List.Nodup.count hn |>.trans (if_pos h)
  · rw [if_neg h]; exact List.count_eq_zero_of_not_mem h
open Classical in
theorem midL_count (G s x : Nat) : ∀ k, k ≤ G → (midL G s k).count x = if memTo G s k (x / 2) then 1 else 0
  | 0, _ => by rw [if_neg (show ¬ memTo G s 0 (x / 2) from fun h => h)]; rfl
  | k + 1, hk => by
    have ih := midL_count G s x k (by omega)
    show (midL G s k ++ stEsiTo 2 (layL (G - 1 - k) s k)).count x = _
    rw [List.count_append, ih, count_esi, layL_count]
    by_cases h1 : x / 2 ∈ layL (G - 1 - k) s k
    · have h2 := memTo_new (by omega) h1
      rw [if_pos h1, if_neg h2, if_pos ((memTo_succ (by omega)).2 (.inr h1))]
    · by_cases h2 : memTo G s k (x / 2)
      · rw [if_neg h1, if_pos h2, if_pos ((memTo_succ (by omega)).2 (.inl h2))]
      · rw [if_neg h1, if_neg h2, if_neg (fun h => ((memTo_succ (by omega)).1 h).elim h2 h1)]
theorem midL_length (G s : Nat) (hG : G ≤ 8) : ∀ k, k ≤ G → (midL G s k).length ≤ 128 * k
  | 0, _ => by simp [midL]
  | k + 1, hk => by
    have ih := midL_length G s hG k (by omega)
    have h := rateN_le (l := k) (by omega)
    show (midL G s k ++ stEsiTo 2 (layL (G - 1 - k) s k)).length ≤ _
    rw [List.length_append, stEsiTo_length, layL_length]
    omega
theorem allL_length (G l s : Nat) (hG : G ≤ 8) (hl : l < G) : ∀ i, (allL G l s i).length ≤ 1024 * i
  | 0 => by simp [allL]
  | i + 1 => by
    have ih := allL_length G l s hG hl i
    have h := midL_length G ((s + i) % 4294967296) hG (l + 1) (by omega)
    show (allL G l s i ++ midL G ((s + i) % 4294967296) (l + 1)).length ≤ _
    rw [List.length_append]
    omega
/-- Each encoding symbol just once (P17.3). -/
theorem allL_once {G l s x : Nat} (hG : G ≤ 8) (hl : l < G) (hx : x < 2 * 2 ^ (G - 1)) : (allL G l s (2 ^ (G - 1 - l))).count x = 1 := by
  obtain ⟨m, hm⟩ : ∃ m, m = G - 1 - l := ⟨_, rfl⟩
  have hml : m + l = G - 1 := by omega
  obtain ⟨j0, h1, h2, h3⟩ := once_step m s (revN (m + l) (x / 2) % 2 ^ m) (Nat.mod_lt _ (Nat.two_pow_pos m))
  have key : ∀ j, j < 2 ^ m → (memTo G ((s + j) % 4294967296) (l + 1) (x / 2) ↔ j = j0) := fun j hj => by
    show x / 2 ∈ levL (G - 1 - l) l ((s + j) % 4294967296) ↔ _
    rw [← hm, mem_levL]
    unfold InLev
    rw [step_mod m s j (by omega)]
    constructor
    · rintro ⟨-, h⟩
      exact h3 j hj h.symm
    · rintro rfl
      exact ⟨by rw [hml]; omega, h2.symm⟩
  have hall : ∀ i, i ≤ 2 ^ m → (allL G l s i).count x = if j0 < i then 1 else 0 := by
    intro i
    induction i with
    | zero => intro _; rfl
    | succ i ih =>
      intro hi
      show (allL G l s i ++ midL G ((s + i) % 4294967296) (l + 1)).count x = _
      rw [List.count_append, ih (by omega), midL_count _ _ _ _ (by omega)]
      by_cases e : i = j0
      · rw [if_pos ((key i (by omega)).2 e), if_neg (by omega), if_pos (by omega)]
      · rw [if_neg (fun h => e ((key i (by omega)).1 h))]
        by_cases h : j0 < i
        · rw [if_pos h, if_pos (by omega)]
        · rw [if_neg h, if_neg (by omega)]
  rw [← hm, hall _ (Nat.le_refl _), if_pos h1]
theorem esi_lt {m l s x : Nat} (h : x ∈ stEsiL m l s 2) : x < 2 * 2 ^ (m + l) := by
  unfold stEsiL stEsiTo at h
  obtain ⟨c, hc, hx⟩ := List.mem_flatMap.1 h
  obtain ⟨k, hk, rfl⟩ := List.mem_map.1 hx
  have h1 := layL_lt m s l c hc
  rw [List.mem_range] at hk
  omega
end Go.Proofs.Ytlhpkfonffijfaa
