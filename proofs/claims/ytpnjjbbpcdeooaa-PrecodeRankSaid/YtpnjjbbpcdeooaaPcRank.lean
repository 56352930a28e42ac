/- Mathematics of package precode: the rows do not hang on one another. -/
import Derived.Test.YtpnjjbbpcdeooaaLinW
import Derived.Test.YtpnjjbbpcdeooaaPcMath
namespace Go.Proofs.Ytpnjjbbpcdeooaa

/-! ### what a row holds -/
theorem mem_rowL {k s r c : Nat} : c ∈ rowL k s r ↔ c < k + s ∧ ldB k s r c = true := by unfold rowL; rw [List.mem_filter, List.mem_range]
theorem mem_colB {g : List Nat} {j x c : Nat} : c ∈ colB g j x ↔ c < j ∧ (g.getD c 0).testBit x = true := by unfold colB; rw [List.mem_filter, List.mem_range]
theorem mem_rowH {k s : Nat} {g : List Nat} {x c : Nat} : c ∈ rowH k s g x ↔ (c < k + s ∧ (g.getD c 0).testBit x = true) ∨ c = k + s + x := by
  unfold rowH
  rw [List.mem_append, mem_colB, List.mem_singleton]
theorem row_own {k s h i : Nat} {g : List Nat} (hi : i < s + h) : k + i ∈ (rowsP k s h g).getD i [] := by
  by_cases h1 : i < s
  · rw [rowsP_L h1, rowL_eq h1]; simp
  · obtain ⟨x, rfl⟩ : ∃ x, i = s + x := ⟨i - s, by omega⟩
    rw [rowsP_H (by omega), mem_rowH]
    right; omega
theorem row_ahead {k s h i j : Nat} {g : List Nat} (hi : i < s + h) (hj : j < i) : k + i ∉ (rowsP k s h g).getD j [] := by
  by_cases h1 : j < s
  · rw [rowsP_L h1, mem_rowL]
    rintro ⟨h2, h3⟩
    rw [ldB_far (by omega)] at h3
    have := of_decide_eq_true h3
    omega
  · obtain ⟨x, rfl⟩ : ∃ x, j = s + x := ⟨j - s, by omega⟩
    rw [rowsP_H (by omega), mem_rowH]
    rintro (⟨h2, _⟩ | h2) <;> omega
theorem row_lt {k s h i c : Nat} {g : List Nat} (hi : i < s + h) (hc : c ∈ (rowsP k s h g).getD i []) : c < k + s + h := by
  by_cases h1 : i < s
  · rw [rowsP_L h1, mem_rowL] at hc
    omega
  · obtain ⟨x, rfl⟩ : ∃ x, i = s + x := ⟨i - s, by omega⟩
    rw [rowsP_H (by omega), mem_rowH] at hc
    omega
theorem row_nodup {k s h i : Nat} {g : List Nat} (hi : i < s + h) : ((rowsP k s h g).getD i []).Nodup := by
  by_cases h1 : i < s
  · rw [rowsP_L h1]
    exact List.Pairwise.filter _ List.nodup_range
  · obtain ⟨x, rfl⟩ : ∃ x, i = s + x := ⟨i - s, by omega⟩
    rw [rowsP_H (by omega)]
    unfold rowH
    refine nodup_snoc _ _ (List.Pairwise.filter _ List.nodup_range) ?_
    rw [mem_colB]
    omega

/-! ### as words -/
theorem ofNat_mem {l : List Nat} {x : Nat} : (x : Int) ∈ l.map Int.ofNat ↔ x ∈ l := by
  rw [List.mem_map]
  constructor
  · rintro ⟨y, hy, e⟩
    have : y = x := by have e' : (y : Int) = (x : Int) := e; omega
    exact this ▸ hy
  · intro h; exact ⟨x, h, rfl⟩
theorem ofNat_nodup {l : List Nat} (h : l.Nodup) : (l.map Int.ofNat).Nodup := by
  unfold List.Nodup at *
  exact List.Pairwise.map Int.ofNat (fun a b hab e => hab (by have e' : (a : Int) = (b : Int) := e; omega)) h
def packR (n : Nat) (r : List Nat) : List Nat := packW (r.map Int.ofNat) (kOf n)
theorem packR_packs (n : Nat) (r : List Nat) : Packs (packR n r) (kOf n) (inP (r.map Int.ofNat)) := Packs.map _ _
theorem packR_bit {n : Nat} {r : List Nat} (hr : ∀ c ∈ r, c < n) (c : Nat) : bitW (packR n r) c = decide (c ∈ r) := by
  obtain ⟨h1, h2, h3⟩ := packR_packs n r
  rcases Nat.lt_or_ge c (64 * kOf n) with h | h
  · rw [h3 c h]
    exact decide_eq_decide.2 ofNat_mem
  · rw [bitW_out _ _ (by rw [h1]; exact h)]
    symm
    rw [decide_eq_false_iff_not]
    intro hc
    have := hr c hc
    unfold kOf at h
    omega
def packL (n : Nat) (R : List (List Nat)) : List (List Nat) := R.map (packR n)
theorem packL_ok {n : Nat} {R : List (List Nat)} (hn : n ≤ 4096) (hR : R.length ≤ 4096) (h : ∀ r ∈ R, ∀ c ∈ r, c < n) : MatOk (packL n R) n := by
  refine ⟨hn, by simpa [packL] using hR, fun r hr => ?_, fun r hr => ?_⟩
  · obtain ⟨q, hq, rfl⟩ := List.mem_map.1 hr
    exact (packR_packs n q).2.1
  · obtain ⟨q, hq, rfl⟩ := List.mem_map.1 hr
    refine ⟨(packR_packs n q).1, fun c hc => ?_⟩
    rw [packR_bit (h q hq), decide_eq_false_iff_not]
    intro hm
    have := h q hq c hm
    omega
theorem checkI_zero {n : Nat} {r : List Nat} (hn : n ≤ 4096) (hd : r.Nodup) (h : ∀ c ∈ r, c < n) : checkI (r.map Int.ofNat) (n : Int) = 0 := by
  have h1 : outI (r.map Int.ofNat) (n : Int) = false := by
    unfold outI
    rw [List.any_eq_false]
    intro c hc
    obtain ⟨q, hq, rfl⟩ := List.mem_map.1 hc
    have := h q hq
    have e : Int.ofNat q = (q : Int) := rfl
    rw [e]
    simp
    omega
  unfold checkI
  rw [h1, if_neg (by simp; omega), if_pos (ofNat_nodup hd)]

/-! ### the rank -/
theorem rk_tri {V : List Vec} (c : Nat → Nat) (h1 : ∀ i, i < V.length → V.getD i vzero (c i) = true) (h2 : ∀ i j, i < V.length → j < i → V.getD j vzero (c i) = false) : rk V = V.length := by
  have key : ∀ k, k ≤ V.length → rk (V.take k) = k := by
    intro k
    induction k with
    | zero =>
      intro _
      have := rk_le_length (V.take 0)
      simp at this
      simpa using this
    | succ k ih =>
      intro hk
      rw [rk_take_out (by omega) ?_, ih (by omega)]
      intro hs
      have h3 := hs.low (c := c k) fun r hr => by
        obtain ⟨j, hj, rfl⟩ := List.getElem_of_mem hr
        rw [List.length_take] at hj
        have h4 := h2 k j (by omega) (by omega)
        rw [List.getD_eq_getElem?_getD, List.getElem?_eq_getElem (by omega)] at h4
        simpa using h4
      rw [h1 k (by omega)] at h3
      cases h3
  have := key V.length (Nat.le_refl _)
  rwa [List.take_length] at this
theorem rows_rank (k s h : Nat) (g : List Nat) : rk (vecs (packL (k + s + h) (rowsP k s h g))) = s + h := by
  have hlen : (vecs (packL (k + s + h) (rowsP k s h g))).length = s + h := by rw [vecs_length]; simp [packL, rowsP_length]
  have hbit : ∀ j c, j < s + h → (vecs (packL (k + s + h) (rowsP k s h g))).getD j vzero c = decide (c ∈ (rowsP k s h g).getD j []) := fun j c hj => by
    rw [vecs_getD]
    have hjl : j < (rowsP k s h g).length := by rw [rowsP_length]; exact hj
    have e : (packL (k + s + h) (rowsP k s h g)).getD j [] = packR (k + s + h) ((rowsP k s h g).getD j []) := by
      unfold packL
      rw [List.getD_eq_getElem?_getD, List.getElem?_map, List.getD_eq_getElem?_getD, List.getElem?_eq_getElem hjl]
      rfl
    rw [e]
    exact packR_bit (fun c hc => row_lt hj hc) c
  rw [rk_tri (fun i => k + i) (fun i hi => ?_) (fun i j hi hj => ?_), hlen]
  · rw [hlen] at hi
    rw [hbit i _ hi]
    exact decide_eq_true (row_own hi)
  · rw [hlen] at hi
    rw [hbit j _ (by omega)]
    exact decide_eq_false (row_ahead hi hj)
end Go.Proofs.Ytpnjjbbpcdeooaa
