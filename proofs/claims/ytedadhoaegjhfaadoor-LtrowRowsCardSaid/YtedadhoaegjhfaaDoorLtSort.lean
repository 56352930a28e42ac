/- Mathematics of package ltrow: the sorted walk is the numbers below l that lie on it. -/
import Derived.Test.YtedadhoaegjhfaaDoorLtMath
namespace Go.Proofs.YtedadhoaegjhfaaDoor

/-- The numbers below l that lie in W, rising. -/
def risN (l : Nat) (W : List Nat) : List Nat := (List.range l).filter fun x => decide (x ∈ W)
theorem mem_risN {l x : Nat} {W : List Nat} : x ∈ risN l W ↔ x < l ∧ x ∈ W := by
  unfold risN
  rw [List.mem_filter, List.mem_range, decide_eq_true_eq]
theorem risN_sorted (l : Nat) (W : List Nat) : (risN l W).Pairwise (· < ·) := List.Pairwise.filter _ List.pairwise_lt_range
theorem risN_nodup (l : Nat) (W : List Nat) : (risN l W).Nodup := (risN_sorted l W).imp fun h => Nat.ne_of_lt h
theorem risN_perm {l : Nat} {W : List Nat} (hnd : W.Nodup) (hlt : ∀ x ∈ W, x < l) : (risN l W).Perm W :=
  (List.perm_ext_iff_of_nodup (risN_nodup l W) hnd).2 fun x => ⟨fun h => (mem_risN.1 h).2, fun h => mem_risN.2 ⟨hlt x h, h⟩⟩
theorem risN_length {l : Nat} {W : List Nat} (hnd : W.Nodup) (hlt : ∀ x ∈ W, x < l) : (risN l W).length = W.length := (risN_perm hnd hlt).length_eq
theorem risN_zero (W : List Nat) : risN 0 W = [] := rfl
theorem risN_in {l : Nat} {W : List Nat} (h : l ∈ W) : risN (l + 1) W = risN l W ++ [l] := by
  unfold risN; rw [List.range_succ, List.filter_append]; simp [h]
theorem risN_out {l : Nat} {W : List Nat} (h : ¬ l ∈ W) : risN (l + 1) W = risN l W := by
  unfold risN; rw [List.range_succ, List.filter_append]; simp [h]
theorem mem_mapI {W : List Nat} {x : Nat} : (x : Int) ∈ W.map Int.ofNat ↔ x ∈ W := by
  rw [List.mem_map]
  exact ⟨fun ⟨y, hy, e⟩ => by
    have : y = x := Int.ofNat.inj e
    exact this ▸ hy, fun h => ⟨x, h, rfl⟩⟩
theorem sort_ris {l : Nat} {W : List Nat} (hnd : W.Nodup) (hlt : ∀ x ∈ W, x < l) :
    ((W.map Int.ofNat).mergeSort fun x y => decide (x ≤ y)) = (risN l W).map Int.ofNat := by
  refine List.Perm.eq_of_pairwise (le := fun a b : Int => a ≤ b) (fun a b _ _ h1 h2 => Int.le_antisymm h1 h2) ?_ ?_ ?_
  · have := List.pairwise_mergeSort (le := fun x y : Int => decide (x ≤ y)) (fun a b c h1 h2 => by
      simp only [decide_eq_true_eq] at h1 h2 ⊢; omega) (fun a b => by
      simp only [Bool.or_eq_true, decide_eq_true_eq]; omega) (W.map Int.ofNat)
    exact this.imp fun h => of_decide_eq_true h
  · rw [List.pairwise_map]
    exact (risN_sorted l W).imp fun h => by
      show ((_ : Nat) : Int) ≤ ((_ : Nat) : Int)
      omega
  · exact (List.mergeSort_perm _ _).trans ((risN_perm hnd hlt).symm.map _)
end Go.Proofs.YtedadhoaegjhfaaDoor
