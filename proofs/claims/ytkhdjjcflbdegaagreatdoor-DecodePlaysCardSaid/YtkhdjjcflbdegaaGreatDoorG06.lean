import Derived.Test.YtkhdjjcflbdegaaGreatDoorG05

section
/- Package system: each number of source symbols has a seed. -/
namespace Go.Proofs.YtkhdjjcflbdegaaGreatDoor

set_option maxRecDepth 1000000 in
theorem seedsA : ((List.range 64).all fun i => seedB (i + 1) (sdTab.getD i (0, 0, 0, 0, 0))) = true := by decide +kernel
set_option maxRecDepth 1000000 in
theorem seedsB : ((List.range 32).all fun i => seedB (i + 65) (sdTab.getD (i + 64) (0, 0, 0, 0, 0))) = true := by decide +kernel
set_option maxRecDepth 1000000 in
theorem seedsC : ((List.range 32).all fun i => seedB (i + 97) (sdTab.getD (i + 96) (0, 0, 0, 0, 0))) = true := by decide +kernel
/-- Each number of source symbols has a seed by which the rows of the first encoding symbols have the full rank. -/
theorem seed_ex {k s h l p : Nat} (hk1 : 1 ≤ k) (hk2 : k ≤ 128) (ho : OfP k s h l p) :
    ∃ seed, seed < 65536 ∧ ∀ g, IsGr ((h + 1) / 2) (k + s) g → ∀ W : Nat → List Nat, (∀ e, e < k → IsTr l p (trS p (mixN e seed)) (trA p (mixN e seed)) (trD l (mixN e seed)) (W e)) → rk ((rowsP k s h g ++ (List.range k).map W).map rowVec) = l := by
  have hb : seedB k (sdTab.getD (k - 1) (0, 0, 0, 0, 0)) = true := by
    rcases (by omega : k ≤ 64 ∨ (65 ≤ k ∧ k ≤ 96) ∨ 97 ≤ k) with h | h | h
    · have := List.all_eq_true.1 seedsA (k - 1) (List.mem_range.2 (by omega))
      rwa [show k - 1 + 1 = k by omega] at this
    · have := List.all_eq_true.1 seedsB (k - 65) (List.mem_range.2 (by omega))
      rwa [show k - 65 + 65 = k by omega, show k - 65 + 64 = k - 1 by omega] at this
    · have := List.all_eq_true.1 seedsC (k - 97) (List.mem_range.2 (by omega))
      rwa [show k - 97 + 97 = k by omega, show k - 97 + 96 = k - 1 by omega] at this
  exact seedB_ok hb hk1 hk2 ho
end Go.Proofs.YtkhdjjcflbdegaaGreatDoor
end
