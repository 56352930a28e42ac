/- The sixth layer's laws: awake. -/
import Derived.Test.YtgdfodpmklfhgaaDoorMiA
namespace Go.Proofs.YtgdfodpmklfhgaaDoor
open Go.RowKit Go.Extern.Stop Go.Stop Go.Extern

set_option maxRecDepth 1000000 in
set_option maxHeartbeats 1000000 in
theorem awake6 (w : World) : Calls Tryd.prog 8 #[] w fun e w' => e = .returned (.bool true) ∧ w = w' := by
  go_enter Tryd.func8, Tryd.ntmps8
  go_wp2_with fail
  refine (mixU_any 0 0).mono ?_
  rintro e w1 ⟨rfl, rfl⟩
  rw [awake_a]
  go_wp2_with fail
  refine (mixU_any 7 9).mono ?_
  rintro e w1 ⟨rfl, rfl⟩
  rw [awake_b]
  go_wp2_with fail
  refine (mixU_any 7 9).mono ?_
  rintro e w1 ⟨rfl, rfl⟩
  rw [awake_b]
  go_wp2_with fail
  refine (unmixU_any 4216259275 9 (by decide) (by decide)).mono ?_
  rintro e w1 ⟨rfl, rfl⟩
  rw [awake_c]
  go_wp2
  go_ret
  exact ⟨rfl, rfl⟩
end Go.Proofs.YtgdfodpmklfhgaaDoor
