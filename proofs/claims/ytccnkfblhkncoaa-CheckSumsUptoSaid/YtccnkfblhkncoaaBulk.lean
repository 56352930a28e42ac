/- What the bound of the second form says of a slice of bytes: it is short. -/
import Derived.Test.YtccnkfblhkncoaaRows
import Derived.Test.YtccnkfblhkncoaaSyOpen
namespace Go.Proofs.Ytccnkfblhkncoaa
open Go.ChangeShapes Go.WideShapes Go.ChangeAt Go.RowKit

theorem bulk_lits {H : Type} : ∀ zs : List Int, Rows.uptoBulkAll (lits (H := H) .u8 zs) = zs.length
  | [] => by simp [lits, Rows.uptoBulkAll]
  | z :: zs => by
    have ih := bulk_lits (H := H) zs
    simp only [lits, List.map_cons, Rows.uptoBulkAll, Rows.uptoBulk, List.length_cons] at ih ⊢
    omega
theorem bytes_bound {H : Type} {d : DataW H} {ds : List (DataW H)} {l : List Nat} (hD : l.length = 0 ∨ ∃ zs sp, d = .slice (lits .u8 zs) sp ∧ zs.length = l.length) (hk : Rows.uptoSmall H (d :: ds) = true) : l.length ≤ 4194304 := by
  rcases hD with h | ⟨zs, sp, rfl, h⟩
  · omega
  · have hb : Rows.uptoBulkAll (.slice (lits .u8 zs) sp :: ds) ≤ 1048576 := of_decide_eq_true hk
    simp only [Rows.uptoBulkAll, Rows.uptoBulk, bulk_lits] at hb
    omega
end Go.Proofs.Ytccnkfblhkncoaa
