/- Package geyserref04: Zero, Split. -/
import Derived.Test.YteilneoamhnndaaSyD
namespace Go.Proofs.Yteilneoamhnndaa
open Go.RowKit Go.Extern.Stop Go.Stop Go.Extern

theorem fill_piece {P : List Nat} {m k t : Nat} (h : t = m ∨ P.length ≤ k * m + t) : fillTo (fun j => P.getD (k * m + j) 0) 0 m t = pieceAt P m k := by
  unfold fillTo pieceAt
  apply List.map_congr_left
  intro j hj
  have hj' := List.mem_range.1 hj
  by_cases e : j < t
  · rw [if_pos e]
  · rw [if_neg e, List.getD_eq_getElem?_getD, List.getElem?_eq_none (by omega)]; rfl

end Go.Proofs.Yteilneoamhnndaa
