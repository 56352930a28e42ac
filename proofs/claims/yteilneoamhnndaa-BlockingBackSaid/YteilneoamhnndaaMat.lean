/- Lists of rows in memory: as they are read (MatAt), as a call makes them (ElAt, MatOwn). -/
import Derived.Test.YteilneoamhnndaaLists
import Derived.Test.YteilneoamhnndaaLinW
namespace Go.Proofs.Yteilneoamhnndaa
open Go.RowKit Go.Extern.Stop Go.Stop Go.Extern

def boolV (b : Bool) : Value := .bool b

theorem info_bool : (Try.prog.info? 4).map (fun i => (i.zero, i.size, i.bytes)) = some (some (.bool false), 1, 1) := by kernel_rfl





theorem MatAt.getD_words {w : World} {v : Value} {L : List (List Nat)} (_ : MatAt wordV w v L) (h : ∀ r ∈ L, Word r) (k : Nat) : Word (L.getD k []) := by
  by_cases hk : k < L.length
  · exact h _ (getD_mem' hk)
  · rw [List.getD_eq_getElem?_getD, List.getElem?_eq_none (by omega)]
    intro x hx
    simp at hx

end Go.Proofs.Yteilneoamhnndaa
