/- Lists of rows in memory: as they are read (MatAt), as a call makes them (ElAt, MatOwn). -/
import Derived.Test.YtpnjjbbpcdeooaaLists
import Derived.Test.YtpnjjbbpcdeooaaLinW
namespace Go.Proofs.Ytpnjjbbpcdeooaa
open Go.RowKit Go.Extern.Stop Go.Stop Go.Extern

def boolV (b : Bool) : Value := .bool b

theorem info_row : (Try.prog.info? 34).map (fun i => (i.zero, i.size, i.bytes)) = some (some (.slice none 0 0), 1, 24) := by kernel_rfl
theorem info_brow : (Try.prog.info? 67).map (fun i => (i.zero, i.size, i.bytes)) = some (some (.slice none 0 0), 1, 24) := by kernel_rfl
theorem info_bool : (Try.prog.info? 4).map (fun i => (i.zero, i.size, i.bytes)) = some (some (.bool false), 1, 1) := by kernel_rfl





theorem MatAt.getD_words {w : World} {v : Value} {L : List (List Nat)} (_ : MatAt wordV w v L) (h : ∀ r ∈ L, Word r) (k : Nat) : Word (L.getD k []) := by
  by_cases hk : k < L.length
  · exact h _ (getD_mem' hk)
  · rw [List.getD_eq_getElem?_getD, List.getElem?_eq_none (by omega)]
    intro x hx
    simp at hx

end Go.Proofs.Ytpnjjbbpcdeooaa
