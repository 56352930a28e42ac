/- Package geyserref04: Picked, Same, Copy. -/
import Derived.Test.YteilneoamhnndaaSyRef2
import Derived.Test.YteilneoamhnndaaPkUn
namespace Go.Proofs.Yteilneoamhnndaa
open Go.RowKit Go.Extern.Stop Go.Stop Go.Extern

theorem getD_map_cols (cs : List Nat) (L : List (List Nat)) (k : Nat) (h : k < cs.length) : (cs.map fun c => L.getD c []).take (k + 1) = (cs.map fun c => L.getD c []).take k ++ [L.getD (cs.getD k 0) []] := by
  rw [List.take_add_one, List.getElem?_map, List.getElem?_eq_getElem h, List.getD_eq_getElem?_getD (l := cs), List.getElem?_eq_getElem h]
  rfl

end Go.Proofs.Yteilneoamhnndaa
