/- The document's functions of layer 17: Check, Esis. -/
import Derived.Test.YtlhpkfonffijfaaStCh
namespace Go.Proofs.Ytlhpkfonffijfaa
open Go.RowKit Go.Extern.Stop Go.Stop Go.Extern

/-- why there are no encoding symbols -/
def stEsiN (g n l : Int) : Int := if mayB g l = true ∧ 1 ≤ n ∧ n ≤ 65536 then (if n.toNat % 2 ^ (g - 1).toNat = 0 then 0 else 2) else 1
/-- encoding symbols of some chunks -/
def stEsiTo (z : Nat) (L : List Nat) : List Nat := L.flatMap fun c => (List.range z).map fun k => c * z + k
/-- a layer's encoding symbols -/
def stEsiL (m l s z : Nat) : List Nat := stEsiTo z (layL m s l)
theorem stEsiTo_one (z : Nat) (F : List Nat) (j : Nat) (h : j < F.length) : stEsiTo z (F.take (j + 1)) = stEsiTo z (F.take j) ++ (List.range z).map fun k => F.getD j 0 * z + k := by
  unfold stEsiTo
  rw [List.take_add_one, List.getElem?_eq_getElem h, List.flatMap_append, List.getD_eq_getElem?_getD, List.getElem?_eq_getElem h]
  simp
theorem stEsiTo_length (z : Nat) : ∀ F : List Nat, (stEsiTo z F).length = F.length * z
  | [] => by simp [stEsiTo]
  | c :: F => by
    have := stEsiTo_length z F
    unfold stEsiTo at *
    rw [List.flatMap_cons, List.length_append, this, List.length_map, List.length_range, List.length_cons, Nat.succ_mul, Nat.add_comm]
theorem mayB_nat {g l : Int} (h : mayB g l = true) : ∃ g' l' m : Nat, g = g' ∧ l = l' ∧ g' = m + l' + 1 ∧ g' ≤ 8 := by
  have h := of_decide_eq_true h
  exact ⟨g.toNat, l.toNat, g.toNat - 1 - l.toNat, by omega, by omega, by omega, by omega⟩

end Go.Proofs.Ytlhpkfonffijfaa
