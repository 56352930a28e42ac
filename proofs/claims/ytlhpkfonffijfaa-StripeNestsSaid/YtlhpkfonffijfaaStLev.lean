/- The document's functions of layer 17: May, Level. -/
import Derived.Test.YtlhpkfonffijfaaStR
import Derived.Test.YtlhpkfonffijfaaLists
import Derived.OwnWalk
import Derived.WalkSpells
import Derived.WalkLawsBesides
import Derived.Deep.LoopGhost
namespace Go.Proofs.Ytlhpkfonffijfaa
open Go.RowKit Go.Extern.Stop Go.Stop Go.Extern

def cutV (c : Nat) : Value := .int .i64 (c : Int)
def modTo (R : Nat → Nat) (P r j : Nat) : List Nat := (List.range j).filter fun c => decide (R c % P = r)
theorem modTo_one {R : Nat → Nat} {P r j : Nat} (h : R j % P = r) : modTo R P r (j + 1) = modTo R P r j ++ [j] := by
  simp [modTo, List.range_succ, List.filter_append, h]
theorem modTo_none {R : Nat → Nat} {P r j : Nat} (h : ¬ R j % P = r) : modTo R P r (j + 1) = modTo R P r j := by
  simp [modTo, List.range_succ, List.filter_append, h]
theorem modTo_length (R : Nat → Nat) (P r j : Nat) : (modTo R P r j).length ≤ j := by
  have := List.length_filter_le (fun c => decide (R c % P = r)) (List.range j)
  rwa [List.length_range] at this
theorem modTo_all (m l s : Nat) : modTo (revN (m + l)) (2 ^ m) (s % 2 ^ m) (2 ^ (m + l)) = levL m l s :=
  levL_filter m l s fun c _ => by simp

end Go.Proofs.Ytlhpkfonffijfaa
