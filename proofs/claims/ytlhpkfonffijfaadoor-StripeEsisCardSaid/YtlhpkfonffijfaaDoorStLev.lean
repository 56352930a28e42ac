/- The document's functions of layer 17: May, Level. -/
import Derived.Test.YtlhpkfonffijfaaDoorStR
import Derived.Test.YtlhpkfonffijfaaDoorLists
import Derived.OwnWalk
import Derived.WalkSpells
import Derived.WalkLawsBesides
import Derived.Deep.LoopGhost
namespace Go.Proofs.YtlhpkfonffijfaaDoor
open Go.RowKit Go.Extern.Stop Go.Stop Go.Extern

def cutV (c : Nat) : Value := .int .i64 (c : Int)
def modTo (R : Nat → Nat) (P r j : Nat) : List Nat := (List.range j).filter fun c => decide (R c % P = r)
theorem modTo_one {R : Nat → Nat} {P r j : Nat} (h : R j % P = r) : modTo R P r (j + 1) = modTo R P r j ++ [j] := by
  simp [modTo, List.range_succ, List.filter_append, h]
theorem modTo_none {R : Nat → Nat} {P r j : Nat} (h : ¬ R j % P = r) : modTo R P r (j + 1) = modTo R P r j := by
  simp [modTo, List.range_succ, List.filter_append, h]
theorem modTo_length (R : Nat → Nat) (P r j : Nat) : (modTo R P r j).length ≤ j := by
  have := List.length_filter_le (fun c => decide (R c % P = r)) (List.range j)
  rwa [List.length_range] at this
theorem modTo_all (m l s : Nat) : modTo (revN (m + l)) (2 ^ m) (s % 2 ^ m) (2 ^ (m + l)) = levL m l s :=
  levL_filter m l s fun c _ => by simp

set_option linter.unusedSimpArgs false in
set_option maxRecDepth 1000000 in
set_option maxHeartbeats 4000000 in
theorem stMay_any {w : World} (g l : Int) (_ : I64 g) (_ : I64 l) : Calls Tryd.prog 13 #[.int .i64 g, .int .i64 l] w fun e w' => e = .returned (.bool (mayB g l)) ∧ w = w' := by
  by_cases h1 : 1 ≤ g
  · by_cases h2 : g ≤ 8
    · by_cases h3 : 0 ≤ l
      · by_cases h4 : l < g
        · have hm : mayB g l = true := decide_eq_true ⟨h1, h2, h3, h4⟩
          rw [hm]
          go_enter Tryd.func13, Tryd.ntmps13
          go_wp2
          go_ret
          exact ⟨by simp [h1, h2, h3, h4], rfl⟩
        · have hm : mayB g l = false := decide_eq_false fun h => h4 h.2.2.2
          rw [hm]
          go_enter Tryd.func13, Tryd.ntmps13
          go_wp2
          go_ret
          exact ⟨by simp [h1, h2, h3, h4], rfl⟩
      · have hm : mayB g l = false := decide_eq_false fun h => h3 h.2.2.1
        rw [hm]
        go_enter Tryd.func13, Tryd.ntmps13
        go_wp2
        go_ret
        exact ⟨by simp [h1, h2, h3], rfl⟩
    · have hm : mayB g l = false := decide_eq_false fun h => h2 h.2.1
      rw [hm]
      go_enter Tryd.func13, Tryd.ntmps13
      go_wp2
      go_ret
      exact ⟨by simp [h1, h2], rfl⟩
  · have hm : mayB g l = false := decide_eq_false fun h => h1 h.1
    rw [hm]
    go_enter Tryd.func13, Tryd.ntmps13
    go_wp2
    go_ret
    exact ⟨by simp [h1], rfl⟩

end Go.Proofs.YtlhpkfonffijfaaDoor
