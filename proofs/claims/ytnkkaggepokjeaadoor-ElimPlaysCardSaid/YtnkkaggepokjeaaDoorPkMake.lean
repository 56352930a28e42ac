/- Packages packed and geyserref02, what makes lists: Unpack (both), the document's Xor and Pack; Same, SameWords at like lists; Xor, Odd. -/
import Derived.Test.YtnkkaggepokjeaaDoorPkUn
import Derived.Test.YtnkkaggepokjeaaDoorPkRead
import Derived.Test.YtnkkaggepokjeaaDoorErrFault
import Derived.OwnWalk
import Derived.WalkSpells
import Derived.WalkLawsBesides
import Derived.Deep.LoopGhost
namespace Go.Proofs.YtnkkaggepokjeaaDoor
open Go.RowKit Go.Extern.Stop Go.Stop Go.Extern

/-! ### packed.Unpack -/

theorem colsTo_end (ws : List Nat) (k n : Nat) (hn : n ≤ 64) (hz : ∀ b, n ≤ b → (ws.getD k 0).testBit b = false) : colsTo ws (64 * (k + 1)) = colsTo ws (64 * k + n) := by
  have := colsTo_gap ws (64 * k + n) (64 - n) fun c h1 h2 => by
    have e : c = k * 64 + (c - 64 * k) := by omega
    rw [e, bitW_at _ _ _ (by omega)]
    exact hz _ (by omega)
  rw [← this]
  congr 1
  omega

/-! ### the document's exclusive or -/

def symI (l m : List Int) (n : Nat) : List Nat := (List.range n).filter fun c => decide ((c : Int) ∈ l) != decide ((c : Int) ∈ m)
theorem symI_length_le (l m : List Int) (n : Nat) : (symI l m n).length ≤ n := Nat.le_trans (List.length_filter_le _ _) (by simp)
theorem symI_one (l m : List Int) (n : Nat) (h : (decide ((n : Int) ∈ l) != decide ((n : Int) ∈ m)) = true) : symI l m (n + 1) = symI l m n ++ [n] := by
  unfold symI; rw [List.range_succ, List.filter_append]; simp only [List.filter_cons, List.filter_nil, h]; rfl
theorem symI_none (l m : List Int) (n : Nat) (h : (decide ((n : Int) ∈ l) != decide ((n : Int) ∈ m)) = false) : symI l m (n + 1) = symI l m n := by
  unfold symI; rw [List.range_succ, List.filter_append]; simp only [List.filter_cons, List.filter_nil, h]; simp

theorem neqBool (p q r : Bool) (h : (p != q) = r) (w : World) : (binOp .neq 4 (.bool p) (.bool q)).run Tryd.prog w = .ok (.bool r) w := by
  subst h; cases p <;> cases q <;> kernel_rfl

/-! ### like lists are the same -/

end Go.Proofs.YtnkkaggepokjeaaDoor
