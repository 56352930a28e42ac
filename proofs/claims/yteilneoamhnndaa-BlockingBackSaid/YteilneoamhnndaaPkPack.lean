/- Packages packed and geyserref02: the document's Pack and Check; packed.Pack, Xor, Odd. -/
import Derived.Test.YteilneoamhnndaaPkIn
import Derived.Test.YteilneoamhnndaaLists
import Derived.OwnWalk
import Derived.WalkSpells
import Derived.WalkLawsBesides
import Derived.Deep.LoopGhost
namespace Go.Proofs.Yteilneoamhnndaa
open Go.RowKit Go.Extern.Stop Go.Stop Go.Extern

/-! ### the document's Pack -/
def inP (l : List Int) (c : Nat) : Bool := decide ((c : Int) ∈ l)
def packW (l : List Int) (k : Nat) : List Nat := (List.range k).map fun i => bitsDown (inP l) i 64
theorem packW_succ (l : List Int) (k : Nat) : packW l (k + 1) = packW l k ++ [bitsDown (inP l) k 64] := by unfold packW; rw [List.range_succ, List.map_append]; rfl
theorem packW_length (l : List Int) (k : Nat) : (packW l k).length = k := by simp [packW]
theorem sizeI_nat (n : Int) : ∃ k : Nat, sizeI n = (k : Int) ∧ k ≤ 64 := by
  unfold sizeI
  split
  · exact ⟨0, rfl, by omega⟩
  · exact ⟨((n + 63) / 64).toNat, by omega, by omega⟩

/-! ### the document's Check -/
def checkI (l : List Int) (n : Int) : Int := if n < 0 ∨ 4096 < n ∨ outI l n = true then 1 else if l.Nodup then 0 else 2

theorem nodup_snoc {α : Type} [DecidableEq α] (l : List α) (x : α) (h : l.Nodup) (hx : x ∉ l) : (l ++ [x]).Nodup := by
  unfold List.Nodup at *
  rw [List.pairwise_append]
  exact ⟨h, by simp, fun a ha b hb => by simp at hb; subst hb; intro e; exact hx (e ▸ ha)⟩
theorem not_nodup_of {l : List Int} {k : Nat} (hk : k < l.length) (h : l[k] ∈ l.take k) : ¬ l.Nodup := by
  intro hn
  have h2 : (l.take (k + 1)).Nodup := hn.sublist (List.take_sublist _ _)
  rw [List.take_succ_eq_append_getElem hk] at h2
  unfold List.Nodup at h2
  rw [List.pairwise_append] at h2
  exact h2.2.2 _ h _ (by simp) rfl

end Go.Proofs.Yteilneoamhnndaa
