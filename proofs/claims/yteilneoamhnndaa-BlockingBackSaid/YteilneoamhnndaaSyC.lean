/- Package symbol: Pick. -/
import Derived.Test.YteilneoamhnndaaSyB
namespace Go.Proofs.Yteilneoamhnndaa
open Go.RowKit Go.Extern.Stop Go.Stop Go.Extern

theorem MatOwn.none {α : Type} {f : α → Value} {te e : TypeId} {base : Nat} (w : World) : MatOwn f te base e w (.slice none 0 0) [] :=
  ⟨[], World.ownsRow_nil _ _ _ _, fun i => by simpa using ElAt.nil f te base _⟩
theorem colsTo_length_le2 (ws : List Nat) (n : Nat) : (colsTo ws n).length ≤ 64 * ws.length := by
  obtain ⟨B, -, hB⟩ := cols_split ws n
  have := colsOf_length_le ws
  rw [hB, List.length_append] at this
  omega

/-- What Pick says of symbols of m bytes. -/
def PickSays (ws : List Nat) (L : List (List Nat)) (m : Nat) (w w' : World) (e : Ending) : Prop :=
  if behindB ws L.length = true then ∃ E, e = .returned (.tuple #[.slice none 0 0, E]) ∧ ErrAns 2 namePick w' E ∧ Below w.heap.size w w'
  else ∃ v', e = .returned (.tuple #[v', .nilIface]) ∧ w'.ownsRow w.heap.size 5 1 v' m ((sumS m (pickTo ws L L.length)).map byteV) ∧ Below w.heap.size w w'

end Go.Proofs.Yteilneoamhnndaa
