/- Numbers of a block in a block of memory of their own (was in Law08). -/
import Derived.Test.YtedadhoaegjhfaaDoorPaO
namespace Go.Proofs.YtedadhoaegjhfaaDoor
open Go.RowKit Go.Extern.Stop Go.Stop Go.Extern

/-- Numbers in a block of their own. -/
def ParBox (W : World) (g : Nat) (k s h l p : Int) : Prop := W.heap[g]? = some (.cells (parC k s h l p) 23 (0, 0))
theorem ParBox.lt {W : World} {g : Nat} {k s h l p : Int} (b : ParBox W g k s h l p) : g < W.heap.size := (Array.getElem?_eq_some_iff.1 b).1
theorem ParBox.mono {W W' : World} {g : Nat} {k s h l p : Int} (b : ParBox W g k s h l p) (hb : Below W.heap.size W W') : ParBox W' g k s h l p := (hb.block g b.lt).trans b
theorem ParBox.cells {W : World} {g : Nat} {k s h l p : Int} (b : ParBox W g k s h l p) :
    W.cell? ⟨g, 0, none⟩ = some (.int .i64 k) ∧ W.cell? ⟨g, 1, none⟩ = some (.int .i64 s) ∧ W.cell? ⟨g, 2, none⟩ = some (.int .i64 h) ∧ W.cell? ⟨g, 3, none⟩ = some (.int .i64 l) ∧ W.cell? ⟨g, 4, none⟩ = some (.int .i64 p) :=
  ⟨cell_of_heap b rfl, cell_of_heap b rfl, cell_of_heap b rfl, cell_of_heap b rfl, cell_of_heap b rfl⟩
theorem par_laid (w : World) (k s h l p : Int) : ∃ W, W = w.alloc (.cells #[.int .i64 k, .int .i64 s, .int .i64 h, .int .i64 l, .int .i64 p] 23) ∧ Below w.heap.size w W ∧ ParBox W w.heap.size k s h l p :=
  ⟨_, rfl, (Below.refl _ _).alloc (Nat.le_refl _) _, heap_alloc_new w _⟩

end Go.Proofs.YtedadhoaegjhfaaDoor
