/- A trip of package ltrow: a struct of three numbers; in a block of its own. -/
import Derived.Test.YtedadhoaegjhfaaDoorPar
namespace Go.Proofs.YtedadhoaegjhfaaDoor
open Go.RowKit Go.Extern.Stop Go.Stop Go.Extern

/-- A trip as a struct. -/
def tripC (d s a : Int) : Array Value := #[.int .i64 d, .int .i64 s, .int .i64 a]
def tripV (d s a : Int) : Value := .agg (tripC d s a)
/-- A trip in a block of its own. -/
def TripBox (W : World) (g : Nat) (d s a : Int) : Prop := W.heap[g]? = some (.cells (tripC d s a) 25 (0, 0))
theorem TripBox.lt {W : World} {g : Nat} {d s a : Int} (b : TripBox W g d s a) : g < W.heap.size := (Array.getElem?_eq_some_iff.1 b).1
theorem TripBox.mono {W W' : World} {g : Nat} {d s a : Int} (b : TripBox W g d s a) (hb : Below W.heap.size W W') : TripBox W' g d s a := (hb.block g b.lt).trans b
theorem TripBox.cells {W : World} {g : Nat} {d s a : Int} (b : TripBox W g d s a) :
    W.cell? ⟨g, 0, none⟩ = some (.int .i64 d) ∧ W.cell? ⟨g, 1, none⟩ = some (.int .i64 s) ∧ W.cell? ⟨g, 2, none⟩ = some (.int .i64 a) :=
  ⟨cell_of_heap b rfl, cell_of_heap b rfl, cell_of_heap b rfl⟩
theorem TripBox.free {W : World} {g : Nat} {d s a : Int} (b : TripBox W g d s a) :
    W.frozen? ⟨g, 0, none⟩ = false ∧ W.frozen? ⟨g, 1, none⟩ = false ∧ W.frozen? ⟨g, 2, none⟩ = false :=
  ⟨frozen_of_heap b, frozen_of_heap b, frozen_of_heap b⟩
theorem trip_laid (w : World) (d s a : Int) : ∃ W, W = w.alloc (.cells #[.int .i64 d, .int .i64 s, .int .i64 a] 25) ∧ Below w.heap.size w W ∧ TripBox W w.heap.size d s a :=
  ⟨_, rfl, (Below.refl _ _).alloc (Nat.le_refl _) _, heap_alloc_new w _⟩
theorem TripBox.done {W : World} {g : Nat} {d s a : Int} (h : TripBox W g d s a) (x y z : Value) : (((W.setCell ⟨g, 0, none⟩ x).setCell ⟨g, 1, none⟩ y).setCell ⟨g, 2, none⟩ z).heap[g]? = some (.cells #[x, y, z] 25 (0, 0)) :=
  heap_setCell_at (heap_setCell_at (heap_setCell_at h))
theorem TripBox.below {W w : World} {B g : Nat} (hb : Below B w W) (hg : B ≤ g) (x y z : Value) : Below B w (((W.setCell ⟨g, 0, none⟩ x).setCell ⟨g, 1, none⟩ y).setCell ⟨g, 2, none⟩ z) :=
  ((hb.setCell (p := ⟨g, 0, none⟩) hg x).setCell (p := ⟨g, 1, none⟩) hg y).setCell (p := ⟨g, 2, none⟩) hg z
theorem TripBox.err {W : World} {g : Nat} {d s a : Int} {k : Int} {n : ByteArray} {E : Value} (h : TripBox W g d s a) (he : ErrAns k n W E) (x y z : Value) : ErrAns k n (((W.setCell ⟨g, 0, none⟩ x).setCell ⟨g, 1, none⟩ y).setCell ⟨g, 2, none⟩ z) E :=
  errAns_kept2 he fun b s hc => by
    have n1 : b ≠ g := by
      rintro rfl
      rw [h.cells.1] at hc
      cases hc
    rw [Below.heap_setCell _ _ _ _ n1, Below.heap_setCell _ _ _ _ n1, Below.heap_setCell _ _ _ _ n1]
theorem ParBox.set {W : World} {g b j : Nat} {k s h l p : Int} {u : Value} (x : ParBox W g k s h l p) (hn : g ≠ b) : ParBox (W.setCell ⟨b, j, none⟩ u) g k s h l p := (Below.heap_setCell _ ⟨b, j, none⟩ _ _ hn).trans x
theorem TripBox.set {W : World} {g b j : Nat} {d s a : Int} {u : Value} (x : TripBox W g d s a) (hn : g ≠ b) : TripBox (W.setCell ⟨b, j, none⟩ u) g d s a := (Below.heap_setCell _ ⟨b, j, none⟩ _ _ hn).trans x
end Go.Proofs.YtedadhoaegjhfaaDoor
