/- A plan in a block of its own; a plan as a result. -/
import Derived.Test.YteilneoamhnndaaDoorBkMath
import Derived.Test.YteilneoamhnndaaDoorOwn
import Derived.Test.YteilneoamhnndaaDoorSyErr
namespace Go.Proofs.YteilneoamhnndaaDoor
open Go.RowKit Go.Extern.Stop Go.Stop Go.Extern

theorem bk_row2 {P : Program} {fn : Func} {p t : Tmp} {ty : TypeId} (h : fn.results = #[.cell p ty, .tmp t]) (tmps : Array Value) (w : World) (g : Nat) (tt : TypeId) (cs : Array Value) (fr : Nat × Nat) (d : TypeDesc)
    (hp : tmps.getD p undef = .pointer (some ⟨g, 0, none⟩)) (hg : w.heap[g]? = some (.cells cs tt fr))
    (hu : P.underlying ty = some d) (hd : (match d with | .struct _ | .array _ _ => true | _ => false) = true) (hi : (P.info? ty).map (·.size) = some cs.size) :
    (results fn tmps).run P w = .ok (.tuple #[.agg cs, tmps.getD t undef]) w := by
  have hp' : tmps[p]?.getD undef = .pointer (some ⟨g, 0, none⟩) := by simpa using hp
  simp [results, h, hp', asAddr, run_loadVar_row w g tt ty cs fr d hg hu hd hi]

/-- A plan as a struct. -/
def plC (s b n l q : Int) : Array Value := #[.int .i64 s, .int .i64 b, .int .i64 n, .int .i64 l, .int .i64 q]
def plV (s b n l q : Int) : Value := .agg (plC s b n l q)
/-- A plan in a block of its own. -/
def PlBox (W : World) (g : Nat) (s b n l q : Int) : Prop := W.heap[g]? = some (.cells (plC s b n l q) 23 (0, 0))
theorem PlBox.lt {W : World} {g : Nat} {s b n l q : Int} (h : PlBox W g s b n l q) : g < W.heap.size := (Array.getElem?_eq_some_iff.1 h).1
theorem PlBox.mono {W W' : World} {g : Nat} {s b n l q : Int} (h : PlBox W g s b n l q) (hb : Below W.heap.size W W') : PlBox W' g s b n l q := (hb.block g h.lt).trans h
theorem PlBox.cells {W : World} {g : Nat} {s b n l q : Int} (h : PlBox W g s b n l q) :
    W.cell? ⟨g, 0, none⟩ = some (.int .i64 s) ∧ W.cell? ⟨g, 1, none⟩ = some (.int .i64 b) ∧ W.cell? ⟨g, 2, none⟩ = some (.int .i64 n) ∧ W.cell? ⟨g, 3, none⟩ = some (.int .i64 l) ∧ W.cell? ⟨g, 4, none⟩ = some (.int .i64 q) :=
  ⟨cell_of_heap h rfl, cell_of_heap h rfl, cell_of_heap h rfl, cell_of_heap h rfl, cell_of_heap h rfl⟩
theorem pl_laid (w : World) (s b n l q : Int) : ∃ W, W = w.alloc (.cells #[.int .i64 s, .int .i64 b, .int .i64 n, .int .i64 l, .int .i64 q] 23) ∧ Below w.heap.size w W ∧ PlBox W w.heap.size s b n l q :=
  ⟨_, rfl, (Below.refl _ _).alloc (Nat.le_refl _) _, heap_alloc_new w _⟩
theorem PlBox.done {W : World} {g : Nat} (h : PlBox W g 0 0 0 0 0) (a b c d e : Value) : (((((W.setCell ⟨g, 0, none⟩ a).setCell ⟨g, 1, none⟩ b).setCell ⟨g, 2, none⟩ c).setCell ⟨g, 3, none⟩ d).setCell ⟨g, 4, none⟩ e).heap[g]? = some (.cells #[a, b, c, d, e] 23 (0, 0)) :=
  heap_setCell_at (heap_setCell_at (heap_setCell_at (heap_setCell_at (heap_setCell_at h))))
theorem PlBox.below {W w : World} {B g : Nat} (hb : Below B w W) (hg : B ≤ g) (a b c d e : Value) : Below B w (((((W.setCell ⟨g, 0, none⟩ a).setCell ⟨g, 1, none⟩ b).setCell ⟨g, 2, none⟩ c).setCell ⟨g, 3, none⟩ d).setCell ⟨g, 4, none⟩ e) :=
  ((((hb.setCell (p := ⟨g, 0, none⟩) hg a).setCell (p := ⟨g, 1, none⟩) hg b).setCell (p := ⟨g, 2, none⟩) hg c).setCell (p := ⟨g, 3, none⟩) hg d).setCell (p := ⟨g, 4, none⟩) hg e
theorem PlBox.err {W : World} {g : Nat} {k : Int} {n : ByteArray} {E : Value} (h : PlBox W g 0 0 0 0 0) (he : ErrAns k n W E) (a b c d e : Value) : ErrAns k n (((((W.setCell ⟨g, 0, none⟩ a).setCell ⟨g, 1, none⟩ b).setCell ⟨g, 2, none⟩ c).setCell ⟨g, 3, none⟩ d).setCell ⟨g, 4, none⟩ e) E :=
  errAns_kept2 he fun x s hc => by
    have n1 : x ≠ g := by
      rintro rfl
      rw [cell_of_heap (j := 0) (u := .int .i64 0) h rfl] at hc
      cases hc
    rw [Below.heap_setCell _ _ _ _ n1, Below.heap_setCell _ _ _ _ n1, Below.heap_setCell _ _ _ _ n1, Below.heap_setCell _ _ _ _ n1, Below.heap_setCell _ _ _ _ n1]
end Go.Proofs.YteilneoamhnndaaDoor
