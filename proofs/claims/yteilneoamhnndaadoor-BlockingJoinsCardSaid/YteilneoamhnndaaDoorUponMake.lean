/- 'make' in a region that draws its order. -/
import Derived.Test.YteilneoamhnndaaDoorLists
import Derived.Deep.RegionHeld3
namespace Go.Proofs.YteilneoamhnndaaDoor
open Go.RowKit Go.Extern.Stop Go.Stop Go.Extern

/-- 'make([]T, n)' as a region that draws leaves it: n zero elements are owned. -/
theorem upon_make_all {P : Program} {w : World} {o : Oper} {a : Act} {K : Act → World → Prop} {Q : Exit → Act → World → Prop} (t : TypeId)
    (base : Nat) (e : TypeId) (i : TypeInfo) (z : Value) (size : Nat) (h1 : P.underlying t = some (.slice e)) (h2 : P.info? e = some i) (h3 : i.zero = some z) (h4 : i.size = size)
    (kl kc : IntKind) (n : Nat) (b2 : i.bytes * n ≤ 281474976710656) (b3 : n ≤ maxLen) (b4 : base ≤ w.heap.size)
    (h : ∀ w', w'.ownsRow base e size (.slice (some ⟨w.heap.size, 0, none⟩) n n) n (madeCells z.cells (n * size)).toList → w.grownBy w' none → K (a.put o.dst (.slice (some ⟨w.heap.size, 0, none⟩) n n)) w') :
    Oper.upon P o a K Q (((Instr.makeSlice t (.int kl (n : Int)) (.int kc (n : Int))).run P w).andThen fun v w' => .ok (.value v) w') := by
  obtain ⟨w', hrun, r1, r2⟩ := run_make_full (P := P) w base t e i z size h1 h2 h3 h4 kl kc n b2 b3 b4
  rw [hrun]
  exact h w' r1 r2
end Go.Proofs.YteilneoamhnndaaDoor
