/- A table of pairs of numbers at package level: from the row's list to the variable's cells. -/
import Derived.Test.YtedadhoaegjhfaaDoorChecked
import Derived.WalkKit
import Derived.LaidLaws
import Derived.ChangeArms
import Derived.ChangeSame
import Derived.OpenShut
import Derived.FnData
namespace Go.Proofs.YtedadhoaegjhfaaDoor
open Go.RowKit Go.ChangeShapes Go.WideShapes

def pairsData {H : Type} (L : List (Int × Int)) : DataW H := .agg (L.map fun z => .agg [.lit (.int .i64 z.1), .lit (.int .i64 z.2)])

/-- The variable in block g holds these pairs, one behind the other. -/
def PairsAt (w : World) (g : Nat) (L : List (Int × Int)) : Prop :=
  ∀ i (hi : i < L.length), w.cell? ⟨g, i * 2, none⟩ = some (.int .i64 (L[i]'hi).1) ∧ w.cell? ⟨g, i * 2 + 1, none⟩ = some (.int .i64 (L[i]'hi).2)

theorem PairsAt.mono {w w' : World} {g : Nat} {L : List (Int × Int)} (h : PairsAt w g L) (hb : Below w.heap.size w w') : PairsAt w' g L := fun i hi =>
  ⟨(hb.cell (p := ⟨g, i * 2, none⟩) (World.block_lt_of_cell? w _ (h i hi).1)).trans (h i hi).1, (hb.cell (p := ⟨g, i * 2 + 1, none⟩) (World.block_lt_of_cell? w _ (h i hi).2)).trans (h i hi).2⟩

theorem at_take1 {cs : List Value} {k : Nat} {v : Value} (h : (cs.drop k).take 1 = [v]) : cs[k]? = some v := by
  have := congrArg (·[0]?) h
  simpa [List.getElem?_take, List.getElem?_drop] using this

theorem pairsAt_of_laid {P : Program} {W : World} {name : String} {L : List (Int × Int)} {rest : List (String × DataW Unit)} {g : Nat} {t e e1 : TypeId} {f0 f1 : Field} {n : Nat}
    (hg : P.globalNamed name = some g) (hty : (P.globals[g]?).map (·.type) = some t) (ht : P.underlying t = some (.array n e)) (he : P.underlying e = some (.struct #[f0, f1]))
    (h0t : f0.type = e1) (h1t : f1.type = e1) (h0o : f0.offset = 0) (h1o : f1.offset = 1)
    (hi : P.underlying e1 = some (.int .i64)) (hce : P.cellsOf e = 2) (hci : P.cellsOf e1 = 1)
    (h : laidMet P ((name, pairsData L) :: rest) W) : PairsAt W g L := by
  obtain ⟨ps, ⟨g', t', cs, fuel, p, q, hg', ht', hvar, hd, _, _⟩, _⟩ := h
  obtain rfl := Option.some.inj (hg.symm.trans hg')
  obtain rfl := Option.some.inj (hty.symm.trans ht')
  obtain ⟨xs, m, -, hx, -, hxn, hall⟩ := DataW.trod_array ht hd
  have hxs : xs.map (·.1) = L.map fun z => (.agg [.lit (.int .i64 z.1), .lit (.int .i64 z.2)] : DataW Unit) := by
    have := congrArg Prod.fst hx
    simpa [pairsData] using this.symm
  have hln : L.length = n := by
    have := congrArg List.length hxs
    simp at this
    omega
  intro i hlt
  have h1 := hall i (by omega)
  rw [hce] at h1
  have hix : i < xs.length := by omega
  rw [List.getElem?_eq_getElem hix] at h1
  have hi1 : (xs[i]).1 = (.agg [.lit (.int .i64 (L[i]'hlt).1), .lit (.int .i64 (L[i]'hlt).2)] : DataW Unit) := by
    have := congrArg (·[i]?) hxs
    simpa [List.getElem?_eq_getElem hix, List.getElem?_eq_getElem hlt] using this
  obtain ⟨y0, y1, m2, e2, hl, g0, g1⟩ := trod_struct2 he h1
  rw [h0t, hci, h0o] at g0
  rw [h1t, hci, h1o] at g1
  obtain ⟨a, ha, rfl, -⟩ := DataW.trod_int hi g0
  obtain ⟨b, hb, rfl, -⟩ := DataW.trod_int hi g1
  rw [e2] at hi1
  simp only [DataW.agg.injEq, List.cons.injEq, DataW.lit.injEq, Lit.int.injEq, true_and, and_true] at hi1
  obtain ⟨rfl, rfl⟩ := hi1
  have c0 := at_take1 ha
  have c1 := at_take1 hb
  rw [List.getElem?_take, if_pos (by omega), List.getElem?_drop] at c0 c1
  constructor
  · rw [World.var?_cell hg hvar, ← Array.getElem?_toList]; simpa using c0
  · rw [World.var?_cell hg hvar, ← Array.getElem?_toList]; simpa using c1
end Go.Proofs.YtedadhoaegjhfaaDoor
