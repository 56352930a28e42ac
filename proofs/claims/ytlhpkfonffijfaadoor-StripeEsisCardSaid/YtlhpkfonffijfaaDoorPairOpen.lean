/- An array of two ints that came in. -/
import Derived.Test.YtlhpkfonffijfaaDoorKit
import Derived.Test.YtlhpkfonffijfaaDoorLists
import Derived.Lib.SmallJoins
import Derived.Deep.Fields
namespace Go.Proofs.YtlhpkfonffijfaaDoor
open Go.RowKit Go.Extern.Stop Go.Stop Go.Extern Go.Joins Go.Deep Go.WideShapes Go.ChangeShapes Go.ChangeAt

section
variable {H : Type} {enc : TypeId × Value → H} {P : Program}
theorem okWide_pair {t e : TypeId} {w : World} {r : Reach} {base : Nat} {v : Value} (ht : P.underlying t = some (.array 2 e)) (h : Value.okWide P w r base t v) : ∃ cs, v = .agg cs ∧ cs.size = P.cellsOf t := by
  simp only [Value.okWide, ht] at h
  obtain ⟨cs, h1, h2, _⟩ := h
  exact ⟨cs, h1, h2⟩
theorem pair_open {t e : TypeId} {b0 : Nat} {v : Value} {d : DataW H} {ps : List MemPlace} {W : World} (ht : P.underlying t = some (.array 2 e)) (hce : P.cellsOf e = 1) (hC : P.cellsOf t = 2) (hu : P.underlying e = some (.int .i64))
    (hv : Value.okWide P W .any b0 t v) (h : DataW.Trod enc P W 0 (fun _ => true) true t v d ps) :
    ∃ a b : Int, v = .agg #[.int .i64 a, .int .i64 b] ∧ I64 a ∧ I64 b := by
  obtain ⟨cs, rfl, hsz⟩ := okWide_pair ht hv
  obtain ⟨fuel, hf⟩ := h
  obtain ⟨xs, n, -, hx, hl, hxn, hall⟩ := DataW.trod_array ht hf
  obtain ⟨l⟩ := cs
  have hl2 : l.length = 2 := hsz.trans hC
  match l, hl2 with
  | [c0, c1], _ =>
    match xs, hxn with
    | [y0, y1], _ =>
      have h0 := hall 0 (by decide)
      have h1 := hall 1 (by decide)
      rw [hce] at h0 h1
      have g0 : DataW.trod enc P W 0 (fun _ => true) true n e [c0] = some y0 := by simpa [Value.cells] using h0
      have g1 : DataW.trod enc P W 0 (fun _ => true) true n e [c1] = some y1 := by simpa [Value.cells] using h1
      have key : ∀ {c : Value} {y : DataW H × List MemPlace}, DataW.trod enc P W 0 (fun _ => true) true n e [c] = some y → ∃ m : Int, c = .int .i64 m ∧ I64 m := fun {c y} hg => by
        obtain ⟨m, hm, -, hw⟩ := DataW.trod_int hu hg
        exact ⟨m, by simpa using hm, by simpa [Lit.wf, IntKind.min, IntKind.max, IntKind.signed, IntKind.bits] using hw⟩
      obtain ⟨m0, rfl, w0⟩ := key g0
      obtain ⟨m1, rfl, w1⟩ := key g1
      exact ⟨m0, m1, rfl, w0, w1⟩
end
end Go.Proofs.YtlhpkfonffijfaaDoor
