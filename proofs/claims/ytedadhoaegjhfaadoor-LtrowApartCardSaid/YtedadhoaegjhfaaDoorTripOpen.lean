/- A trip that came in: a struct of three numbers. -/
import Derived.Test.YtedadhoaegjhfaaDoorParOpen
import Derived.Test.YtedadhoaegjhfaaDoorTrip
namespace Go.Proofs.YtedadhoaegjhfaaDoor
open Go.RowKit Go.Extern.Stop Go.Stop Go.Extern Go.Joins Go.Deep Go.WideShapes Go.ChangeShapes Go.ChangeAt

section
variable {H : Type} {enc : TypeId × Value → H} {P : Program}
theorem trip_open {t : TypeId} {f0 f1 f2 : Field} {b0 : Nat} {v : Value} {d : DataW H} {ps : List MemPlace} {W : World} (hs : P.underlying t = some (.struct #[f0, f1, f2])) (hone : oneCellFields P #[f0, f1, f2] = true) (hC : P.cellsOf t = 3)
    (u0 : P.underlying f0.type = some (.int .i64)) (u1 : P.underlying f1.type = some (.int .i64)) (u2 : P.underlying f2.type = some (.int .i64))
    (hv : Value.okWide P W .any b0 t v) (h : DataW.Trod enc P W 0 (fun _ => true) true t v d ps) :
    ∃ a b c : Int, v = tripV a b c ∧ I64 a ∧ I64 b ∧ I64 c := by
  obtain ⟨cs, rfl, hsz⟩ := okWide_struct hs hv
  obtain ⟨fuel, hf⟩ := h
  obtain ⟨xs, n, _, hx, hl, hlen, hff⟩ := DataW.trod_struct hs hf
  obtain ⟨l⟩ := cs
  have hl3 : l.length = 3 := hsz.trans hC
  match l, hl3 with
  | [c0, c1, c2], _ =>
    match xs, hlen with
    | [y0, y1, y2], _ =>
      obtain ⟨o0, k0⟩ := hone_of hone 0 f0 rfl
      obtain ⟨o1, k1⟩ := hone_of hone 1 f1 rfl
      obtain ⟨o2, k2⟩ := hone_of hone 2 f2 rfl
      have g0 : DataW.trod enc P W 0 (fun _ => true) true n f0.type [c0] = some y0 := by simpa [Value.cells, o0, k0] using hff 0 f0 rfl
      have g1 : DataW.trod enc P W 0 (fun _ => true) true n f1.type [c1] = some y1 := by simpa [Value.cells, o1, k1] using hff 1 f1 rfl
      have g2 : DataW.trod enc P W 0 (fun _ => true) true n f2.type [c2] = some y2 := by simpa [Value.cells, o2, k2] using hff 2 f2 rfl
      have key : ∀ {u : TypeId} {c : Value} {y : DataW H × List MemPlace}, P.underlying u = some (.int .i64) → DataW.trod enc P W 0 (fun _ => true) true n u [c] = some y → ∃ m : Int, c = .int .i64 m ∧ I64 m := fun {u c y} hu hg => by
        obtain ⟨m, hm, -, hw⟩ := DataW.trod_int hu hg
        exact ⟨m, by simpa using hm, by simpa [Lit.wf, IntKind.min, IntKind.max, IntKind.signed, IntKind.bits] using hw⟩
      obtain ⟨m0, rfl, w0⟩ := key u0 g0
      obtain ⟨m1, rfl, w1⟩ := key u1 g1
      obtain ⟨m2, rfl, w2⟩ := key u2 g2
      exact ⟨m0, m1, m2, rfl, w0, w1, w2⟩
end
end Go.Proofs.YtedadhoaegjhfaaDoor
