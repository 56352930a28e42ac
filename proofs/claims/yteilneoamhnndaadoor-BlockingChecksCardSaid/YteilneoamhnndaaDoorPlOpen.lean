/- A plan that came in: a struct of five numbers. -/
import Derived.Test.YteilneoamhnndaaDoorJ1
import Derived.Test.YteilneoamhnndaaDoorBkBox
import Derived.Test.YteilneoamhnndaaDoorLists
import Derived.Lib.SmallJoins
import Derived.Deep.Fields
namespace Go.Proofs.YteilneoamhnndaaDoor
open Go.RowKit Go.Extern.Stop Go.Stop Go.Extern Go.Joins Go.Deep Go.WideShapes Go.ChangeShapes Go.ChangeAt

section
variable {H : Type} {enc : TypeId × Value → H} {P : Program}
theorem plan_open {t : TypeId} {f0 f1 f2 f3 f4 : Field} {b0 : Nat} {v : Value} {d : DataW H} {ps : List MemPlace} {W : World} (hs : P.underlying t = some (.struct #[f0, f1, f2, f3, f4])) (hone : oneCellFields P #[f0, f1, f2, f3, f4] = true) (hC : P.cellsOf t = 5)
    (u0 : P.underlying f0.type = some (.int .i64)) (u1 : P.underlying f1.type = some (.int .i64)) (u2 : P.underlying f2.type = some (.int .i64)) (u3 : P.underlying f3.type = some (.int .i64)) (u4 : P.underlying f4.type = some (.int .i64))
    (hv : Value.okWide P W .any b0 t v) (h : DataW.Trod enc P W 0 (fun _ => true) true t v d ps) :
    ∃ a b c e g : Int, v = plV a b c e g ∧ I64 a ∧ I64 b ∧ I64 c ∧ I64 e ∧ I64 g := by
  obtain ⟨cs, rfl, hsz⟩ := okWide_struct hs hv
  obtain ⟨fuel, hf⟩ := h
  obtain ⟨xs, n, _, hx, hl, hlen, hff⟩ := DataW.trod_struct hs hf
  obtain ⟨l⟩ := cs
  have hl5 : l.length = 5 := hsz.trans hC
  match l, hl5 with
  | [c0, c1, c2, c3, c4], _ =>
    match xs, hlen with
    | [y0, y1, y2, y3, y4], _ =>
      obtain ⟨o0, k0⟩ := hone_of hone 0 f0 rfl
      obtain ⟨o1, k1⟩ := hone_of hone 1 f1 rfl
      obtain ⟨o2, k2⟩ := hone_of hone 2 f2 rfl
      obtain ⟨o3, k3⟩ := hone_of hone 3 f3 rfl
      obtain ⟨o4, k4⟩ := hone_of hone 4 f4 rfl
      have g0 : DataW.trod enc P W 0 (fun _ => true) true n f0.type [c0] = some y0 := by simpa [Value.cells, o0, k0] using hff 0 f0 rfl
      have g1 : DataW.trod enc P W 0 (fun _ => true) true n f1.type [c1] = some y1 := by simpa [Value.cells, o1, k1] using hff 1 f1 rfl
      have g2 : DataW.trod enc P W 0 (fun _ => true) true n f2.type [c2] = some y2 := by simpa [Value.cells, o2, k2] using hff 2 f2 rfl
      have g3 : DataW.trod enc P W 0 (fun _ => true) true n f3.type [c3] = some y3 := by simpa [Value.cells, o3, k3] using hff 3 f3 rfl
      have g4 : DataW.trod enc P W 0 (fun _ => true) true n f4.type [c4] = some y4 := by simpa [Value.cells, o4, k4] using hff 4 f4 rfl
      have key : ∀ {u : TypeId} {c : Value} {y : DataW H × List MemPlace}, P.underlying u = some (.int .i64) → DataW.trod enc P W 0 (fun _ => true) true n u [c] = some y → ∃ m : Int, c = .int .i64 m ∧ I64 m := fun {u c y} hu hg => by
        obtain ⟨m, hm, -, hw⟩ := DataW.trod_int hu hg
        exact ⟨m, by simpa using hm, by simpa [Lit.wf, IntKind.min, IntKind.max, IntKind.signed, IntKind.bits] using hw⟩
      obtain ⟨m0, rfl, w0⟩ := key u0 g0
      obtain ⟨m1, rfl, w1⟩ := key u1 g1
      obtain ⟨m2, rfl, w2⟩ := key u2 g2
      obtain ⟨m3, rfl, w3⟩ := key u3 g3
      obtain ⟨m4, rfl, w4⟩ := key u4 g4
      exact ⟨m0, m1, m2, m3, m4, rfl, w0, w1, w2, w3, w4⟩
end
end Go.Proofs.YteilneoamhnndaaDoor
