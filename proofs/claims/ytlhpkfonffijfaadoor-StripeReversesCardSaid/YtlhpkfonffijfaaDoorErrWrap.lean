/- What fault.Wrap gives, as the packages above it say it. -/
import Derived.Test.YtlhpkfonffijfaaDoorSyErr
namespace Go.Proofs.YtlhpkfonffijfaaDoor
open Go.RowKit Go.Extern.Stop Go.Stop Go.Extern

theorem Wrap_ans (c c0 : ByteArray) (n : Int) (E : Value) (w : World) (hn : n ≠ 0) (h : ErrAns n c0 w E) : Calls Tryd.prog 29 #[.string c, E] w fun e w' =>
    ∃ E', e = .returned E' ∧ ErrAns n c w' E' ∧ Below w.heap.size w w' := by
  obtain ⟨ls, hch⟩ : ∃ ls, Chain w n (c0 :: ls) E := (h.resolve_left (by rintro ⟨h, -⟩; exact hn h)).2
  refine (Wrap_chain c n _ _ _ hch).mono ?_
  rintro e w' ⟨E', rfl, hc, hb⟩
  exact ⟨_, rfl, .inr ⟨hn, _, hc⟩, hb⟩
theorem New_both (c : ByteArray) (n : Int) (w : World) : Calls Tryd.prog 22 #[.string c, .int .i64 n] w fun e w' =>
    ∃ E, e = .returned E ∧ ErrAns n c w' E ∧ Below w.heap.size w w' := by
  by_cases hn : n = 0
  · subst hn
    refine (New_zero c w).mono ?_
    rintro e w' ⟨rfl, rfl⟩
    exact ⟨_, rfl, ErrAns.none _ _, Below.refl _ _⟩
  · exact New_ans c n hn w
end Go.Proofs.YtlhpkfonffijfaaDoor
