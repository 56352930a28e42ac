/- What fault.Wrap gives, as the packages above it say it. -/
import Derived.Test.YtgbogglalnafeaaDoorSyErr
namespace Go.Proofs.YtgbogglalnafeaaDoor
open Go.RowKit Go.Extern.Stop Go.Stop Go.Extern

theorem New_both (c : ByteArray) (n : Int) (w : World) : Calls Tryd.prog 24 #[.string c, .int .i64 n] w fun e w' =>
    ∃ E, e = .returned E ∧ ErrAns n c w' E ∧ Below w.heap.size w w' := by
  by_cases hn : n = 0
  · subst hn
    refine (New_zero c w).mono ?_
    rintro e w' ⟨rfl, rfl⟩
    exact ⟨_, rfl, ErrAns.none _ _, Below.refl _ _⟩
  · exact New_ans c n hn w
end Go.Proofs.YtgbogglalnafeaaDoor
