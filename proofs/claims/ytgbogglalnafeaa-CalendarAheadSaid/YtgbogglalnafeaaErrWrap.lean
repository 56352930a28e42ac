/- What fault.New and fault.Wrap give, as the packages above them say it: no error for none, some error else. -/
import Derived.Test.YtgbogglalnafeaaSyErr
namespace Go.Proofs.Ytgbogglalnafeaa
open Go.RowKit Go.Extern.Stop Go.Stop Go.Extern

theorem New_both (c : ByteArray) (n : Int) (w : World) : Calls Try.prog 12 #[.string c, .int .i64 n] w fun e w' =>
    ∃ E, e = .returned E ∧ ErrAns n c w' E ∧ Below w.heap.size w w' := by
  by_cases hn : n = 0
  · subst hn
    go_enter Try.func12, Try.ntmps12
    go_wp2
    go_ret
    exact ⟨_, rfl, ErrAns.none _ _, Below.refl _ _⟩
  · exact New_ans c n hn w
end Go.Proofs.Ytgbogglalnafeaa
