/- What fault.New and fault.Wrap give, as the packages above them say it: no error for none, some error else. -/
import Derived.Test.YtlhpkfonffijfaaSyErr
namespace Go.Proofs.Ytlhpkfonffijfaa
open Go.RowKit Go.Extern.Stop Go.Stop Go.Extern

theorem Wrap_ans (c c0 : ByteArray) (n : Int) (E : Value) (w : World) (hn : n ≠ 0) (h : ErrAns n c0 w E) : Calls Try.prog 13 #[.string c, E] w fun e w' =>
    ∃ E', e = .returned E' ∧ ErrAns n c w' E' ∧ Below w.heap.size w w' := by
  obtain ⟨u, v, rfl⟩ := h.some hn
  go_enter Try.func13, Try.ntmps13
  go_wp2
  go_ret
  exact ⟨_, rfl, .inr ⟨hn, _, _, rfl⟩, (Below.refl _ _).alloc (Nat.le_refl _) _⟩
theorem New_both (c : ByteArray) (n : Int) (w : World) : Calls Try.prog 14 #[.string c, .int .i64 n] w fun e w' =>
    ∃ E, e = .returned E ∧ ErrAns n c w' E ∧ Below w.heap.size w w' := by
  by_cases hn : n = 0
  · subst hn
    go_enter Try.func14, Try.ntmps14
    go_wp2
    go_ret
    exact ⟨_, rfl, ErrAns.none _ _, Below.refl _ _⟩
  · exact New_ans c n hn w
end Go.Proofs.Ytlhpkfonffijfaa
