/- What fault.New gives, as the packages above it say it: none, or a number under their own name. -/
import Derived.Test.YtmipnbfndjacoaaDoorErrFault
namespace Go.Proofs.YtmipnbfndjacoaaDoor
open Go.RowKit Go.Extern.Stop Go.Stop Go.Extern

def ErrAns (k : Int) (c : ByteArray) (w : World) (E : Value) : Prop := (k = 0 ∧ E = .nilIface) ∨ (k ≠ 0 ∧ ∃ ls, Chain w k (c :: ls) E)
theorem ErrAns.mono {k : Int} {c : ByteArray} {w w' : World} {E : Value} (h : ErrAns k c w E) (hb : Below w.heap.size w w') : ErrAns k c w' E := by
  rcases h with h | ⟨h1, ls, h2⟩
  · exact .inl h
  · exact .inr ⟨h1, ls, h2.mono hb⟩
theorem ErrAns.none (c : ByteArray) (w : World) : ErrAns 0 c w .nilIface := .inl ⟨rfl, rfl⟩
theorem ErrAns.some {k : Int} {c : ByteArray} {w : World} {E : Value} (h : ErrAns k c w E) (hk : k ≠ 0) : ∃ u v, E = .iface u v := by
  rcases h with ⟨h, _⟩ | ⟨_, ls, h2⟩
  · exact absurd h hk
  · exact h2.iface
theorem New_ans (c : ByteArray) (n : Int) (hn : n ≠ 0) (w : World) : Calls Tryd.prog 18 #[.string c, .int .i64 n] w fun e w' =>
    ∃ E, e = .returned E ∧ ErrAns n c w' E ∧ Below w.heap.size w w' := by
  refine (New_chain c n hn w).mono ?_
  rintro e w' ⟨E, rfl, h, hb⟩
  exact ⟨E, rfl, .inr ⟨hn, [], h⟩, hb⟩
end Go.Proofs.YtmipnbfndjacoaaDoor
