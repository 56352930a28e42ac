/- What fault.New gives, as the packages above it say it: none, or a number under their own name. -/
import Derived.Test.YtgbogglalnafeaaDoorErrFault
namespace Go.Proofs.YtgbogglalnafeaaDoor
open Go.RowKit Go.Extern.Stop Go.Stop Go.Extern

def ErrAns (k : Int) (c : ByteArray) (w : World) (E : Value) : Prop := (k = 0 ∧ E = .nilIface) ∨ (k ≠ 0 ∧ ∃ ls, Chain w k (c :: ls) E)
theorem ErrAns.mono {k : Int} {c : ByteArray} {w w' : World} {E : Value} (h : ErrAns k c w E) (hb : Below w.heap.size w w') : ErrAns k c w' E := by
  rcases h with h | ⟨h1, ls, h2⟩
  · exact .inl h
  · exact .inr ⟨h1, ls, h2.mono hb⟩
theorem ErrAns.none (c : ByteArray) (w : World) : ErrAns 0 c w .nilIface := .inl ⟨rfl, rfl⟩
theorem ErrAns.some {k : Int} {c : ByteArray} {w : World} {E : Value} (h : ErrAns k c w E) (hk : k ≠ 0) : ∃ u v, E = .iface u v := by
  rcases h with ⟨h, _⟩ | ⟨_, ls, h2⟩
  · exact absurd h hk
  · exact h2.iface
theorem New_ans (c : ByteArray) (n : Int) (hn : n ≠ 0) (w : World) : Calls Tryd.prog 24 #[.string c, .int .i64 n] w fun e w' =>
    ∃ E, e = .returned E ∧ ErrAns n c w' E ∧ Below w.heap.size w w' := by
  refine (New_chain c n hn w).mono ?_
  rintro e w' ⟨E, rfl, h, hb⟩
  exact ⟨E, rfl, .inr ⟨hn, [], h⟩, hb⟩
theorem Chain.kept2 {k : Int} {l : List ByteArray} {w w' : World} {E : Value} (h : Chain w k l E) (hs : ∀ b s, w.cell? ⟨b, 0, none⟩ = some (.string s) → w'.heap[b]? = w.heap[b]?) : Chain w' k l E := by
  induction h with
  | leaf => exact .leaf
  | wrap b c E1 l1 hc he _ ih => exact .wrap b c E1 l1 ((World.cell?_of_block (w := w) (a := ⟨b, 0, none⟩) (hs _ _ hc)).trans hc) ((World.cell?_of_block (w := w) (a := ⟨b, 1, none⟩) (hs _ _ hc)).trans he) ih
theorem errAns_kept2 {k : Int} {c : ByteArray} {w w' : World} {E : Value} (h : ErrAns k c w E) (hs : ∀ b s, w.cell? ⟨b, 0, none⟩ = some (.string s) → w'.heap[b]? = w.heap[b]?) : ErrAns k c w' E := by
  rcases h with h | ⟨h1, ls, h2⟩
  · exact .inl h
  · exact .inr ⟨h1, ls, h2.kept2 hs⟩
end Go.Proofs.YtgbogglalnafeaaDoor
