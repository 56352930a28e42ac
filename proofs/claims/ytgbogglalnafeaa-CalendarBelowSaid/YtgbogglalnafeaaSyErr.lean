/- What fault.New gives: no error for 0, some error else. -/
import Derived.Test.YtgbogglalnafeaaLists
namespace Go.Proofs.Ytgbogglalnafeaa
open Go.RowKit Go.Extern.Stop Go.Stop Go.Extern

def ErrAns (k : Int) (_ : ByteArray) (_ : World) (E : Value) : Prop := (k = 0 ∧ E = .nilIface) ∨ (k ≠ 0 ∧ ∃ u v, E = .iface u v)
theorem ErrAns.mono {k : Int} {c : ByteArray} {w w' : World} {E : Value} (h : ErrAns k c w E) (_ : Below w.heap.size w w') : ErrAns k c w' E := h
theorem ErrAns.none (c : ByteArray) (w : World) : ErrAns 0 c w .nilIface := .inl ⟨rfl, rfl⟩
theorem ErrAns.some {k : Int} {c : ByteArray} {w : World} {E : Value} (h : ErrAns k c w E) (hk : k ≠ 0) : ∃ u v, E = .iface u v := by
  rcases h with ⟨h, _⟩ | ⟨_, h2⟩
  · exact absurd h hk
  · exact h2
theorem New_ans (c : ByteArray) (n : Int) (hn : n ≠ 0) (w : World) : Calls Try.prog 12 #[.string c, .int .i64 n] w fun e w' =>
    ∃ E, e = .returned E ∧ ErrAns n c w' E ∧ Below w.heap.size w w' := by
  have hb : (n == 0) = false := by simpa using hn
  go_enter Try.func12, Try.ntmps12
  go_wp2
  go_ret
  exact ⟨_, rfl, .inr ⟨hn, _, _, rfl⟩, (Below.refl _ _).alloc (Nat.le_refl _) _⟩
theorem errAns_kept2 {k : Int} {c : ByteArray} {w w' : World} {E : Value} (h : ErrAns k c w E) (_ : ∀ b s, w.cell? ⟨b, 0, none⟩ = some (.string s) → w'.heap[b]? = w.heap[b]?) : ErrAns k c w' E := h
end Go.Proofs.Ytgbogglalnafeaa
