/- The document's Check of packets (layer 16). -/
import Derived.Test.YtmihpbdgilmdiaaJ8
import Derived.Test.YtmihpbdgilmdiaaWrBare
import Derived.Test.YtmihpbdgilmdiaaJ9
namespace Go.Proofs.Ytmihpbdgilmdiaa
open Go.RowKit Go.Extern.Stop Go.Stop Go.Extern

theorem form_iff (p : Pkt) (h1 : 1 ≤ p.kind) (h2 : p.kind ≤ 2) : FormP p ↔ p = bareP p ∧ ¬ ((p.kind = 1 ∧ (p.data.length < 1 ∨ 64 < p.data.length)) ∨ (p.kind = 2 ∧ planC p.size p.symbol p.blocks p.long p.short ≠ 0)) := by
  constructor
  · intro h
    by_cases hk : p.kind = 1
    · obtain ⟨⟨f1, f2, f3, f4, f5⟩, f6, f7, f8, f9, f10, f11⟩ := h.d hk
      refine ⟨?_, ?_⟩
      · unfold bareP
        rw [if_pos hk]
        ext1 <;> first | rfl | assumption
      · rintro (⟨-, g⟩ | ⟨g, -⟩) <;> omega
    · have hk2 : p.kind = 2 := by omega
      obtain ⟨f1, f2, f3, f4, f5, f6, f7, f8⟩ := h.a hk2
      refine ⟨?_, ?_⟩
      · unfold bareP
        rw [if_neg hk]
        ext1 <;> first | rfl | assumption
      · rintro (⟨g, -⟩ | ⟨-, g⟩)
        · exact hk g
        · exact g f8
  · rintro ⟨he, hn⟩
    refine ⟨fun hk => ?_, fun hk => ?_⟩
    · unfold bareP at he
      rw [if_pos hk] at he
      have e := congrArg (fun q : Pkt => (q.size, q.symbol, q.blocks, q.long, q.short, q.layers, q.esis, q.base, q.length)) he
      simp only [Prod.mk.injEq] at e
      obtain ⟨e1, e2, e3, e4, e5, e6, e7, e8, e9⟩ := e
      refine ⟨⟨e1, e2, e3, e4, e5⟩, e6, e7, e8, e9, ?_, ?_⟩
      · rcases Nat.lt_or_ge p.data.length 1 with g | g
        · exact absurd (.inl ⟨hk, .inl g⟩) hn
        · exact g
      · rcases Nat.lt_or_ge 64 p.data.length with g | g
        · exact absurd (.inl ⟨hk, .inr g⟩) hn
        · exact g
    · unfold bareP at he
      rw [if_neg (by omega)] at he
      have e := congrArg (fun q : Pkt => (q.burst, q.sync, q.many, q.place, q.block, q.esi, q.data)) he
      simp only [Prod.mk.injEq] at e
      obtain ⟨e1, e2, e3, e4, e5, e6, e7⟩ := e
      refine ⟨e1, e2, e3, e4, e5, e6, e7, ?_⟩
      exact Classical.byContradiction fun g => hn (.inr ⟨hk, g⟩)

theorem bare_octs {p : Pkt} (h : Octets p.data) : Octets (bareP p).data := by
  unfold bareP
  split
  · exact h
  · intro x hx; cases hx

end Go.Proofs.Ytmihpbdgilmdiaa
