/- The landed package wire: Same (layer 16). (Made by gensamel.py.) -/
import Derived.Test.YtmihpbdgilmdiaaWlSa
import Derived.Test.YtmihpbdgilmdiaaWlSb
import Derived.Test.YtmihpbdgilmdiaaWlSc
namespace Go.Proofs.Ytmihpbdgilmdiaa
open Go.RowKit Go.Extern.Stop Go.Stop Go.Extern

theorem wrSameC : WrSameC := fun w p q D E hD hE hF hF' => by
  cases h0 : ((p.kind == q.kind) && (p.session == q.session) && (p.layer == q.layer) && (p.tick == q.tick) && (p.burst == q.burst) && (p.sync == q.sync) && (p.many == q.many) && (p.place == q.place)) with
  | false => exact wlSame_a p q D E hD hE hF hF' h0
  | true =>
    cases h1 : ((p.block == q.block) && (p.esi == q.esi) && decide (p.data = q.data) && decide (p.size = q.size ∧ p.symbol = q.symbol ∧ p.blocks = q.blocks ∧ p.long = q.long ∧ p.short = q.short)) with
    | false => exact wlSame_b p q D E hD hE hF hF' h0 h1
    | true => exact wlSame_c p q D E hD hE hF hF' (by simp only [Bool.and_eq_true] at h0 h1 ⊢; simp only [h0, h1, and_self])
end Go.Proofs.Ytmihpbdgilmdiaa
