/- What was told of an error stands where a row of other values than strings is written. (Was in Law14U.) -/
import Derived.Test.YtmihpbdgilmdiaaDoorJ11
import Derived.Test.YtmihpbdgilmdiaaDoorLists
namespace Go.Proofs.YtmihpbdgilmdiaaDoor
open Go.RowKit Go.Extern.Stop Go.Stop Go.Extern

/-- What was told of an error stands where a row of the call's own, of other values than strings, is written. -/
theorem errAns_row {k : Int} {c : ByteArray} {w2 wr : World} {E v : Value} {B n : Nat} {e : TypeId} {xs : List Value} (h : ErrAns k c w2 E) (ho : w2.ownsRow B e 1 v n xs) (hx : ∀ y ∈ xs, ∀ s, y ≠ .string s) (hg : w2.grownBy wr v.ownBlock) (hz : n = 0 → w2 = wr) : ErrAns k c wr E := by
  by_cases h0 : n = 0
  · rw [← hz h0]; exact h
  · refine errAns_kept2 h fun b s hc => hg.block b (World.block_lt_of_cell? w2 ⟨b, 0, none⟩ hc) fun e1 => ?_
    obtain ⟨a, cap, rfl, -, ha⟩ := own_open ho
    obtain ⟨g, rfl⟩ := ha (by omega)
    have hbg : b = g := by simpa [Value.ownBlock] using e1
    subst hbg
    have hl : xs.length = n := by simpa using ho.1
    rw [ho.cellAt 0 (by omega)] at hc
    have h0l : 0 < xs.length := by omega
    rw [List.getElem?_eq_getElem h0l] at hc
    exact hx _ (List.getElem_mem h0l) s (Option.some.inj hc)
end Go.Proofs.YtmihpbdgilmdiaaDoor
