/- A region that draws, in a fenced function that is no round: what only reads goes first, in whatever order; the chain behind it is walked once. -/
import Derived.Test.YtpnjjbbpcdeooaaStillIn
namespace Go.Proofs.Ytpnjjbbpcdeooaa
open Go

section
variable {P : Program} {ops : Array Oper} {md : Region.Mode} {d : Nat}
theorem still_oper_w {w : World} {o : Oper} {a : Act} {K : Act → Prop} {K' : Act → World → Prop} {Q' : Exit → Act → World → Prop} (h : ∀ a, K a → K' a w) (hh : o.still P a w K) : o.wpIn Fence.wide d P a w K' Q' := by
  refine ⟨fun _ _ => trivial, ?_⟩
  rw [show Fence.wide.round = none from rfl, Oper.semAt_none]
  unfold Oper.still at hh
  generalize (execOp a.eval o).run P w = r at *
  cases r with
  | ok x w' =>
    cases x <;> simp only [Oper.stillUpon] at hh
    case enter f args =>
      obtain ⟨rfl, v, hc, hn⟩ := hh
      refine And.intro (fun h => ?_) ((callsIn_wide.2 hc).mono ?_)
      · simp [Fence.wide] at h
      · intro e w'' he
        obtain ⟨e1, e2⟩ := he
        subst e1
        subst e2
        exact h _ hn
    all_goals (obtain ⟨rfl, h2⟩ := hh; exact h _ h2)
  | halt x w' => simp only [Oper.stillUpon] at hh
theorem still_op_w {w : World} {i : Nat} {a : Act} {K : Act → Prop} {K' : Act → World → Prop} {Q' : Exit → Act → World → Prop} (h : ∀ a, K a → K' a w) (hh : stOp P ops w i K a) :
    wpOpIn Fence.wide d P ops Q' i K' a w := by
  unfold stOp at hh
  unfold wpOpIn
  split
  · rename_i ho; simp only [ho] at hh; exact h _ hh
  · rename_i o ho
    simp only [ho] at hh
    split
    · rename_i hw; simp only [hw, if_true] at hh; exact still_oper_w h hh
    · rename_i hw; simp only [hw] at hh; exact ⟨fun _ _ => trivial, h _ hh⟩
theorem still_head_w {w : World} {n g : Nat} {L : Array Bool → Act → Prop} {Q' : Exit → Act → World → Prop}
    (hL : ∀ listed a, L listed a → wpAnyIn Fence.wide d P md ops Q' g listed a w) :
    ∀ (f : Nat) (listed : Array Bool) (a : Act), wpAnyL P md ops w n L f listed a → wpAnyIn Fence.wide d P md ops Q' (f + g) listed a w
  | 0, listed, a, h => by rw [Nat.zero_add]; exact hL _ _ h
  | f + 1, listed, a, h => by
    rw [show f + 1 + g = (f + g) + 1 by omega]
    exact ⟨fun h0 => absurd h0 h.1, fun i hi => still_op_w (fun a' h' => still_head_w hL f _ a' h') (h.2 i hi).2⟩
theorem region_still_tail_w {id : Nat} {Q : Exit → Act → World → Prop} {a : Act} {w : World} {l0 : List Oper} (n : Nat) (hm : P.follows .mixedOrders = true) (hB : Region.lexTailB .any l0.toArray n = true)
    (h : wpStill P l0.toArray w.drew (fun a' => wpListIn Fence.wide d P l0.toArray Q (l0.drop n) a' w.drew) (l0.take n) a) : (Code.region id l0.toArray true).wpIn Fence.wide d P Q a w := by
  simp only [Region.lexTailB, Bool.and_eq_true, decide_eq_true_eq] at hB
  obtain ⟨⟨⟨⟨hsel, hn⟩, hs⟩, hc⟩, hlex⟩ := hB
  have hn' : n < l0.length := by simpa using hn
  have htl : (l0.take n).length = n := by simp; omega
  have hdl : (l0.drop n).length = l0.toArray.size - n := by simp
  have inv0 : HeadInv .any l0.toArray n (Array.replicate l0.toArray.size false) :=
    ⟨by simp, fun j oj _ hl => (by rw [getD_replicate_false] at hl; cases hl), fun t _ ht => getD_in (by simpa using ht) (getD_replicate_false _ _)⟩
  have H := wpAnyL_lex (md := .any) (g := l0.toArray.size - n) hsel hs hc hn (l0.take n) 0 _ a (fun j hj => by
    have hj' : j < n := by rw [htl] at hj; exact hj
    simp [hj']) (by simpa using htl) inv0 (by rw [htl]; exact hlex) h
  refine wpIn_region_any hm ?_
  have := still_head_w (d := d) (Q' := Q) (g := l0.toArray.size - n) (fun listed a' hL => by
    have := seq_in (F := Fence.wide) (d := d) (md := .any) (Q' := Q) (l0.drop n) n listed a' w.drew (fun j => by simp [List.getElem?_drop]) (by rw [hdl]; exact hL.1) hL.2
    rwa [hdl] at this) _ _ _ H
  rw [htl, show n + (l0.toArray.size - n) = l0.toArray.size by omega] at this
  exact this
/-- A guarded call that is passed over. -/
theorem wide_pass {Q : Exit → Act → World → Prop} {a : Act} {w : World} {o : Oper} {rest : List Oper} (hw : Region.wanted o (yielded ops a.tmps) = false) (h : wpListIn Fence.wide d P ops Q rest (a.put o.dst undef) w) : wpListIn Fence.wide d P ops Q (o :: rest) a w := by
  simp only [wpListIn, hw]
  exact ⟨fun _ _ => trivial, h⟩
end
end Go.Proofs.Ytpnjjbbpcdeooaa
