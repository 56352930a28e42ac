import Derived.Test.YtkhdjjcflbdegaaGreatDoorG08
import Derived.RangeFuncNested
import Derived.RangeFuncBound
import Derived.RangeFuncCalls
import Derived.RangeFuncLeaves
import Derived.Shelf.Abstract
import Derived.Shelf.RegionOpen
import Derived.OwnWalkIn
import Derived.TacticsInMore
import Derived.LoopNIn
import Derived.LoopIn
import Derived.StillTailTactics
import Derived.OrdersIn
import Derived.Test.YtkhdjjcflbdegaaGreatDoorG11

section
/- What a loop over a function leaves alone: rows and boxes of the call's own (was in Back). -/
namespace Go.Proofs.YtkhdjjcflbdegaaGreatDoor
open Go.RowKit Go.Extern.Stop Go.Stop Go.Extern

theorem grown_drew {a b : World} {row : Option Nat} (h : a.grownBy b row) : a.grownBy b.drew row := ⟨h.os, h.tape, h.output, h.size, h.block⟩

section
variable {w w' W : World}
/-- What the call owns is kept by the book-keeping of a loop over a function. -/
theorem own_bare {base q : Nat} {e : TypeId} {v : Value} {xs : List Value} {row : Option Nat} (h : w.ownsRow base e 1 v q xs) (hg : w.grownBy w' row) (hr : ∀ r, row = some r → ∃ o : Obj, w.heap[r]? = some o ∧ o.isCells = false) : w'.ownsRow base e 1 v q xs := by
  refine h.kept hg ?_
  rcases h.2 with ⟨rfl, _⟩ | ⟨g, cap, cur, rfl, _, hgb, _⟩
  · exact .inl rfl
  · refine .inr fun e' => ?_
    obtain ⟨o, ho, hc⟩ := hr g (by simpa [Value.ownBlock] using e'.symm)
    rw [hgb] at ho; cases ho; cases hc
theorem boxed_bare {b : Nat} {t : TypeId} {v : Value} {row : Option Nat} (h : Boxed w b t v) (hg : w.grownBy w' row) (hr : ∀ r, row = some r → ∃ o : Obj, w.heap[r]? = some o ∧ o.isCells = false) : Boxed w' b t v :=
  h.kept hg (fun e' => by obtain ⟨o, ho, hc⟩ := hr b e'.symm; rw [show w.heap[b]? = _ from h] at ho; cases ho; cases hc)
end
end Go.Proofs.YtkhdjjcflbdegaaGreatDoor
end

section
/- A region that draws, within a round of a loop over a function: what only reads goes first, in whatever order; the chain behind it is walked once. -/
namespace Go.Proofs.YtkhdjjcflbdegaaGreatDoor
open Go

section
variable {P : Program} {ops : Array Oper} {md : Region.Mode} {l d : Nat}
theorem still_oper {w : World} {o : Oper} {a : Act} {K : Act → Prop} {K' : Act → World → Prop} {Q' : Exit → Act → World → Prop} (hd : ∀ c, o.op ≠ .defer c) (h : ∀ a, K a → K' a w) (hh : o.still P a w K) : o.wpIn (Fence.wide.inRound l) d P a w K' Q' := by
  refine ⟨fun _ _ => trivial, ?_⟩
  rw [show (Fence.wide.inRound l).round = some l from rfl, Oper.semAt_some l _ _ hd]
  unfold Oper.still at hh
  generalize (execOp a.eval o).run P w = r at *
  cases r with
  | ok x w' =>
    cases x <;> simp only [Oper.stillUpon] at hh
    case enter f args =>
      obtain ⟨rfl, v, hc, hn⟩ := hh
      refine And.intro (fun h => ?_) (CallsIn.inRound l ((callsIn_wide.2 hc).mono ?_))
      · simp [Fence.wide] at h
      · intro e w'' he
        obtain ⟨e1, e2⟩ := he
        subst e1
        subst e2
        exact h _ hn
    all_goals (obtain ⟨rfl, h2⟩ := hh; exact h _ h2)
  | halt x w' => simp only [Oper.stillUpon] at hh
theorem still_op {w : World} {i : Nat} {a : Act} {K : Act → Prop} {K' : Act → World → Prop} {Q' : Exit → Act → World → Prop} (hd : ∀ (j : Nat) (o : Oper), ops[j]? = some o → ∀ c, o.op ≠ .defer c) (h : ∀ a, K a → K' a w) (hh : stOp P ops w i K a) :
    wpOpIn (Fence.wide.inRound l) d P ops Q' i K' a w := by
  unfold stOp at hh
  unfold wpOpIn
  split
  · rename_i ho; simp only [ho] at hh; exact h _ hh
  · rename_i o ho
    simp only [ho] at hh
    split
    · rename_i hw; simp only [hw, if_true] at hh; exact still_oper (hd _ _ ho) h hh
    · rename_i hw; simp only [hw] at hh; exact ⟨fun _ _ => trivial, h _ hh⟩
theorem still_head {w : World} {n g : Nat} {L : Array Bool → Act → Prop} {Q' : Exit → Act → World → Prop} (hd : ∀ (j : Nat) (o : Oper), ops[j]? = some o → ∀ c, o.op ≠ .defer c)
    (hL : ∀ listed a, L listed a → wpAnyIn (Fence.wide.inRound l) d P md ops Q' g listed a w) :
    ∀ (f : Nat) (listed : Array Bool) (a : Act), wpAnyL P md ops w n L f listed a → wpAnyIn (Fence.wide.inRound l) d P md ops Q' (f + g) listed a w
  | 0, listed, a, h => by rw [Nat.zero_add]; exact hL _ _ h
  | f + 1, listed, a, h => by
    rw [show f + 1 + g = (f + g) + 1 by omega]
    exact ⟨fun h0 => absurd h0 h.1, fun i hi => still_op hd (fun a' h' => still_head hd hL f _ a' h') (h.2 i hi).2⟩
theorem seq_in {F : Fence} {Q' : Exit → Act → World → Prop} : ∀ (l0 : List Oper) (k : Nat) (listed : Array Bool) (a : Act) (w : World), (∀ j, l0[j]? = ops[k + j]?) →
    Region.seqB md ops l0.length k listed = true → wpListIn F d P ops Q' l0 a w → wpAnyIn F d P md ops Q' l0.length listed a w
  | [], _, _, _, _, _, hB, h => ⟨by simpa [Region.seqB] using hB, h⟩
  | o :: l0, k, listed, a, w, hl, hB, h => by
    have h0 : ops[k]? = some o := by simpa using (hl 0).symm
    simp only [List.length_cons, Region.seqB, Bool.and_eq_true, decide_eq_true_eq] at hB
    refine ⟨fun h1 => (by rw [hB.1] at h1; cases h1), fun i hi => ?_⟩
    rw [hB.1] at hi
    have hik : i = k := by simpa using hi
    subst hik
    have hw : wpOpIn F d P ops Q' i (wpListIn F d P ops Q' l0) a w := by unfold wpOpIn; simp only [h0]; exact h
    exact wpOpIn_mono (fun a' w' h' => seq_in l0 (i + 1) _ a' w' (fun j => by have := hl (j + 1); simpa [Nat.add_assoc, Nat.add_comm 1 j] using this) hB.2 h') hw
/-- No operation defers. -/
def noDefer (l0 : List Oper) : Bool := l0.all fun o => match o.op with | .defer _ => false | _ => true
theorem noDefer_spec {l0 : List Oper} (h : noDefer l0 = true) : ∀ (j : Nat) (o : Oper), l0.toArray[j]? = some o → ∀ c, o.op ≠ .defer c := fun j o ho c e => by
  have hm : o ∈ l0 := List.mem_of_getElem? (by simpa using ho)
  have := List.all_eq_true.1 h o hm
  simp only [e] at this
  cases this
/-- Behind the head each operation waits for one of the tail ahead of it. -/
def tailB (md : Region.Mode) (ops : Array Oper) (n : Nat) : Bool :=
  (List.range ops.size).all fun t => decide (t ≤ n) || (List.range t).any fun j => decide (n ≤ j) && Region.waitsFor md ops t j
theorem tail_sleeps {n : Nat} {listed : Array Bool} (hs : Region.sinkB md ops n = true) (hc : tailB md ops n = true) (hn : n < ops.size) (inv : HeadInv md ops n listed) {i : Nat} (hi : i < n) (hun : listed.getD i true = false) : ∀ t, n ≤ t → t ∉ Region.ready md ops listed := by
  intro t ht hr
  obtain ⟨_, ot, hot, hall⟩ := mem_ready.1 hr
  have need : ∀ j, Region.waitsFor md ops t j = true → listed.getD j false = true := fun j hj => by
    obtain ⟨o', ho', e, he, hb, rfl⟩ := Region.waitsFor_spec hj
    obtain rfl : o' = ot := Option.some.inj (ho'.symm.trans hot)
    exact hall e he hb
  by_cases htn : t = n
  · subst htn
    have down : ∀ m k, t - k = m → k < t → listed.getD k true = false → False := by
      intro m
      induction m using Nat.strongRecOn with
      | _ m ih =>
        intro k hm hk hun
        obtain ⟨j, hj, hj2⟩ := List.any_eq_true.1 (List.all_eq_true.1 hs k (List.mem_range.2 hk))
        simp only [Bool.and_eq_true, decide_eq_true_eq] at hj2
        have hjle := List.mem_range.1 hj
        by_cases hjt : j = t
        · subst hjt
          have := need k hj2.2
          rw [getD_both hun] at this
          cases this
        · obtain ⟨oj, hoj, e, he, hb, rfl⟩ := Region.waitsFor_spec hj2.2
          refine ih (t - j) (by omega) j rfl (by omega) ?_
          cases hl : listed.getD j false with
          | false => exact getD_in (by rw [inv.size]; omega) hl
          | true =>
            have := inv.closed j oj hoj hl e he hb
            rw [getD_both hun] at this
            cases this
    exact down _ i rfl hi hun
  · have htlt : t < ops.size := (Array.getElem?_eq_some_iff.1 hot).1
    have h1 := List.all_eq_true.1 hc t (List.mem_range.2 htlt)
    rcases (Bool.or_eq_true _ _).mp h1 with h1 | h1
    · have := of_decide_eq_true h1; omega
    · obtain ⟨j, hj, hj2⟩ := List.any_eq_true.1 h1
      simp only [Bool.and_eq_true, decide_eq_true_eq] at hj2
      have hjt := List.mem_range.1 hj
      have := need j hj2.2
      rw [getD_both (inv.tail j hj2.1 (by omega))] at this
      cases this
theorem head_first {w : World} {n i : Nat} {oi : Oper} {v : Value} {L : Array Bool → Act → Prop} (hi : ops[i]? = some oi) (hsel : ∀ (j : Nat) (o : Oper) cs b, ops[j]? = some o → o.op ≠ .select cs b)
    (hs : Region.sinkB md ops n = true) (hc : tailB md ops n = true) (hn : n < ops.size) (hin : i < n) (hdone : ∀ listed a, L listed a → ∀ j ∈ Region.ready md ops listed, n ≤ j) :
    ∀ (f : Nat) (listed : Array Bool) (a : Act), HeadInv md ops n listed →
      (∀ j oj, ops[j]? = some oj → j ≠ i → listed.getD j true = false → (∀ e ∈ oj.after, Region.binds md e = true → e.on ≠ i) → oi.apart ops oj = true) →
      i ∈ Region.ready md ops listed → YieldsAt P ops w oi v a → wpAnyL P md ops w n L f (listed.setIfInBounds i true) (a.put oi.dst v) → wpAnyL P md ops w n L (f + 1) listed a := by
  intro f
  induction f with
  | zero =>
    intro listed a inv _ hr hy H
    have hun := (mem_ready.1 hr).1
    refine ⟨List.ne_nil_of_mem hr, fun j hj => ?_⟩
    have hjn : j < n := Nat.lt_of_not_le fun h => tail_sleeps hs hc hn inv hin hun j h hj
    refine ⟨hjn, ?_⟩
    by_cases hji : j = i
    · rw [hji]; exact hy.stOp hi H
    · exact absurd (hdone _ _ H j (ready_mono hj hji)) (by omega)
  | succ f ih =>
    intro listed a inv hfree hr hy H
    have hun := (mem_ready.1 hr).1
    refine ⟨List.ne_nil_of_mem hr, fun j hj => ?_⟩
    have hjn : j < n := Nat.lt_of_not_le fun h => tail_sleeps hs hc hn inv hin hun j h hj
    refine ⟨hjn, ?_⟩
    by_cases hji : j = i
    · rw [hji]; exact hy.stOp hi H
    · obtain ⟨hjun, oj, hoj, hall⟩ := mem_ready.1 hj
      have hnot : ∀ e ∈ oj.after, Region.binds md e = true → e.on ≠ i := fun e he hb heq => by
        have := hall e he hb
        rw [heq, getD_both hun] at this
        cases this
      have h2 := stOp_put hoj (hfree j oj hoj hji hjun hnot) (fun cs b => hsel i oi cs b hi) (fun cs b => hsel j oj cs b hoj) hy (H.2 j (ready_mono hj hji)).2
      refine stOp_mono (fun a' h3 => ih (listed.setIfInBounds j true) a' (inv.set hj hjn) (fun k ok hk hki hk2 hno => hfree k ok hk hki ?_ hno) (ready_mono hr (Ne.symm hji)) h3.1 ?_) h2
      · by_cases hjk : j = k
        · rw [← hjk]; exact hjun
        · rwa [getD_set_ne true hjk] at hk2
      · rw [Array.setIfInBounds_comm _ _ hji]
        exact h3.2
/-- The head in the text's order leads to a state in which only the tail's first may come. -/
def headB (md : Region.Mode) (ops : Array Oper) (n : Nat) : Nat → Nat → Array Bool → Bool
  | 0, _, listed => decide (Region.ready md ops listed = [n])
  | f + 1, k, listed => (Region.ready md ops listed).contains k && Region.free md ops listed k && headB md ops n f (k + 1) (listed.setIfInBounds k true)
def setTo (listed : Array Bool) : Nat → Nat → Array Bool
  | 0, _ => listed
  | f + 1, k => setTo (listed.setIfInBounds k true) f (k + 1)
theorem head_lex {w : World} {n : Nat} {Lq : Act → Prop} (hsel : Region.noSelect ops = true) (hs : Region.sinkB md ops n = true) (hc : tailB md ops n = true) (hn : n < ops.size) :
    ∀ (l0 : List Oper) (k : Nat) (listed : Array Bool) (a : Act), (∀ j, j < l0.length → l0[j]? = ops[k + j]?) → k + l0.length = n → HeadInv md ops n listed →
    headB md ops n l0.length k listed = true → wpStill P ops w Lq l0 a → wpAnyL P md ops w n (fun listed' a' => (Region.ready md ops listed' = [n] ∧ listed' = setTo listed l0.length k) ∧ Lq a') l0.length listed a
  | [], k, listed, a, _, hk, _, hB, h => ⟨⟨of_decide_eq_true hB, rfl⟩, h⟩
  | o :: l0, k, listed, a, hl, hk, inv, hB, h => by
    have h0 : ops[k]? = some o := by simpa using (hl 0 (by simp)).symm
    simp only [List.length_cons, headB, Bool.and_eq_true] at hB
    obtain ⟨⟨hr, hf⟩, hB'⟩ := hB
    have hkn : k < n := by simp only [List.length_cons] at hk; omega
    have hr' : k ∈ Region.ready md ops listed := by simpa using hr
    have hst : stOp P ops w k (wpStill P ops w Lq l0) a := by unfold stOp; simp only [h0]; exact h
    obtain ⟨v, hy, hK⟩ := yieldsAt_of_stOp h0 hst
    refine head_first h0 (Region.noSelect_spec hsel) hs hc hn hkn (fun listed' a' hL j hj => ?_) l0.length listed a inv (Region.free_spec h0 hf) hr' hy
      (head_lex hsel hs hc hn l0 (k + 1) _ _ (fun j hj => by have := hl (j + 1) (by simp; omega); simpa [Nat.add_assoc, Nat.add_comm 1 j] using this) (by simp only [List.length_cons] at hk; omega) (inv.set hr' hkn) hB' hK)
    rw [hL.1.1] at hj
    simp at hj
    omega
theorem region_head_in {id : Nat} {Q : Exit → Act → World → Prop} {a : Act} {w : World} {l0 : List Oper} (n : Nat) (hm : P.follows .mixedOrders = true) (hsel : Region.noSelect l0.toArray = true) (hn : n < l0.toArray.size) (hs : Region.sinkB .any l0.toArray n = true) (hc : tailB .any l0.toArray n = true)
    (hB : headB .any l0.toArray n n 0 (Array.replicate l0.toArray.size false) = true) (hnd : noDefer l0 = true)
    (h : wpStill P l0.toArray w.drew (fun a' => wpAnyIn (Fence.wide.inRound l) d P .any l0.toArray Q (l0.toArray.size - n) (setTo (Array.replicate l0.toArray.size false) n 0) a' w.drew) (l0.take n) a) : (Code.region id l0.toArray true).wpIn (Fence.wide.inRound l) d P Q a w := by
  have hn' : n < l0.length := by simpa using hn
  have htl : (l0.take n).length = n := by simp; omega
  have inv0 : HeadInv .any l0.toArray n (Array.replicate l0.toArray.size false) :=
    ⟨by simp, fun j oj _ hl => (by rw [getD_replicate_false] at hl; cases hl), fun t _ ht => getD_in (by simpa using ht) (getD_replicate_false _ _)⟩
  have H := head_lex (md := .any) hsel hs hc hn (l0.take n) 0 _ a (fun j hj => by
    have hj' : j < n := by rw [htl] at hj; exact hj
    simp [hj']) (by simpa using htl) inv0 (by rw [htl]; exact hB) h
  refine wpIn_region_any hm ?_
  have := still_head (l := l) (d := d) (Q' := Q) (g := l0.toArray.size - n) (noDefer_spec hnd) (fun listed a' hL => by
    rw [hL.1.2, htl]
    exact hL.2) _ _ _ H
  rw [htl, show n + (l0.toArray.size - n) = l0.toArray.size by omega] at this
  exact this
theorem region_still_tail_in {id : Nat} {Q : Exit → Act → World → Prop} {a : Act} {w : World} {l0 : List Oper} (n : Nat) (hm : P.follows .mixedOrders = true) (hB : Region.lexTailB .any l0.toArray n = true) (hnd : noDefer l0 = true)
    (h : wpStill P l0.toArray w.drew (fun a' => wpListIn (Fence.wide.inRound l) d P l0.toArray Q (l0.drop n) a' w.drew) (l0.take n) a) : (Code.region id l0.toArray true).wpIn (Fence.wide.inRound l) d P Q a w := by
  simp only [Region.lexTailB, Bool.and_eq_true, decide_eq_true_eq] at hB
  obtain ⟨⟨⟨⟨hsel, hn⟩, hs⟩, hc⟩, hlex⟩ := hB
  have hn' : n < l0.length := by simpa using hn
  have htl : (l0.take n).length = n := by simp; omega
  have hdl : (l0.drop n).length = l0.toArray.size - n := by simp
  have inv0 : HeadInv .any l0.toArray n (Array.replicate l0.toArray.size false) :=
    ⟨by simp, fun j oj _ hl => (by rw [getD_replicate_false] at hl; cases hl), fun t _ ht => getD_in (by simpa using ht) (getD_replicate_false _ _)⟩
  have H := wpAnyL_lex (md := .any) (g := l0.toArray.size - n) hsel hs hc hn (l0.take n) 0 _ a (fun j hj => by
    have hj' : j < n := by rw [htl] at hj; exact hj
    simp [hj']) (by simpa using htl) inv0 (by rw [htl]; exact hlex) h
  refine wpIn_region_any hm ?_
  have := still_head (l := l) (d := d) (Q' := Q) (g := l0.toArray.size - n) (noDefer_spec hnd) (fun listed a' hL => by
    have := seq_in (F := Fence.wide.inRound l) (d := d) (md := .any) (Q' := Q) (l0.drop n) n listed a' w.drew (fun j => by simp [List.getElem?_drop]) (by rw [hdl]; exact hL.1) hL.2
    rwa [hdl] at this) _ _ _ H
  rw [htl, show n + (l0.toArray.size - n) = l0.toArray.size by omega] at this
  exact this
end
end Go.Proofs.YtkhdjjcflbdegaaGreatDoor
end

section
/- A region that draws, in a fenced function that is no round: what only reads goes first, in whatever order; the chain behind it is walked once. -/
namespace Go.Proofs.YtkhdjjcflbdegaaGreatDoor
open Go

section
variable {P : Program} {ops : Array Oper} {md : Region.Mode} {d : Nat}
theorem still_oper_w {w : World} {o : Oper} {a : Act} {K : Act → Prop} {K' : Act → World → Prop} {Q' : Exit → Act → World → Prop} (h : ∀ a, K a → K' a w) (hh : o.still P a w K) : o.wpIn Fence.wide d P a w K' Q' := by
  refine ⟨fun _ _ => trivial, ?_⟩
  rw [show Fence.wide.round = none from rfl, Oper.semAt_none]
  unfold Oper.still at hh
  generalize (execOp a.eval o).run P w = r at *
  cases r with
  | ok x w' =>
    cases x <;> simp only [Oper.stillUpon] at hh
    case enter f args =>
      obtain ⟨rfl, v, hc, hn⟩ := hh
      refine And.intro (fun h => ?_) ((callsIn_wide.2 hc).mono ?_)
      · simp [Fence.wide] at h
      · intro e w'' he
        obtain ⟨e1, e2⟩ := he
        subst e1
        subst e2
        exact h _ hn
    all_goals (obtain ⟨rfl, h2⟩ := hh; exact h _ h2)
  | halt x w' => simp only [Oper.stillUpon] at hh
theorem still_op_w {w : World} {i : Nat} {a : Act} {K : Act → Prop} {K' : Act → World → Prop} {Q' : Exit → Act → World → Prop} (h : ∀ a, K a → K' a w) (hh : stOp P ops w i K a) :
    wpOpIn Fence.wide d P ops Q' i K' a w := by
  unfold stOp at hh
  unfold wpOpIn
  split
  · rename_i ho; simp only [ho] at hh; exact h _ hh
  · rename_i o ho
    simp only [ho] at hh
    split
    · rename_i hw; simp only [hw, if_true] at hh; exact still_oper_w h hh
    · rename_i hw; simp only [hw] at hh; exact ⟨fun _ _ => trivial, h _ hh⟩
theorem still_head_w {w : World} {n g : Nat} {L : Array Bool → Act → Prop} {Q' : Exit → Act → World → Prop}
    (hL : ∀ listed a, L listed a → wpAnyIn Fence.wide d P md ops Q' g listed a w) :
    ∀ (f : Nat) (listed : Array Bool) (a : Act), wpAnyL P md ops w n L f listed a → wpAnyIn Fence.wide d P md ops Q' (f + g) listed a w
  | 0, listed, a, h => by rw [Nat.zero_add]; exact hL _ _ h
  | f + 1, listed, a, h => by
    rw [show f + 1 + g = (f + g) + 1 by omega]
    exact ⟨fun h0 => absurd h0 h.1, fun i hi => still_op_w (fun a' h' => still_head_w hL f _ a' h') (h.2 i hi).2⟩
theorem region_still_tail_w {id : Nat} {Q : Exit → Act → World → Prop} {a : Act} {w : World} {l0 : List Oper} (n : Nat) (hm : P.follows .mixedOrders = true) (hB : Region.lexTailB .any l0.toArray n = true)
    (h : wpStill P l0.toArray w.drew (fun a' => wpListIn Fence.wide d P l0.toArray Q (l0.drop n) a' w.drew) (l0.take n) a) : (Code.region id l0.toArray true).wpIn Fence.wide d P Q a w := by
  simp only [Region.lexTailB, Bool.and_eq_true, decide_eq_true_eq] at hB
  obtain ⟨⟨⟨⟨hsel, hn⟩, hs⟩, hc⟩, hlex⟩ := hB
  have hn' : n < l0.length := by simpa using hn
  have htl : (l0.take n).length = n := by simp; omega
  have hdl : (l0.drop n).length = l0.toArray.size - n := by simp
  have inv0 : HeadInv .any l0.toArray n (Array.replicate l0.toArray.size false) :=
    ⟨by simp, fun j oj _ hl => (by rw [getD_replicate_false] at hl; cases hl), fun t _ ht => getD_in (by simpa using ht) (getD_replicate_false _ _)⟩
  have H := wpAnyL_lex (md := .any) (g := l0.toArray.size - n) hsel hs hc hn (l0.take n) 0 _ a (fun j hj => by
    have hj' : j < n := by rw [htl] at hj; exact hj
    simp [hj']) (by simpa using htl) inv0 (by rw [htl]; exact hlex) h
  refine wpIn_region_any hm ?_
  have := still_head_w (d := d) (Q' := Q) (g := l0.toArray.size - n) (fun listed a' hL => by
    have := seq_in (F := Fence.wide) (d := d) (md := .any) (Q' := Q) (l0.drop n) n listed a' w.drew (fun j => by simp [List.getElem?_drop]) (by rw [hdl]; exact hL.1) hL.2
    rwa [hdl] at this) _ _ _ H
  rw [htl, show n + (l0.toArray.size - n) = l0.toArray.size by omega] at this
  exact this
/-- A guarded call that is passed over. -/
theorem wide_pass {Q : Exit → Act → World → Prop} {a : Act} {w : World} {o : Oper} {rest : List Oper} (hw : Region.wanted o (yielded ops a.tmps) = false) (h : wpListIn Fence.wide d P ops Q rest (a.put o.dst undef) w) : wpListIn Fence.wide d P ops Q (o :: rest) a w := by
  simp only [wpListIn, hw]
  exact ⟨fun _ _ => trivial, h⟩
end
end Go.Proofs.YtkhdjjcflbdegaaGreatDoor
end

section
/- Package precode: gray's iterator; first. -/
namespace Go.Proofs.YtkhdjjcflbdegaaGreatDoor
open Go.RowKit Go.Extern.Stop Go.Stop Go.Extern

/-- What a round keeps for the iterator: the box of the weight. -/
def KpW (b : Nat) (W W' : World) : Prop := W'.heap[b]? = W.heap[b]?
theorem KpW.refl (b : Nat) (W : World) : KpW b W W := rfl
theorem KpW.trans {b : Nat} {A B C : World} (h : KpW b A B) (k : KpW b B C) : KpW b A C := Eq.trans k h
theorem KpW.book {b : Nat} {w : World} (h1 : b < w.heap.size) (W : World) (l : Nat) (o o' : Obj) (hl : w.heap.size ≤ l) (_ : W.heap[l]? = some o) (_ : o.isCells = false) (_ : o.isWalk = false) : KpW b W (W.putObj l o') :=
  World.putObj_heap_other (by omega)
theorem abides_drew {β : Type} {B : Nat} {J : β → World → Prop} (h : AbidesFrom B J) {s : β} {W : World} (hj : J s W) : J s W.drew :=
  h s W W.drew none hj ⟨rfl, rfl, rfl, Nat.le_refl _, fun _ _ _ => rfl⟩ (fun r e => by cases e)

section
open Go.Shelf
attribute [local go_sem] Oper.semAt_some

set_option maxRecDepth 1000000 in
set_option maxHeartbeats 2000000 in
theorem gray1_in (n : Nat) (_hn : 1 ≤ n) (l bw wt : Nat) (_hwt : wt ≤ 16) (J Jx : List (Fin 1048576) → World → Prop)
    (W : World) (hJ : AbidesFrom W.heap.size J) 
    (hY : ∀ pre x W, J pre W → pre.length < 1048576 → YieldAt Fence.wide (n - 1) Tryz.prog l #[.int .i64 (x.1 : Int)] W fun e W' =>
      (e = .returned (.bool true) ∧ J (pre ++ [x]) W' ∧ KpW bw W W') ∨ (e = .returned (.bool false) ∧ Jx (pre ++ [x]) W'))
    (hb : Boxed W bw 3 (.int .i64 (wt : Int))) (h0 : J [] W) :
    CallsIn Fence.wide n Tryz.prog 161 #[.func (.yield l) #[] #[], .pointer (some ⟨bw, 0, none⟩)] W fun e W' => (∃ v, e = .returned v) ∧
      ((∃ ys : List (Fin 1048576), ys.map (·.1) = graysTo wt 1048576 ∧ J ys W') ∨ (∃ pre : List (Fin 1048576), (∃ (k : Nat) (p : List (Fin 1048576)) (x : Fin 1048576), k ≤ 1048576 ∧ pre = p ++ [x] ∧ p.map (·.1) = graysTo wt k) ∧ Jx pre W')) := by
  have HJ := Lib.hid hJ
  have HB := Lib.hid hb
  clear hJ hb
  refine callsIn_of_wp Tryz.func161 rfl trivial ?_ rfl
  simp only [Tryz.ntmps161, List.size_toArray, List.length_cons, List.length_nil, Nat.reduceAdd, Nat.reduceSub, Array.replicate_succ, Array.replicate_zero, List.push_toArray, List.append_toArray, List.nil_append, List.cons_append]
  gi_wp2
  gi_loopw [5] (fun i wr => ∃ (k : Nat) (pre : List (Fin 1048576)), k ≤ 1048576 ∧ i = .int .i64 k ∧ pre.map (·.1) = graysTo wt k ∧ J pre wr ∧ KpW bw W wr) (fun i _ => 1048576 - (intOf i).toNat)
  case atStart => exact ⟨0, [], by omega, rfl, rfl, h0, KpW.refl _ _⟩
  case round =>
    obtain ⟨k, pre, hk, rfl, hpre, hJs, hkp⟩ := hrel
    have HK := Lib.hid hkp
    have HP := Lib.hid hpre
    by_cases hlt : k < 1048576
    · have d1 : decide ((k : Int) < 1048576) = true := decide_eq_true (by omega)
      have hgl : gry k < 1048576 := gry_lt (n := 20) (by omega)
      have hX := xor_gry hlt
      have hcw : wr.drew.cell? ⟨bw, 0, none⟩ = some (.int .i64 (wt : Int)) := (World.cell?_of_block (w := W) (a := ⟨bw, 0, none⟩) hkp).trans HB.out.cell
      have hpl : pre.length < 1048576 := by
        have : pre.length = (graysTo wt k).length := by rw [← hpre, List.length_map]
        have := graysTo_length wt k
        omega
      have hJd : J pre wr.drew := abides_drew HJ.out hJs
      obtain ⟨P, hP⟩ : ∃ P, pop (gry k) = P := ⟨_, rfl⟩
      have hpp := pop_le (gry k)
      have HOC : Hid (Calls Tryz.prog 162 #[.int .u64 (IntKind.u64.wrap ((gry k : Nat) : Int))] wr.drew fun e w'' => e = .returned (.int .i64 (P : Int)) ∧ w'' = wr.drew) := Lib.hid (by
        rw [← hP, wrap_nat _ (by omega)]
        refine (OnesC_any (gry k) (by omega) _).mono ?_
        rintro e w' ⟨rfl, rfl⟩
        exact ⟨rfl, rfl⟩)
      have HG1 : Hid (P = wt → graysTo wt (k + 1) = graysTo wt k ++ [gry k]) := Lib.hid fun h => graysTo_one (hP.trans h)
      have HG2 : Hid (P ≠ wt → graysTo wt (k + 1) = graysTo wt k) := Lib.hid fun h => graysTo_none (by rw [hP]; exact h)
      rw [hP] at hpp
      clear hP
      by_cases hp : P = wt
      · have HS : Hid ((pre ++ [(⟨gry k, hgl⟩ : Fin 1048576)]).map (fun x : Fin 1048576 => x.1) = graysTo wt (k + 1)) := Lib.hid (by rw [List.map_append, hpre, HG1.out hp]; rfl)
        have hbq : ((P : Int) == (wt : Int)) = true := by rw [beq_iff_eq]; omega
        obtain ⟨fn, tmps, assign, body, hy, hR⟩ := hY _ ⟨gry k, hgl⟩ wr.drew hJd hpl
        dsimp only at hy
        have HR := Lib.hid hR
        clear hJs hpre hkp hpl hJd hp hR HG1 HG2
        generalize gry k = g at *
        gi_wp2_with fail
        refine region_still_tail_w 8 (by kernel_rfl) (by kernel_rfl) ?_
        simp only [List.take_succ_cons, List.take_zero, List.drop_succ_cons, List.drop_zero]
        repeat still_step
        still_call HOC.out
        repeat still_step
        refine wpStill_nil ?_
        gi_wp2
        refine HR.out.mono ?_
        rintro e W3 (⟨rfl, hJ3, hk3⟩ | ⟨rfl, hJx3⟩)
        · have HJ3 := Lib.hid hJ3
          have HK3 : Hid (KpW bw W W3) := Lib.hid (KpW.trans HK.out hk3)
          clear hJ3 hk3
          gi_wp2
          go_roundw
          case rel => exact ⟨k + 1, _, by omega, by go_num, HS.out, HJ3.out, HK3.out⟩
          case measure => simp [intOf]; omega
        · have HJ3 := Lib.hid hJx3
          clear hJx3
          gi_wp2
          refine bodyPost_ret (results_none rfl _ _ _) rfl ?_
          exact ⟨⟨_, rfl⟩, .inr ⟨_, ⟨k, pre, _, hk, rfl, HP.out⟩, HJ3.out⟩⟩
      · have HS : Hid (pre.map (fun x : Fin 1048576 => x.1) = graysTo wt (k + 1)) := Lib.hid (by rw [HG2.out hp]; exact hpre)
        have hbq : ((P : Int) == (wt : Int)) = false := by rw [beq_eq_false_iff_ne]; omega
        have HJ3 := Lib.hid hJd
        clear hJs hpre hkp hpl hJd hp HG1 HG2
        generalize gry k = g at *
        gi_wp2_with fail
        refine region_still_tail_w 8 (by kernel_rfl) (by kernel_rfl) ?_
        simp only [List.take_succ_cons, List.take_zero, List.drop_succ_cons, List.drop_zero]
        repeat still_step
        still_call HOC.out
        repeat still_step
        refine wpStill_nil ?_
        refine wide_pass (by rfl) ?_
        gi_wp2
        go_roundw
        case rel => exact ⟨k + 1, pre, by omega, by go_num, HS.out, HJ3.out, HK.out⟩
        case measure => simp [intOf]; omega
    · have hk1 : k = 1048576 := by omega
      subst hk1
      have HJ2 := Lib.hid hJs
      clear hJs hpre hkp hk hlt
      gi_wp2
      go_end0
      exact ⟨⟨_, rfl⟩, .inl ⟨pre, HP.out, HJ2.out⟩⟩

set_option maxHeartbeats 1000000 in
theorem gray_in (n : Nat) (wt : Int) (w : World) :
    CallsIn Fence.wide n Tryz.prog 154 #[.int .i64 wt] w fun e w' => e = .returned (.func (.func 161) #[] #[.pointer (some ⟨w.heap.size, 0, none⟩)]) ∧ w' = w.alloc (.cells #[.int .i64 wt] 3) := by
  refine callsIn_of_wp Tryz.func154 rfl trivial ?_ rfl
  simp only [Tryz.ntmps154, List.size_toArray, List.length_cons, List.length_nil, Nat.reduceAdd, Nat.reduceSub, Array.replicate_succ, Array.replicate_zero, List.push_toArray, List.append_toArray, List.nil_append, List.cons_append]
  gi_wp2
  go_ret
  exact ⟨rfl, rfl⟩

theorem gray_stops (n : Nat) (hn : 1 ≤ n) (bw wt : Nat) (hwt : wt ≤ 16) (w : World) (hb : Boxed w bw 3 (.int .i64 (wt : Int))) :
    SeqStopsK Fence.wide n Tryz.prog 161 #[.pointer (some ⟨bw, 0, none⟩)] (fun x : Fin 1048576 => #[Value.int .i64 (x.1 : Int)]) (KpW bw) (fun ys => ys.map (·.1) = graysTo wt 1048576)
      (fun pre => ∃ (k : Nat) (p : List (Fin 1048576)) (x : Fin 1048576), k ≤ 1048576 ∧ pre = p ++ [x] ∧ p.map (·.1) = graysTo wt k) 1048576 w := fun l J Jx W hW hJ _ hY h0 =>
  gray1_in n hn l bw wt hwt J Jx W hJ hY ((hW.block bw hb.lt).trans hb) h0

/-- first's memory between two rounds. -/
def FiI (w : World) (n wt : Nat) (pre : List (Fin 1048576)) (W : World) : Prop :=
  ∃ v q, pre.length = q ∧ q ≤ n ∧ Boxed W w.heap.size 3 (.int .i64 (n : Int)) ∧ Boxed W (w.heap.size + 1) 55 v ∧ Boxed W (w.heap.size + 1 + 1) 3 (.int .i64 (wt : Int)) ∧
    W.ownsRow (w.heap.size + 1 + 1 + 1) 3 1 v q ((pre.map (·.1)).map colV) ∧ Below w.heap.size w W
def FiX (w : World) (n wt : Nat) (c : Code) (pre : List (Fin 1048576)) (W : World) : Prop := c = .exit 0 ∧ ∃ p x, pre = p ++ [x] ∧ p.length = n ∧ FiI w n wt p W

theorem FiI.bare {w W W' : World} {n wt : Nat} {pre : List (Fin 1048576)} {row : Option Nat} (h : FiI w n wt pre W) (hg : W.grownBy W' row) (hr : ∀ r, row = some r → w.heap.size ≤ r ∧ ∃ o : Obj, W.heap[r]? = some o ∧ o.isCells = false) : FiI w n wt pre W' := by
  obtain ⟨v, q, h1, h2, h3, h4, h5, h6, h7⟩ := h
  have hr' := fun r e => (hr r e).2
  exact ⟨v, q, h1, h2, boxed_bare h3 hg hr', boxed_bare h4 hg hr', boxed_bare h5 hg hr', own_bare h6 hg hr', h7.grown hg h7.size (fun r e => (hr r e).1)⟩
theorem FiI.from (w : World) (n wt m : Nat) (hm : w.heap.size ≤ m) : OwnFrom m (FiI w n wt) := by
  rintro pre X Y row h hg hr
  exact h.bare hg (fun r e => ⟨Nat.le_trans hm (hr r e).1, (hr r e).2⟩)
theorem FiX.from (w : World) (n wt m : Nat) (hm : w.heap.size ≤ m) (c : Code) : OwnFrom m (FiX w n wt c) := by
  rintro pre X Y row ⟨hc, p, x, h1, h2, h⟩ hg hr
  exact ⟨hc, p, x, h1, h2, h.bare hg (fun r e => ⟨Nat.le_trans hm (hr r e).1, (hr r e).2⟩)⟩

/-- One number more, behind the append and the store. -/
theorem FiI.more {w W w1 : World} {n wt q B g cap : Nat} {pre : List (Fin 1048576)} {x : Fin 1048576} {v : Value} {o : Obj} (hq : pre.length = q) (hqn : q < n) (h3 : Boxed W w.heap.size 3 (.int .i64 (n : Int))) (h4 : Boxed W (w.heap.size + 1) 55 v) (h5 : Boxed W (w.heap.size + 1 + 1) 3 (.int .i64 (wt : Int)))
    (h6 : W.ownsRow (w.heap.size + 1 + 1 + 1) 3 1 v q ((pre.map (·.1)).map colV)) (h7 : Below w.heap.size w W)
    (hown : w1.ownsRow (w.heap.size + 1 + 1 + 1) 3 1 (.slice (some ⟨g, 0, none⟩) (q + 1) cap) (q + 1) ((pre.map (·.1)).map colV ++ [.int .i64 (x.1 : Int)])) (hg : (W.alloc o).grownBy w1 v.ownBlock) :
    (KeepsFrom B W (w1.setCell ⟨w.heap.size + 1, 0, none⟩ (.slice (some ⟨g, 0, none⟩) (q + 1) cap)) ∧ KpW (w.heap.size + 1 + 1) W (w1.setCell ⟨w.heap.size + 1, 0, none⟩ (.slice (some ⟨g, 0, none⟩) (q + 1) cap)) ∧ FiI w n wt (pre ++ [x]) (w1.setCell ⟨w.heap.size + 1, 0, none⟩ (.slice (some ⟨g, 0, none⟩) (q + 1) cap))) ∧ Boxed w1 (w.heap.size + 1) 55 v := by
  obtain ⟨a1, a2, a3, a4, a5⟩ := h4.appended (n₀ := w.heap.size) (by decide) (ownsRow_base h6 (by omega)) h7.size (by omega) (ownsRow_base hown (by omega)) hg
  have hne : ∀ b, b < w.heap.size + 1 + 1 + 1 → some b ≠ v.ownBlock := fun b hb e => by
    have := (h6.lt b e.symm).1
    omega
  have key : ∀ {b : Nat} {t : TypeId} {u : Value}, b < w.heap.size + 1 + 1 + 1 → b ≠ w.heap.size + 1 → Boxed W b t u → Boxed (w1.setCell ⟨w.heap.size + 1, 0, none⟩ (.slice (some ⟨g, 0, none⟩) (q + 1) cap)) b t u := fun {b t u} hb hb1 h =>
    (Below.heap_setCell _ _ _ b hb1).trans ((h.alloc o).kept hg (hne b hb))
  have k5 := key (by omega) (by omega) h5
  refine ⟨⟨a4.from B, (show _ = _ from k5).trans (show W.heap[_]? = _ from h5).symm, _, q + 1, by rw [List.length_append, hq]; rfl, by omega, key (by omega) (by omega) h3, a2, k5, ?_, h7.trans (a5.mono (Nat.le_refl _))⟩, a1⟩
  rw [List.map_append, List.map_append]
  exact hown.kept (grownBy_setCell' w1 _ _) (.inr (by
    intro e
    have := (hown.lt _ e).1
    omega))

set_option maxRecDepth 1000000 in
set_option maxHeartbeats 4000000 in
theorem first_any {w : World} (wt n : Nat) (hwt : wt ≤ 16) (hn : n ≤ 100000) :
    Calls Tryz.prog 139 #[.int .i64 (wt : Int), .int .i64 (n : Int)] w fun e w' => ∃ v l, e = .returned v ∧ IsGr wt n l ∧ w'.ownsRow w.heap.size 3 1 v l.length (l.map colV) ∧ Below w.heap.size w w' := by
  obtain ⟨i0, hi, hz0, hz1, hz2⟩ := info_parts info_int
  have h1 : (1 : Nat) ≤ 3 := by omega
  refine (callsIn_wide (n := 3)).1 ?_
  refine callsIn_of_wp_marks Tryz.func139 rfl trivial ?_ rfl
  simp only [Tryz.ntmps139, List.size_toArray, List.length_cons, List.length_nil, Nat.reduceAdd, Nat.reduceSub, Array.replicate_succ, Array.replicate_zero, List.push_toArray, List.append_toArray, List.nil_append, List.cons_append]
  gi_wp2_with (refine ⟨trivial, ?_⟩; gi_at_call 154; refine (gray_in _ _ _).mono ?_; rintro e w' ⟨rfl, rfl⟩)
  have b1 := Boxed.new w 3 (.int .i64 (n : Int))
  have b2 := Boxed.new (w.alloc (.cells #[.int .i64 (n : Int)] 3)) 55 nilS
  have b3 := Boxed.new ((w.alloc (.cells #[.int .i64 (n : Int)] 3)).alloc (.cells #[nilS] 55)) 3 (.int .i64 (wt : Int))
  have hb0 : Below w.heap.size w (((w.alloc (.cells #[.int .i64 (n : Int)] 3)).alloc (.cells #[nilS] 55)).alloc (.cells #[.int .i64 (wt : Int)] 3)) := (((Below.refl _ w).alloc (Nat.le_refl _) _).alloc (by simp) _).alloc (by simp; omega) _
  have hz : (((w.alloc (.cells #[.int .i64 (n : Int)] 3)).alloc (.cells #[nilS] 55)).alloc (.cells #[.int .i64 (wt : Int)] 3)).heap.size = w.heap.size + 1 + 1 + 1 := by simp
  rw [World.size_alloc] at b2 b3
  rw [World.size_alloc] at b3
  have b1 := (b1.alloc (.cells #[nilS] 55)).alloc (.cells #[.int .i64 (wt : Int)] 3)
  have b2 := b2.alloc (.cells #[.int .i64 (wt : Int)] 3)
  generalize (((w.alloc (.cells #[.int .i64 (n : Int)] 3)).alloc (.cells #[nilS] 55)).alloc (.cells #[.int .i64 (wt : Int)] 3)) = W0 at *
  have hI0 : FiI w n wt [] W0 := ⟨nilS, 0, rfl, Nat.zero_le _, b1, b2, b3, World.ownsRow_nil _ _ _ _, hb0⟩
  refine wpIn_rangeFunc_ownG (F := Fence.wide) rfl h1 (gf := 161) (lb := #[.pointer (some ⟨w.heap.size + 1 + 1, 0, none⟩)]) rfl trivial (enters_of Tryz.func161 (by kernel_rfl) rfl)
    (gray_stops (3 - 1) (by omega) (w.heap.size + 1 + 1) wt hwt W0 b3) (fun h k => KpW.trans h k) (KpW.book (by omega)) (Below.refl _ _) (fun _ => rfl)
    (FiI w n wt) (FiX w n wt) (FiI.from w n wt _ (by omega)) (fun c => FiX.from w n wt _ (by omega) c) hI0
    (fun x => { tmps := #[.int .i64 (wt : Int), .int .i64 (n : Int), undef, .pointer (some ⟨w.heap.size, 0, none⟩), .slice none 0 0, .pointer (some ⟨w.heap.size + 1, 0, none⟩), .int .i64 (x.1 : Int), .int .i64 (wt : Int), .func (.func 161) #[] #[.pointer (some ⟨w.heap.size + 1 + 1, 0, none⟩)], .int .i64 (x.1 : Int), undef, undef, undef, undef, undef, undef, undef, undef, undef], defers := [] }) ?assign ?body ?done ?stop
  case assign =>
    intro l x W K hK
    gi_wp2
    exact hK
  case body =>
    rintro l pre x W hI hlt
    have HI := Lib.hid hI
    obtain ⟨v, q, hq, hqn, h3, h4, h5, h6, h7⟩ := hI
    obtain ⟨ao, co, rfl, -, -⟩ := own_open h6
    have hc4 := h4.cell
    have hc3 := h3.cell
    by_cases hqq : q = n
    · have hb : ((q : Int) == (n : Int)) = true := by rw [beq_iff_eq]; omega
      have HQ := Lib.hid (hq.trans hqq)
      clear h3 h4 h5 h6 h7 hq b1 b2 b3 hb0 hI0 hqq
      gi_wp2
      exact ⟨KeepsFrom.refl _ _, rfl, pre, x, rfl, HQ.out, HI.out⟩
    · have hb : ((q : Int) == (n : Int)) = false := by rw [beq_eq_false_iff_ne]; omega
      have HEND : Hid (∀ g cap w1, w1.ownsRow (w.heap.size + 1 + 1 + 1) 3 1 (.slice (some ⟨g, 0, none⟩) (q + 1) cap) (q + 1) ((pre.map (·.1)).map colV ++ [.int .i64 (x.1 : Int)]) → (W.alloc (.cells #[.int .i64 (x.1 : Int)] 3)).grownBy w1 (Value.slice ao q co).ownBlock →
        (KeepsFrom W0.heap.size W (w1.setCell ⟨w.heap.size + 1, 0, none⟩ (.slice (some ⟨g, 0, none⟩) (q + 1) cap)) ∧ KpW (w.heap.size + 1 + 1) W (w1.setCell ⟨w.heap.size + 1, 0, none⟩ (.slice (some ⟨g, 0, none⟩) (q + 1) cap)) ∧ FiI w n wt (pre ++ [x]) (w1.setCell ⟨w.heap.size + 1, 0, none⟩ (.slice (some ⟨g, 0, none⟩) (q + 1) cap))) ∧ Boxed w1 (w.heap.size + 1) 55 (.slice ao q co)) :=
        Lib.hid fun g cap w1 ho hg => FiI.more hq (by omega) h3 h4 h5 h6 h7 ho hg
      have HO := Lib.hid h6
      have hsz := (h5.lt)
      clear h3 h4 h5 h6 h7 hq b1 b2 b3 hb0 hI0
      gi_wp2_with (gi_at_builtin; refine wpListIn_append_own _ rfl _ _ 55 rfl (w.heap.size + 1 + 1 + 1) 3 i0 (.int .i64 0) 1 8 Tryz.underlying55 hi hz0 hz1 hz2 rfl (by decide) (.slice ao q co) q ((pre.map (·.1)).map colV) rfl (HO.out.alloc _) ⟨W.heap.size, 0, none⟩ 1 1 [.int .i64 (x.1 : Int)] rfl rfl (cell_one_new _ _ _) (by simp [Value.oneCell']) (by unfold maxLen; omega) (by omega) (by simp; omega) ?_; intro v' w1 hown' hgrow _; obtain ⟨g', cap', rfl⟩ := ownsRow_succ hown'; obtain ⟨hE1, hE2⟩ := HEND.out g' cap' w1 hown' hgrow; have HE := Lib.hid hE1; have hc1 := hE2.cell; have hf1 := hE2.frozen; clear hE1 hE2 hown' hgrow)
      exact HE.out
  case done =>
    rintro D xs W hD hxs ⟨v, q, hq, hqn, h3, h4, h5, h6, h7⟩ hK2
    have hq' : (graysTo wt 1048576).length = q := by rw [← hxs, List.length_map, hq]
    rw [hxs] at h6
    have HE : Hid (IsGr wt n (graysTo wt 1048576)) := Lib.hid ⟨1048576, Nat.le_refl _, rfl, by rw [hq']; exact hqn, .inr rfl⟩
    have HQ := Lib.hid hq'
    have HO := Lib.hid h6
    have HB := Lib.hid h7
    have hc4 := h4.cell
    obtain ⟨ao, co, rfl, -, -⟩ := own_open h6
    clear h3 h4 h5 h6 h7 hq b1 b2 b3 hb0 hI0 hxs hq'
    generalize graysTo wt 1048576 = L at *
    gi_wp2
    refine ⟨by simp, .inl ⟨_, _, rfl, run_takeDeferred hK2, ?_⟩⟩
    have hgp := grownBy_putObj' W D (.deferred none)
    have hrp : ∀ r, some D = some r → ∃ o : Obj, W.heap[r]? = some o ∧ o.isCells = false := fun r e' => by cases e'; exact ⟨_, hK2, rfl⟩
    exact ⟨_, results_tmp rfl _ _ _, _, L, rfl, HE.out, by rw [HQ.out]; exact own_bare (ownsRow_base HO.out (by omega)) hgp hrp, HB.out.trans (belowK_b (w := W0) (n₀ := w.heap.size) (by omega) W D _ _ hD hK2 rfl rfl)⟩
  case stop =>
    rintro D c pre W hD ⟨k, p', x', hk, hp', hpk⟩ ⟨rfl, p, x, hpp, hpn, v, q, hq, hqn, h3, h4, h5, h6, h7⟩ hK2
    obtain ⟨rfl, -⟩ := List.append_inj' (hpp.symm.trans hp') rfl
    have hq' : (graysTo wt k).length = q := by rw [← hpk, List.length_map, hq]
    rw [hpk] at h6
    have HE : Hid (IsGr wt n (graysTo wt k)) := Lib.hid ⟨k, hk, rfl, by rw [hq']; exact hqn, .inl (by rw [hq', ← hq]; exact hpn)⟩
    have HQ := Lib.hid hq'
    have HO := Lib.hid h6
    have HB := Lib.hid h7
    have hc4 := h4.cell
    obtain ⟨ao, co, rfl, -, -⟩ := own_open h6
    clear h3 h4 h5 h6 h7 hq b1 b2 b3 hb0 hI0 hpp hp' hpk hq'
    generalize graysTo wt k = L at *
    gi_wp2
    refine ⟨by simp, .inl ⟨_, _, rfl, run_takeDeferred hK2, ?_⟩⟩
    have hgp := grownBy_putObj' W D (.deferred none)
    have hrp : ∀ r, some D = some r → ∃ o : Obj, W.heap[r]? = some o ∧ o.isCells = false := fun r e' => by cases e'; exact ⟨_, hK2, rfl⟩
    exact ⟨_, results_tmp rfl _ _ _, _, L, rfl, HE.out, by rw [HQ.out]; exact own_bare (ownsRow_base HO.out (by omega)) hgp hrp, HB.out.trans (belowK_b (w := W0) (n₀ := w.heap.size) (by omega) W D _ _ hD hK2 rfl rfl)⟩
end
end Go.Proofs.YtkhdjjcflbdegaaGreatDoor
end
