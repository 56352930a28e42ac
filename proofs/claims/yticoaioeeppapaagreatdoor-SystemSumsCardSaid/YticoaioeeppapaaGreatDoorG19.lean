import Derived.Test.YticoaioeeppapaaGreatDoorG02
import Derived.Test.YticoaioeeppapaaGreatDoorG18
import Derived.Test.YticoaioeeppapaaGreatDoorG06
import Derived.Test.YticoaioeeppapaaGreatDoorG07
import Derived.Maps.AppendAt
import Derived.OwnWalk
import Derived.WalkSpells
import Derived.WalkLawsBesides
import Derived.Deep.LoopGhost
import Derived.RangeFuncNested
import Derived.RangeFuncBound
import Derived.RangeFuncCalls
import Derived.RangeFuncLeaves
import Derived.Shelf.Abstract
import Derived.Shelf.RegionOpen
import Derived.OwnWalkIn
import Derived.TacticsInMore
import Derived.LoopNIn
import Derived.LoopIn
import Derived.StillTailTactics
import Derived.OrdersIn

section
/- Package precode and the document's: bits of a number; the numbers of one weight, gone over. -/
namespace Go.Proofs.YticoaioeeppapaaGreatDoor
open Go.RowKit Go.Extern.Stop Go.Stop Go.Extern

theorem xor_i64 (a b : Nat) (ha : a < 4611686018427387904) (hb : b < 4611686018427387904) : bits .xor .i64 (a : Int) (b : Int) = ((a ^^^ b : Nat) : Int) := by
  have hx : a ^^^ b < 2 ^ 62 := Nat.xor_lt_two_pow (by omega) (by omega)
  have h1 : (BitVec.ofInt 64 (a : Int)).toNat = a := by
    rw [BitVec.ofInt_natCast, BitVec.toNat_ofNat]; exact Nat.mod_eq_of_lt (by omega)
  have h2 : (BitVec.ofInt 64 (b : Int)).toNat = b := by
    rw [BitVec.ofInt_natCast, BitVec.toNat_ofNat]; exact Nat.mod_eq_of_lt (by omega)
  show IntKind.i64.wrap ((BitVec.ofInt 64 (a : Int) ^^^ BitVec.ofInt 64 (b : Int)).toNat : Int) = _
  rw [BitVec.toNat_xor, h1, h2, IntKind.wrap_i64]
  omega
theorem xor_gry {i : Nat} (h : i < 1048576) : bits .xor .i64 (i : Int) ((i : Int) / 2) = ((gry i : Nat) : Int) := by
  rw [show ((i : Int) / 2) = ((i / 2 : Nat) : Int) by omega, xor_i64 i (i / 2) (by omega) (by omega)]
  rfl
theorem and_one_i64 (n : Int) : bits .and .i64 n 1 = n % 2 := by
  have h1 : (BitVec.ofInt 64 1).toNat = 2 ^ 1 - 1 := by decide
  have key : (BitVec.ofInt 64 n &&& BitVec.ofInt 64 1).toNat = (n % ((2 ^ 64 : Nat) : Int)).toNat % 2 ^ 1 := by
    rw [BitVec.toNat_and, BitVec.toNat_ofInt, h1, Nat.and_two_pow_sub_one_eq_mod]
  show IntKind.i64.wrap ((BitVec.ofInt 64 n &&& BitVec.ofInt 64 1).toNat : Nat) = n % 2
  rw [key, IntKind.wrap_i64]
  omega

set_option maxRecDepth 1000000 in
theorem OnesC_any (x : Nat) (hx : x < 18446744073709551616) (w : World) :
    Calls Tryz.prog 152 #[.int .u64 (x : Int)] w fun e w' => e = .returned (.int .i64 (pop x : Nat)) ∧ w = w' := by
  obtain ⟨P, hP⟩ : ∃ P, pop x = P := ⟨_, rfl⟩
  have hp := pop_le x
  rw [hP] at hp ⊢
  have HC : Hid (Calls Tryz.prog 132 #[.int .u64 (x : Int)] w fun e w' => e = .returned (.int .i64 (P : Int)) ∧ w = w') := Lib.hid (by rw [← hP]; exact Ones64_any x hx w)
  clear hP
  go_enter Tryz.func152, Tryz.ntmps152
  go_wp2_with fail
  refine HC.out.mono ?_
  rintro e w1 ⟨rfl, rfl⟩
  go_wp2
  go_ret
  exact ⟨rfl, rfl⟩

set_option maxRecDepth 1000000 in
theorem ones_any {w : World} (x : Nat) (hx : x < 4611686018427387904) :
    Calls Tryz.prog 124 #[.int .i64 (x : Int)] w fun e w' => e = .returned (.int .i64 ((pop x : Nat) : Int)) ∧ w = w' := by
  have hp := pop_le x
  obtain ⟨P, hP⟩ : ∃ P, pop x = P := ⟨_, rfl⟩
  rw [hP] at hp ⊢
  have HP := Lib.hid hP
  clear hP
  go_enter Tryz.func124, Tryz.ntmps124
  go_wp2
  go_loopw [0, 3] (fun n k wr => ∃ m j : Nat, n = .int .i64 m ∧ k = .int .i64 j ∧ m < 4611686018427387904 ∧ j + pop m = P ∧ w = wr) (fun n _ _ => (intOf n).toNat)
  case atStart => exact ⟨x, 0, rfl, rfl, hx, by rw [HP.out]; omega, rfl⟩
  case round =>
    obtain ⟨m, j, rfl, rfl, hm, hj, rfl⟩ := hrel
    have hjP : j ≤ P := by omega
    by_cases h0 : 0 < m
    · have HS : Hid (j + m % 2 + pop (m / 2) = P) := Lib.hid (by rw [← hj, pop_step (x := m) (by omega)]; omega)
      have d1 : decide ((0 : Int) < (m : Int)) = true := decide_eq_true (by omega)
      clear hj
      go_wp2
      go_roundw
      case rel => exact ⟨m / 2, j + m % 2, by go_num, by go_num, by omega, HS.out, trivial⟩
      case measure => simp [intOf]; omega
    · obtain rfl : m = 0 := by omega
      rw [pop_zero] at hj
      have HJ : Hid (j = P) := Lib.hid (by omega)
      clear hj
      go_wp2
      go_ret
      exact ⟨by rw [HJ.out]; rfl, rfl⟩

set_option maxRecDepth 1000000 in
set_option maxHeartbeats 1000000 in
theorem rGray_any {w : World} (wt n : Nat) (_hwt : wt ≤ 16) (hn : n ≤ 100000) :
    Calls Tryz.prog 100 #[.int .i64 (wt : Int), .int .i64 (n : Int)] w fun e w' => ∃ v l, e = .returned v ∧ IsGr wt n l ∧ ListAt colV w' v l ∧ Below w.heap.size w w' := by
  obtain ⟨i0, hi, hz0, hz1, hz2⟩ := info_parts info_int
  go_enter Tryz.func100, Tryz.ntmps100
  go_wp2
  go_loopw [5, 6] (fun v i wr => ∃ (k q : Nat) (l : List Nat), k ≤ 1048576 ∧ i = .int .i64 k ∧ l = graysTo wt k ∧ l.length = q ∧ q ≤ n ∧ wr.ownsRow w.heap.size 3 1 v q (l.map colV) ∧ Below w.heap.size w wr) (fun _ i _ => 1048576 - (intOf i).toNat)
  case atStart => exact ⟨0, 0, [], by omega, rfl, rfl, rfl, by omega, World.ownsRow_made (base := w.heap.size) (e := 3) (size := 1) w #[] 0 (Nat.le_refl _) (by decide) rfl, (Below.refl _ _).alloc (Nat.le_refl _) _⟩
  case round =>
    obtain ⟨k, q, l, hk, rfl, hl, hlq, hqn, hown, hbel⟩ := hrel
    have hsz := hbel.size
    have HL := Lib.hid hl
    have HQ := Lib.hid hlq
    have HO := Lib.hid hown
    have HB := Lib.hid hbel
    obtain ⟨ao, co, rfl, -, -⟩ := own_open hown
    clear hl hlq hown hbel
    by_cases hlt : k < 1048576 ∧ q < n
    · obtain ⟨hlt, hqlt⟩ := hlt
      have HX := xor_gry hlt
      have hgl : gry k < 1048576 := gry_lt (n := 20) (by omega)
      have d1 : decide ((k : Int) < 1048576) = true := decide_eq_true (by omega)
      have d2 : decide ((q : Int) < (n : Int)) = true := decide_eq_true (by omega)
      have d3 : decide (q < n) = true := decide_eq_true (by omega)
      have hpp := pop_le (gry k)
      by_cases hp : pop (gry k) = wt
      · have HS := Lib.hid (graysTo_one hp)
        have HP := Lib.hid hp
        generalize gry k = g at *
        clear hp
        go_wp2_with fail
        refine (ones_any g (by omega)).mono ?_
        rintro e w1 ⟨rfl, rfl⟩
        rw [HP.out]
        have hb : ((wt : Int) == (wt : Int)) = true := by simp
        go_wp2_with (at_builtin; refine wpList_append_own _ rfl (.tmp 27) (.tmp 29) 24 rfl w.heap.size 3 i0 (.int .i64 0) 1 8 Tryz.underlying24 hi hz0 hz1 hz2 rfl (by decide) (.slice ao q co) q (l.map colV) rfl (HO.out.alloc _) ⟨wr.heap.size, 0, none⟩ 1 1 [.int .i64 (g : Int)] rfl rfl (cell_one_new _ _ _) (fun x hx => by simp at hx; subst hx; rfl) (by unfold maxLen; omega) (by omega) (by simp; omega) ?_; intro v2 w2 hown1 hgrow1 _; have hb2 := Lib.hid ((HB.out.alloc hsz _).grown hgrow1 (by simp; omega) (fun k hk => (HO.out.lt k hk).1)); have ho2 := Lib.hid hown1; clear hown1 hgrow1)
        go_roundw
        case rel => exact ⟨k + 1, q + 1, l ++ [g], by omega, by go_num, by rw [HS.out, ← HL.out], by rw [List.length_append, HQ.out]; rfl, by omega, by rw [List.map_append]; exact ho2.out, hb2.out⟩
        case measure => simp [intOf]; omega
      · have HS := Lib.hid (graysTo_none hp)
        have hb : (((pop (gry k) : Nat) : Int) == (wt : Int)) = false := by simpa using fun h => hp (by omega)
        generalize gry k = g at *
        clear hp
        go_wp2_with fail
        refine (ones_any g (by omega)).mono ?_
        rintro e w1 ⟨rfl, rfl⟩
        generalize pop g = P at *
        go_wp2
        go_roundw
        case rel => exact ⟨k + 1, q, l, by omega, by go_num, by rw [HS.out, ← HL.out], HQ.out, by omega, HO.out, HB.out⟩
        case measure => simp [intOf]; omega
    · have HE : Hid (IsGr wt n l) := Lib.hid ⟨k, hk, HL.out, by rw [HQ.out]; exact hqn, by rw [HQ.out]; omega⟩
      by_cases h1 : k < 1048576
      · have d1 : decide ((k : Int) < 1048576) = true := decide_eq_true (by omega)
        have d2 : decide ((q : Int) < (n : Int)) = false := decide_eq_false (by omega)
        have d3 : decide (q < n) = false := decide_eq_false (by omega)
        go_wp2
        go_ret
        exact ⟨_, l, rfl, HE.out, ListAt.of_owns HO.out, HB.out⟩
      · have d1 : decide ((k : Int) < 1048576) = false := decide_eq_false (by omega)
        go_wp2
        go_ret
        exact ⟨_, l, rfl, HE.out, ListAt.of_owns HO.out, HB.out⟩
end Go.Proofs.YticoaioeeppapaaGreatDoor
end

section
/- What a loop over a function leaves alone: rows and boxes of the call's own (was in Back). -/
namespace Go.Proofs.YticoaioeeppapaaGreatDoor
open Go.RowKit Go.Extern.Stop Go.Stop Go.Extern

theorem grown_drew {a b : World} {row : Option Nat} (h : a.grownBy b row) : a.grownBy b.drew row := ⟨h.os, h.tape, h.output, h.size, h.block⟩

section
variable {w w' W : World}
/-- What the call owns is kept by the book-keeping of a loop over a function. -/
theorem own_bare {base q : Nat} {e : TypeId} {v : Value} {xs : List Value} {row : Option Nat} (h : w.ownsRow base e 1 v q xs) (hg : w.grownBy w' row) (hr : ∀ r, row = some r → ∃ o : Obj, w.heap[r]? = some o ∧ o.isCells = false) : w'.ownsRow base e 1 v q xs := by
  refine h.kept hg ?_
  rcases h.2 with ⟨rfl, _⟩ | ⟨g, cap, cur, rfl, _, hgb, _⟩
  · exact .inl rfl
  · refine .inr fun e' => ?_
    obtain ⟨o, ho, hc⟩ := hr g (by simpa [Value.ownBlock] using e'.symm)
    rw [hgb] at ho; cases ho; cases hc
theorem boxed_bare {b : Nat} {t : TypeId} {v : Value} {row : Option Nat} (h : Boxed w b t v) (hg : w.grownBy w' row) (hr : ∀ r, row = some r → ∃ o : Obj, w.heap[r]? = some o ∧ o.isCells = false) : Boxed w' b t v :=
  h.kept hg (fun e' => by obtain ⟨o, ho, hc⟩ := hr b e'.symm; rw [show w.heap[b]? = _ from h] at ho; cases ho; cases hc)
end
end Go.Proofs.YticoaioeeppapaaGreatDoor
end

section
/- A region that draws, within a round of a loop over a function: what only reads goes first, in whatever order; the chain behind it is walked once. -/
namespace Go.Proofs.YticoaioeeppapaaGreatDoor
open Go

section
variable {P : Program} {ops : Array Oper} {md : Region.Mode} {l d : Nat}
theorem still_oper {w : World} {o : Oper} {a : Act} {K : Act → Prop} {K' : Act → World → Prop} {Q' : Exit → Act → World → Prop} (hd : ∀ c, o.op ≠ .defer c) (h : ∀ a, K a → K' a w) (hh : o.still P a w K) : o.wpIn (Fence.wide.inRound l) d P a w K' Q' := by
  refine ⟨fun _ _ => trivial, ?_⟩
  rw [show (Fence.wide.inRound l).round = some l from rfl, Oper.semAt_some l _ _ hd]
  unfold Oper.still at hh
  generalize (execOp a.eval o).run P w = r at *
  cases r with
  | ok x w' =>
    cases x <;> simp only [Oper.stillUpon] at hh
    case enter f args =>
      obtain ⟨rfl, v, hc, hn⟩ := hh
      refine And.intro (fun h => ?_) (CallsIn.inRound l ((callsIn_wide.2 hc).mono ?_))
      · simp [Fence.wide] at h
      · intro e w'' he
        obtain ⟨e1, e2⟩ := he
        subst e1
        subst e2
        exact h _ hn
    all_goals (obtain ⟨rfl, h2⟩ := hh; exact h _ h2)
  | halt x w' => simp only [Oper.stillUpon] at hh
theorem still_op {w : World} {i : Nat} {a : Act} {K : Act → Prop} {K' : Act → World → Prop} {Q' : Exit → Act → World → Prop} (hd : ∀ (j : Nat) (o : Oper), ops[j]? = some o → ∀ c, o.op ≠ .defer c) (h : ∀ a, K a → K' a w) (hh : stOp P ops w i K a) :
    wpOpIn (Fence.wide.inRound l) d P ops Q' i K' a w := by
  unfold stOp at hh
  unfold wpOpIn
  split
  · rename_i ho; simp only [ho] at hh; exact h _ hh
  · rename_i o ho
    simp only [ho] at hh
    split
    · rename_i hw; simp only [hw, if_true] at hh; exact still_oper (hd _ _ ho) h hh
    · rename_i hw; simp only [hw] at hh; exact ⟨fun _ _ => trivial, h _ hh⟩
theorem still_head {w : World} {n g : Nat} {L : Array Bool → Act → Prop} {Q' : Exit → Act → World → Prop} (hd : ∀ (j : Nat) (o : Oper), ops[j]? = some o → ∀ c, o.op ≠ .defer c)
    (hL : ∀ listed a, L listed a → wpAnyIn (Fence.wide.inRound l) d P md ops Q' g listed a w) :
    ∀ (f : Nat) (listed : Array Bool) (a : Act), wpAnyL P md ops w n L f listed a → wpAnyIn (Fence.wide.inRound l) d P md ops Q' (f + g) listed a w
  | 0, listed, a, h => by rw [Nat.zero_add]; exact hL _ _ h
  | f + 1, listed, a, h => by
    rw [show f + 1 + g = (f + g) + 1 by omega]
    exact ⟨fun h0 => absurd h0 h.1, fun i hi => still_op hd (fun a' h' => still_head hd hL f _ a' h') (h.2 i hi).2⟩
theorem seq_in {F : Fence} {Q' : Exit → Act → World → Prop} : ∀ (l0 : List Oper) (k : Nat) (listed : Array Bool) (a : Act) (w : World), (∀ j, l0[j]? = ops[k + j]?) →
    Region.seqB md ops l0.length k listed = true → wpListIn F d P ops Q' l0 a w → wpAnyIn F d P md ops Q' l0.length listed a w
  | [], _, _, _, _, _, hB, h => ⟨by simpa [Region.seqB] using hB, h⟩
  | o :: l0, k, listed, a, w, hl, hB, h => by
    have h0 : ops[k]? = some o := by simpa using (hl 0).symm
    simp only [List.length_cons, Region.seqB, Bool.and_eq_true, decide_eq_true_eq] at hB
    refine ⟨fun h1 => (by rw [hB.1] at h1; cases h1), fun i hi => ?_⟩
    rw [hB.1] at hi
    have hik : i = k := by simpa using hi
    subst hik
    have hw : wpOpIn F d P ops Q' i (wpListIn F d P ops Q' l0) a w := by unfold wpOpIn; simp only [h0]; exact h
    exact wpOpIn_mono (fun a' w' h' => seq_in l0 (i + 1) _ a' w' (fun j => by have := hl (j + 1); simpa [Nat.add_assoc, Nat.add_comm 1 j] using this) hB.2 h') hw
/-- No operation defers. -/
def noDefer (l0 : List Oper) : Bool := l0.all fun o => match o.op with | .defer _ => false | _ => true
theorem noDefer_spec {l0 : List Oper} (h : noDefer l0 = true) : ∀ (j : Nat) (o : Oper), l0.toArray[j]? = some o → ∀ c, o.op ≠ .defer c := fun j o ho c e => by
  have hm : o ∈ l0 := List.mem_of_getElem? (by simpa using ho)
  have := List.all_eq_true.1 h o hm
  simp only [e] at this
  cases this
/-- Behind the head each operation waits for one of the tail ahead of it. -/
def tailB (md : Region.Mode) (ops : Array Oper) (n : Nat) : Bool :=
  (List.range ops.size).all fun t => decide (t ≤ n) || (List.range t).any fun j => decide (n ≤ j) && Region.waitsFor md ops t j
theorem tail_sleeps {n : Nat} {listed : Array Bool} (hs : Region.sinkB md ops n = true) (hc : tailB md ops n = true) (hn : n < ops.size) (inv : HeadInv md ops n listed) {i : Nat} (hi : i < n) (hun : listed.getD i true = false) : ∀ t, n ≤ t → t ∉ Region.ready md ops listed := by
  intro t ht hr
  obtain ⟨_, ot, hot, hall⟩ := mem_ready.1 hr
  have need : ∀ j, Region.waitsFor md ops t j = true → listed.getD j false = true := fun j hj => by
    obtain ⟨o', ho', e, he, hb, rfl⟩ := Region.waitsFor_spec hj
    obtain rfl : o' = ot := Option.some.inj (ho'.symm.trans hot)
    exact hall e he hb
  by_cases htn : t = n
  · subst htn
    have down : ∀ m k, t - k = m → k < t → listed.getD k true = false → False := by
      intro m
      induction m using Nat.strongRecOn with
      | _ m ih =>
        intro k hm hk hun
        obtain ⟨j, hj, hj2⟩ := List.any_eq_true.1 (List.all_eq_true.1 hs k (List.mem_range.2 hk))
        simp only [Bool.and_eq_true, decide_eq_true_eq] at hj2
        have hjle := List.mem_range.1 hj
        by_cases hjt : j = t
        · subst hjt
          have := need k hj2.2
          rw [getD_both hun] at this
          cases this
        · obtain ⟨oj, hoj, e, he, hb, rfl⟩ := Region.waitsFor_spec hj2.2
          refine ih (t - j) (by omega) j rfl (by omega) ?_
          cases hl : listed.getD j false with
          | false => exact getD_in (by rw [inv.size]; omega) hl
          | true =>
            have := inv.closed j oj hoj hl e he hb
            rw [getD_both hun] at this
            cases this
    exact down _ i rfl hi hun
  · have htlt : t < ops.size := (Array.getElem?_eq_some_iff.1 hot).1
    have h1 := List.all_eq_true.1 hc t (List.mem_range.2 htlt)
    rcases (Bool.or_eq_true _ _).mp h1 with h1 | h1
    · have := of_decide_eq_true h1; omega
    · obtain ⟨j, hj, hj2⟩ := List.any_eq_true.1 h1
      simp only [Bool.and_eq_true, decide_eq_true_eq] at hj2
      have hjt := List.mem_range.1 hj
      have := need j hj2.2
      rw [getD_both (inv.tail j hj2.1 (by omega))] at this
      cases this
theorem head_first {w : World} {n i : Nat} {oi : Oper} {v : Value} {L : Array Bool → Act → Prop} (hi : ops[i]? = some oi) (hsel : ∀ (j : Nat) (o : Oper) cs b, ops[j]? = some o → o.op ≠ .select cs b)
    (hs : Region.sinkB md ops n = true) (hc : tailB md ops n = true) (hn : n < ops.size) (hin : i < n) (hdone : ∀ listed a, L listed a → ∀ j ∈ Region.ready md ops listed, n ≤ j) :
    ∀ (f : Nat) (listed : Array Bool) (a : Act), HeadInv md ops n listed →
      (∀ j oj, ops[j]? = some oj → j ≠ i → listed.getD j true = false → (∀ e ∈ oj.after, Region.binds md e = true → e.on ≠ i) → oi.apart ops oj = true) →
      i ∈ Region.ready md ops listed → YieldsAt P ops w oi v a → wpAnyL P md ops w n L f (listed.setIfInBounds i true) (a.put oi.dst v) → wpAnyL P md ops w n L (f + 1) listed a := by
  intro f
  induction f with
  | zero =>
    intro listed a inv _ hr hy H
    have hun := (mem_ready.1 hr).1
    refine ⟨List.ne_nil_of_mem hr, fun j hj => ?_⟩
    have hjn : j < n := Nat.lt_of_not_le fun h => tail_sleeps hs hc hn inv hin hun j h hj
    refine ⟨hjn, ?_⟩
    by_cases hji : j = i
    · rw [hji]; exact hy.stOp hi H
    · exact absurd (hdone _ _ H j (ready_mono hj hji)) (by omega)
  | succ f ih =>
    intro listed a inv hfree hr hy H
    have hun := (mem_ready.1 hr).1
    refine ⟨List.ne_nil_of_mem hr, fun j hj => ?_⟩
    have hjn : j < n := Nat.lt_of_not_le fun h => tail_sleeps hs hc hn inv hin hun j h hj
    refine ⟨hjn, ?_⟩
    by_cases hji : j = i
    · rw [hji]; exact hy.stOp hi H
    · obtain ⟨hjun, oj, hoj, hall⟩ := mem_ready.1 hj
      have hnot : ∀ e ∈ oj.after, Region.binds md e = true → e.on ≠ i := fun e he hb heq => by
        have := hall e he hb
        rw [heq, getD_both hun] at this
        cases this
      have h2 := stOp_put hoj (hfree j oj hoj hji hjun hnot) (fun cs b => hsel i oi cs b hi) (fun cs b => hsel j oj cs b hoj) hy (H.2 j (ready_mono hj hji)).2
      refine stOp_mono (fun a' h3 => ih (listed.setIfInBounds j true) a' (inv.set hj hjn) (fun k ok hk hki hk2 hno => hfree k ok hk hki ?_ hno) (ready_mono hr (Ne.symm hji)) h3.1 ?_) h2
      · by_cases hjk : j = k
        · rw [← hjk]; exact hjun
        · rwa [getD_set_ne true hjk] at hk2
      · rw [Array.setIfInBounds_comm _ _ hji]
        exact h3.2
/-- The head in the text's order leads to a state in which only the tail's first may come. -/
def headB (md : Region.Mode) (ops : Array Oper) (n : Nat) : Nat → Nat → Array Bool → Bool
  | 0, _, listed => decide (Region.ready md ops listed = [n])
  | f + 1, k, listed => (Region.ready md ops listed).contains k && Region.free md ops listed k && headB md ops n f (k + 1) (listed.setIfInBounds k true)
def setTo (listed : Array Bool) : Nat → Nat → Array Bool
  | 0, _ => listed
  | f + 1, k => setTo (listed.setIfInBounds k true) f (k + 1)
theorem head_lex {w : World} {n : Nat} {Lq : Act → Prop} (hsel : Region.noSelect ops = true) (hs : Region.sinkB md ops n = true) (hc : tailB md ops n = true) (hn : n < ops.size) :
    ∀ (l0 : List Oper) (k : Nat) (listed : Array Bool) (a : Act), (∀ j, j < l0.length → l0[j]? = ops[k + j]?) → k + l0.length = n → HeadInv md ops n listed →
    headB md ops n l0.length k listed = true → wpStill P ops w Lq l0 a → wpAnyL P md ops w n (fun listed' a' => (Region.ready md ops listed' = [n] ∧ listed' = setTo listed l0.length k) ∧ Lq a') l0.length listed a
  | [], k, listed, a, _, hk, _, hB, h => ⟨⟨of_decide_eq_true hB, rfl⟩, h⟩
  | o :: l0, k, listed, a, hl, hk, inv, hB, h => by
    have h0 : ops[k]? = some o := by simpa using (hl 0 (by simp)).symm
    simp only [List.length_cons, headB, Bool.and_eq_true] at hB
    obtain ⟨⟨hr, hf⟩, hB'⟩ := hB
    have hkn : k < n := by simp only [List.length_cons] at hk; omega
    have hr' : k ∈ Region.ready md ops listed := by simpa using hr
    have hst : stOp P ops w k (wpStill P ops w Lq l0) a := by unfold stOp; simp only [h0]; exact h
    obtain ⟨v, hy, hK⟩ := yieldsAt_of_stOp h0 hst
    refine head_first h0 (Region.noSelect_spec hsel) hs hc hn hkn (fun listed' a' hL j hj => ?_) l0.length listed a inv (Region.free_spec h0 hf) hr' hy
      (head_lex hsel hs hc hn l0 (k + 1) _ _ (fun j hj => by have := hl (j + 1) (by simp; omega); simpa [Nat.add_assoc, Nat.add_comm 1 j] using this) (by simp only [List.length_cons] at hk; omega) (inv.set hr' hkn) hB' hK)
    rw [hL.1.1] at hj
    simp at hj
    omega
theorem region_head_in {id : Nat} {Q : Exit → Act → World → Prop} {a : Act} {w : World} {l0 : List Oper} (n : Nat) (hm : P.follows .mixedOrders = true) (hsel : Region.noSelect l0.toArray = true) (hn : n < l0.toArray.size) (hs : Region.sinkB .any l0.toArray n = true) (hc : tailB .any l0.toArray n = true)
    (hB : headB .any l0.toArray n n 0 (Array.replicate l0.toArray.size false) = true) (hnd : noDefer l0 = true)
    (h : wpStill P l0.toArray w.drew (fun a' => wpAnyIn (Fence.wide.inRound l) d P .any l0.toArray Q (l0.toArray.size - n) (setTo (Array.replicate l0.toArray.size false) n 0) a' w.drew) (l0.take n) a) : (Code.region id l0.toArray true).wpIn (Fence.wide.inRound l) d P Q a w := by
  have hn' : n < l0.length := by simpa using hn
  have htl : (l0.take n).length = n := by simp; omega
  have inv0 : HeadInv .any l0.toArray n (Array.replicate l0.toArray.size false) :=
    ⟨by simp, fun j oj _ hl => (by rw [getD_replicate_false] at hl; cases hl), fun t _ ht => getD_in (by simpa using ht) (getD_replicate_false _ _)⟩
  have H := head_lex (md := .any) hsel hs hc hn (l0.take n) 0 _ a (fun j hj => by
    have hj' : j < n := by rw [htl] at hj; exact hj
    simp [hj']) (by simpa using htl) inv0 (by rw [htl]; exact hB) h
  refine wpIn_region_any hm ?_
  have := still_head (l := l) (d := d) (Q' := Q) (g := l0.toArray.size - n) (noDefer_spec hnd) (fun listed a' hL => by
    rw [hL.1.2, htl]
    exact hL.2) _ _ _ H
  rw [htl, show n + (l0.toArray.size - n) = l0.toArray.size by omega] at this
  exact this
theorem region_still_tail_in {id : Nat} {Q : Exit → Act → World → Prop} {a : Act} {w : World} {l0 : List Oper} (n : Nat) (hm : P.follows .mixedOrders = true) (hB : Region.lexTailB .any l0.toArray n = true) (hnd : noDefer l0 = true)
    (h : wpStill P l0.toArray w.drew (fun a' => wpListIn (Fence.wide.inRound l) d P l0.toArray Q (l0.drop n) a' w.drew) (l0.take n) a) : (Code.region id l0.toArray true).wpIn (Fence.wide.inRound l) d P Q a w := by
  simp only [Region.lexTailB, Bool.and_eq_true, decide_eq_true_eq] at hB
  obtain ⟨⟨⟨⟨hsel, hn⟩, hs⟩, hc⟩, hlex⟩ := hB
  have hn' : n < l0.length := by simpa using hn
  have htl : (l0.take n).length = n := by simp; omega
  have hdl : (l0.drop n).length = l0.toArray.size - n := by simp
  have inv0 : HeadInv .any l0.toArray n (Array.replicate l0.toArray.size false) :=
    ⟨by simp, fun j oj _ hl => (by rw [getD_replicate_false] at hl; cases hl), fun t _ ht => getD_in (by simpa using ht) (getD_replicate_false _ _)⟩
  have H := wpAnyL_lex (md := .any) (g := l0.toArray.size - n) hsel hs hc hn (l0.take n) 0 _ a (fun j hj => by
    have hj' : j < n := by rw [htl] at hj; exact hj
    simp [hj']) (by simpa using htl) inv0 (by rw [htl]; exact hlex) h
  refine wpIn_region_any hm ?_
  have := still_head (l := l) (d := d) (Q' := Q) (g := l0.toArray.size - n) (noDefer_spec hnd) (fun listed a' hL => by
    have := seq_in (F := Fence.wide.inRound l) (d := d) (md := .any) (Q' := Q) (l0.drop n) n listed a' w.drew (fun j => by simp [List.getElem?_drop]) (by rw [hdl]; exact hL.1) hL.2
    rwa [hdl] at this) _ _ _ H
  rw [htl, show n + (l0.toArray.size - n) = l0.toArray.size by omega] at this
  exact this
end
end Go.Proofs.YticoaioeeppapaaGreatDoor
end
