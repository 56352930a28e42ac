import Derived.Test.YtnkkaggepokjeaaDoorLead
import Derived.RangeFuncNested
import Derived.RangeFuncBound
import Derived.RangeFuncCalls
import Derived.RangeFuncLeaves
import Derived.Shelf.Abstract
import Derived.Shelf.RegionOpen
import Derived.OwnWalkIn
import Derived.TacticsInMore
import Derived.LoopNIn
import Derived.LoopIn
import Derived.Test.YtnkkaggepokjeaaDoorElSt
import Derived.Test.YtnkkaggepokjeaaDoorElH
import Derived.StillTailTactics
import Derived.OrdersIn
import Derived.Test.YtnkkaggepokjeaaDoorJoinA
import Derived.Maps.AppendAt
import Derived.StillTactics
import Derived.Test.YtnkkaggepokjeaaDoorElI

section
/- Loops over slices.Backward: what is the same for every kind of element. -/
namespace Go.Proofs.YtnkkaggepokjeaaDoor
open Go.RowKit Go.Extern.Stop Go.Stop Go.Extern

theorem grown_drew {a b : World} {row : Option Nat} (h : a.grownBy b row) : a.grownBy b.drew row := ⟨h.os, h.tape, h.output, h.size, h.block⟩

/-- The places that have come when k rounds are over. -/
def dnN (N k : Nat) : List Nat := (List.range k).map fun j => N - 1 - j
theorem dnN_succ (N k : Nat) : dnN N (k + 1) = dnN N k ++ [N - 1 - k] := by unfold dnN; rw [List.range_succ, List.map_append]; rfl
theorem dnN_length (N k : Nat) : (dnN N k).length = k := by simp [dnN]

/-- What a round keeps for the iterator: the box of the slice, and the slice's own cells. -/
def KpB (Bs S : Nat) (W W' : World) : Prop := W'.heap[Bs]? = W.heap[Bs]? ∧ W'.heap[S]? = W.heap[S]?
theorem KpB.refl (Bs S : Nat) (W : World) : KpB Bs S W W := ⟨rfl, rfl⟩
theorem KpB.trans {Bs S : Nat} {A B C : World} (h : KpB Bs S A B) (k : KpB Bs S B C) : KpB Bs S A C := ⟨k.1.trans h.1, k.2.trans h.2⟩
theorem KpB.book {Bs S : Nat} {w : World} (h1 : Bs < w.heap.size) (h2 : S < w.heap.size) (W : World) (l : Nat) (o o' : Obj) (hl : w.heap.size ≤ l) (_ : W.heap[l]? = some o) (_ : o.isCells = false) (_ : o.isWalk = false) : KpB Bs S W (W.putObj l o') :=
  ⟨World.putObj_heap_other (by omega), World.putObj_heap_other (by omega)⟩

section
variable {w w' W : World}
/-- What the call owns is kept by the book-keeping of a loop over a function. -/
theorem own_bare {base q : Nat} {e : TypeId} {v : Value} {xs : List Value} {row : Option Nat} (h : w.ownsRow base e 1 v q xs) (hg : w.grownBy w' row) (hr : ∀ r, row = some r → ∃ o : Obj, w.heap[r]? = some o ∧ o.isCells = false) : w'.ownsRow base e 1 v q xs := by
  refine h.kept hg ?_
  rcases h.2 with ⟨rfl, _⟩ | ⟨g, cap, cur, rfl, _, hgb, _⟩
  · exact .inl rfl
  · refine .inr fun e' => ?_
    obtain ⟨o, ho, hc⟩ := hr g (by simpa [Value.ownBlock] using e'.symm)
    rw [hgb] at ho; cases ho; cases hc
theorem boxed_bare {b : Nat} {t : TypeId} {v : Value} {row : Option Nat} (h : Boxed w b t v) (hg : w.grownBy w' row) (hr : ∀ r, row = some r → ∃ o : Obj, w.heap[r]? = some o ∧ o.isCells = false) : Boxed w' b t v :=
  h.kept hg (fun e' => by obtain ⟨o, ho, hc⟩ := hr b e'.symm; rw [show w.heap[b]? = _ from h] at ho; cases ho; cases hc)
end
theorem good_snoc {n : Nat} {pre : List (Fin n)} {x : Fin n} (h : (pre ++ [x]).map (·.1) = dnN n (pre ++ [x]).length) : pre.map (·.1) = dnN n pre.length ∧ x.1 = n - 1 - pre.length := by
  rw [List.map_append, List.length_append] at h
  have e : dnN n (pre.length + [x].length) = dnN n pre.length ++ [n - 1 - pre.length] := dnN_succ n pre.length
  rw [e] at h
  obtain ⟨h1, h2⟩ := List.append_inj' h rfl
  exact ⟨h1, by simpa using h2⟩
end Go.Proofs.YtnkkaggepokjeaaDoor
end

section
/- The values from the last one back, no program: a kept equation, and the values behind its least column. -/
namespace Go.Proofs.YtnkkaggepokjeaaDoor

theorem byteAt_lt (v : Nat → Bool) (q : Nat) : byteAt v q < 256 := by
  unfold byteAt
  simp only [List.range_succ, List.range_zero, List.nil_append, List.foldl_append, List.foldl_cons, List.foldl_nil]
  split <;> split <;> split <;> split <;> split <;> split <;> split <;> split <;> omega
theorem byteAt_bit (v : Nat → Bool) (q : Nat) {b : Nat} (hb : b < 8) : (byteAt v q).testBit b = v (q + b) := by
  have h : ∀ x : Fin 256, byteAt (fun j => x.val.testBit j) 0 = x.val := by decide +kernel
  have e : byteAt v q = byteAt (fun j => v (q + j)) 0 := by unfold byteAt; simp
  have key : ∀ b0 b1 b2 b3 b4 b5 b6 b7 : Bool, ∀ t : Fin 8, (byteAt (fun j => [b0, b1, b2, b3, b4, b5, b6, b7].getD j false) 0).testBit t.val = [b0, b1, b2, b3, b4, b5, b6, b7].getD t.val false := by decide +kernel
  have e2 : byteAt (fun j => v (q + j)) 0 = byteAt (fun j => [v (q + 0), v (q + 1), v (q + 2), v (q + 3), v (q + 4), v (q + 5), v (q + 6), v (q + 7)].getD j false) 0 := by unfold byteAt; simp [List.range_succ]
  rw [e, e2, key _ _ _ _ _ _ _ _ ⟨b, hb⟩]
  match b, hb with
  | 0, _ => rfl
  | 1, _ => rfl
  | 2, _ => rfl
  | 3, _ => rfl
  | 4, _ => rfl
  | 5, _ => rfl
  | 6, _ => rfl
  | 7, _ => rfl
theorem symV_length (n size : Nat) (v : Vec) : (symV n size v).length = size := by simp [symV]
theorem symV_getD {n size i : Nat} (v : Vec) (h : i < size) : (symV n size v).getD i 0 = byteAt v (n + 8 * i) := by simp [symV, List.getD_eq_getElem?_getD, h]
theorem symV_octets (n size : Nat) (v : Vec) : Octets (symV n size v) := fun x hx => by
  obtain ⟨i, _, rfl⟩ := List.mem_map.1 hx
  exact byteAt_lt _ _
theorem symV_add (n size : Nat) (u v : Vec) : symV n size (vadd u v) = xorW (symV n size u) (symV n size v) := by
  have hl : (symV n size u).length = (symV n size v).length := by rw [symV_length, symV_length]
  apply ext_getD (by rw [xorW_length hl, symV_length, symV_length])
  intro i hi
  rw [symV_length] at hi
  rw [xorW_getD hl, symV_getD _ hi, symV_getD _ hi, symV_getD _ hi]
  apply Nat.eq_of_testBit_eq
  intro b
  by_cases hb : b < 8
  · rw [Nat.testBit_xor, byteAt_bit _ _ hb, byteAt_bit _ _ hb, byteAt_bit _ _ hb]; rfl
  · have big : ∀ x : Nat, x < 256 → x.testBit b = false := fun x hx => Nat.testBit_lt_two_pow (Nat.lt_of_lt_of_le hx (Nat.pow_le_pow_right (n := 2) (by decide) (show 8 ≤ b by omega)))
    rw [Nat.testBit_xor, big _ (byteAt_lt _ _), big _ (byteAt_lt _ _), big _ (byteAt_lt _ _)]; rfl

/-- From the least column on, as far as a column. -/
theorem back_to {n size c : Nat} {K : List Vec} {q : Eqn} {V : List (List Nat)} (hq : EqOk n size q) (hl : Lead (bitW q.1) c) (hc : c < n) (hK : Sp K (longV q.1 q.2 n)) (hV : V.getD c [] = q.2)
    (hv : ∀ d, c < d → d < n → ∃ x, ValV n K d x ∧ V.getD d [] = symV n size x) : ∀ m, c + 1 + m ≤ n → ∃ y, Sp K y ∧ (∀ d, d < n → y d = if d = c then true else if d < c + 1 + m then false else bitW q.1 d) ∧ sumS size (pickTo q.1 V (c + 1 + m)) = symV n size y
  | 0, _ => by
    refine ⟨longV q.1 q.2 n, hK, fun d hd => ?_, ?_⟩
    · rw [longV_row hd]
      by_cases e : d = c
      · rw [if_pos e, e]; exact hl.1
      · rw [if_neg e]
        by_cases e2 : d < c + 1 + 0
        · rw [if_pos e2]; exact hl.2 d (by omega)
        · rw [if_neg e2]
    · have hz : ∀ k, k ≤ c → pickTo q.1 V k = [] := by
        intro k
        induction k with
        | zero => intro _; rfl
        | succ k ih => intro hk; rw [pickTo_out (hl.2 k (by omega)), ih (by omega)]
      rw [Nat.add_zero, pickTo_in hl.1, hz c (Nat.le_refl _), hV, List.nil_append, sumS_one hq.2.2.2.1]
      have := symV_long (row := q.1) (n := n) hq.2.2.2.2
      rw [hq.2.2.2.1] at this
      exact this.symm
  | m + 1, hm => by
    obtain ⟨y, h1, h2, h3⟩ := back_to hq hl hc hK hV hv m (by omega)
    cases hb : bitW q.1 (c + 1 + m) with
    | false =>
      refine ⟨y, h1, fun d hd => ?_, by rw [show c + 1 + (m + 1) = c + 1 + m + 1 by omega, pickTo_out hb]; exact h3⟩
      rw [h2 d hd]
      by_cases e : d = c
      · rw [if_pos e, if_pos e]
      · rw [if_neg e, if_neg e]
        by_cases e2 : d < c + 1 + m
        · rw [if_pos e2, if_pos (by omega)]
        · rw [if_neg e2]
          by_cases e3 : d = c + 1 + m
          · rw [if_pos (by omega), e3, hb]
          · rw [if_neg (by omega)]
    | true =>
      obtain ⟨x, hx, hxV⟩ := hv (c + 1 + m) (by omega) (by omega)
      refine ⟨vadd y x, h1.add hx.1, fun d hd => ?_, ?_⟩
      · have hxd : x d = unitV (c + 1 + m) d := by
          have := congrFun hx.2 d
          rwa [proj_low hd] at this
        simp only [vadd, h2 d hd, hxd, unitV]
        by_cases e : d = c
        · rw [if_pos e, if_pos e, decide_eq_false (by omega)]; rfl
        · rw [if_neg e, if_neg e]
          by_cases e2 : d < c + 1 + m
          · rw [if_pos e2, if_pos (by omega), decide_eq_false (by omega)]; rfl
          · rw [if_neg e2]
            by_cases e3 : d = c + 1 + m
            · rw [if_pos (by omega), e3, hb]; simp
            · rw [if_neg (by omega), decide_eq_false e3]; simp
      · rw [show c + 1 + (m + 1) = c + 1 + m + 1 by omega, pickTo_in hb, sumS_snoc (by rw [hxV, symV_length]), h3, hxV, symV_add]
theorem back_val {n size c : Nat} {K : List Vec} {q : Eqn} {V : List (List Nat)} (hq : EqOk n size q) (hl : Lead (bitW q.1) c) (hc : c < n) (hK : Sp K (longV q.1 q.2 n)) (hV : V.getD c [] = q.2)
    (hv : ∀ d, c < d → d < n → ∃ x, ValV n K d x ∧ V.getD d [] = symV n size x) : ∃ x, ValV n K c x ∧ sumS size (pickTo q.1 V n) = symV n size x := by
  obtain ⟨y, h1, h2, h3⟩ := back_to hq hl hc hK hV hv (n - (c + 1)) (by omega)
  rw [show c + 1 + (n - (c + 1)) = n by omega] at h3
  refine ⟨y, ⟨h1, ?_⟩, h3⟩
  funext d
  unfold proj unitV
  by_cases hd : d < n
  · rw [if_pos hd, h2 d hd]
    by_cases e : d = c
    · rw [if_pos e, decide_eq_true e]
    · rw [if_neg e, if_pos (by omega), decide_eq_false e]
  · rw [if_neg hd, decide_eq_false (by omega)]
end Go.Proofs.YtnkkaggepokjeaaDoor
end

section
/- Package elim: slices.Backward at equations: what a loop over it is handed. -/
namespace Go.Proofs.YtnkkaggepokjeaaDoor
open Go.RowKit Go.Extern.Stop Go.Stop Go.Extern

section
open Go.Shelf
attribute [local go_sem] Oper.semAt_some

set_option maxRecDepth 100000 in
set_option maxHeartbeats 2000000 in
theorem backE1_in (F : Fence) (n : Nat) (hf : F.fn 71) (hro : F.round = none) (_hn : 1 ≤ n) (l Bs S N : Nat) (rv sv : Nat → Value) (hN : N ≤ 100000) (J Jx : List (Fin N) → World → Prop)
    (hY : ∀ pre x W, J pre W → pre.length < N → YieldAt F (n - 1) Tryd.prog l #[.int .i64 (x.1 : Int), .agg #[rv x.1, sv x.1]] W fun e W' =>
      (e = .returned (.bool true) ∧ J (pre ++ [x]) W' ∧ KpB Bs S W W') ∨ (e = .returned (.bool false) ∧ Jx (pre ++ [x]) W'))
    (W : World) (hBs : W.cell? ⟨Bs, 0, none⟩ = some (.slice (some ⟨S, 0, none⟩) N N)) (hc : ∀ j, j < N → W.cell? ⟨S, j * 2, none⟩ = some (rv j) ∧ W.cell? ⟨S, j * 2 + 1, none⟩ = some (sv j)) (h0 : J [] W) :
    CallsIn F n Tryd.prog 71 #[.func (.yield l) #[] #[], .pointer (some ⟨Bs, 0, none⟩)] W fun e W' => (∃ v, e = .returned v) ∧
      ((∃ ys : List (Fin N), ys.map (·.1) = dnN N N ∧ J ys W') ∨ (∃ pre : List (Fin N), (∃ k, k ≤ N ∧ pre.map (·.1) = dnN N k) ∧ Jx pre W')) := by
  have HC := Lib.hid hc
  have HB := Lib.hid hBs
  clear hc
  refine callsIn_of_wp Tryd.func71 rfl hf ?_ hro
  simp only [Tryd.ntmps71, List.size_toArray, List.length_cons, List.length_nil, Nat.reduceAdd, Nat.reduceSub, Array.replicate_succ, Array.replicate_zero, List.push_toArray, List.append_toArray, List.nil_append, List.cons_append]
  gi_wp2
  gi_loopw [3] (fun i wr => ∃ (m : Nat) (z : Int) (pre : List (Fin N)), m ≤ N ∧ i = .int .i64 z ∧ z = (m : Int) - 1 ∧ pre.map (·.1) = dnN N (N - m) ∧ J pre wr ∧ KpB Bs S W wr) (fun i _ => (intOf i + 1).toNat)
  case atStart => exact ⟨N, _, [], Nat.le_refl _, rfl, by omega, by rw [Nat.sub_self]; rfl, h0, KpB.refl _ _ _⟩
  case round =>
    obtain ⟨m, z, pre, hm, rfl, hz, hpre, hJs, hk⟩ := hrel
    have HK := Lib.hid hk
    have HP := Lib.hid hpre
    have hpl : pre.length = N - m := by rw [← List.length_map (f := fun x : Fin N => x.1), hpre, dnN_length]
    cases m with
    | zero =>
      have hz1 : z = -1 := by omega
      subst hz1
      have HJ : Hid (J pre wr) := Lib.hid hJs
      clear hJs hk hz hBs hpre hpl
      gi_wp2
      go_end0
      exact ⟨⟨_, rfl⟩, .inl ⟨pre, HP.out, HJ.out⟩⟩
    | succ q =>
      have hz1 : z = (q : Int) := by omega
      subst hz1
      have eq : N - 1 - (N - (q + 1)) = q := by omega
      have hcb : wr.cell? ⟨Bs, 0, none⟩ = some (.slice (some ⟨S, 0, none⟩) N N) := (World.cell?_of_block (w := W) (a := ⟨Bs, 0, none⟩) hk.1).trans HB.out
      have hcs : wr.cell? ⟨S, q * 2, none⟩ = some (rv q) := (World.cell?_of_block (w := W) (a := ⟨S, q * 2, none⟩) hk.2).trans (HC.out q (by omega)).1
      have hcs2 : wr.cell? ⟨S, q * 2 + 1, none⟩ = some (sv q) := (World.cell?_of_block (w := W) (a := ⟨S, q * 2 + 1, none⟩) hk.2).trans (HC.out q (by omega)).2
      have hq : q < N := by omega
      have HP2 : Hid ((pre ++ [(⟨q, hq⟩ : Fin N)]).map (fun x : Fin N => x.1) = dnN N (N - q)) := Lib.hid (by
        have := dnN_succ N (N - (q + 1))
        rw [eq] at this
        rw [List.map_append, hpre, show N - q = N - (q + 1) + 1 by omega, this]
        rfl)
      obtain ⟨fn, tmps, assign, body, hy, hR⟩ := hY _ ⟨q, hq⟩ wr hJs (by omega)
      dsimp only at hy
      clear hJs hk hz eq hBs hpre hpl
      generalize rv q = vq at *
      generalize sv q = uq at *
      gi_wp2
      refine hR.mono ?_
      rintro e W3 (⟨rfl, hJ3, hk3⟩ | ⟨rfl, hJx3⟩)
      · have HJ3 := Lib.hid hJ3
        have HK3 := Lib.hid (HK.out.trans hk3)
        clear hJ3 hk3
        gi_wp2
        go_roundw
        case rel => exact ⟨q, (q : Int) - 1, _, by omega, rfl, rfl, HP2.out, HJ3.out, HK3.out⟩
        case measure => simp [intOf]
      · have HJ3 := Lib.hid hJx3
        clear hJx3
        gi_wp2
        refine bodyPost_ret (results_none rfl _ _ _) rfl ?_
        exact ⟨⟨_, rfl⟩, .inr ⟨_, ⟨N - q, by omega, HP2.out⟩, HJ3.out⟩⟩

set_option maxHeartbeats 1000000 in
theorem backE_in (F : Fence) (n : Nat) (hf : F.fn 46) (hro : F.round = none) (a : Option Addr) (len cap : Nat) (w : World) :
    CallsIn F n Tryd.prog 46 #[.slice a len cap] w fun e w' => e = .returned (.func (.func 71) #[] #[.pointer (some ⟨w.heap.size, 0, none⟩)]) ∧ w' = w.alloc (.cells #[.slice a len cap] 72) := by
  refine callsIn_of_wp Tryd.func46 rfl hf ?_ hro
  simp only [Tryd.ntmps46, List.size_toArray, List.length_cons, List.length_nil, Nat.reduceAdd, Nat.reduceSub, Array.replicate_succ, Array.replicate_zero, List.push_toArray, List.append_toArray, List.nil_append, List.cons_append]
  gi_wp2
  go_ret
  exact ⟨rfl, rfl⟩

theorem backE_stops (F : Fence) (n : Nat) (hf : F.fn 71) (hro : F.round = none) (hn : 1 ≤ n) (Bs S N : Nat) (rv sv : Nat → Value) (hN : N ≤ 100000) (w : World) (h1 : Bs < w.heap.size) (h2 : S < w.heap.size)
    (hBs : w.cell? ⟨Bs, 0, none⟩ = some (.slice (some ⟨S, 0, none⟩) N N)) (hc : ∀ j, j < N → w.cell? ⟨S, j * 2, none⟩ = some (rv j) ∧ w.cell? ⟨S, j * 2 + 1, none⟩ = some (sv j)) :
    SeqStopsK F n Tryd.prog 71 #[.pointer (some ⟨Bs, 0, none⟩)] (fun x : Fin N => #[Value.int .i64 (x.1 : Int), .agg #[rv x.1, sv x.1]]) (KpB Bs S) (fun ys => ys.map (·.1) = dnN N N) (fun pre => ∃ k, k ≤ N ∧ pre.map (·.1) = dnN N k) N w := fun l J Jx W hW _ _ hY h0 =>
  backE1_in F n hf hro hn l Bs S N rv sv hN J Jx hY W ((hW.cell (p := ⟨Bs, 0, none⟩) h1).trans hBs) (fun j hj => ⟨(hW.cell (p := ⟨S, j * 2, none⟩) h2).trans (hc j hj).1, (hW.cell (p := ⟨S, j * 2 + 1, none⟩) h2).trans (hc j hj).2⟩) h0
end
end Go.Proofs.YtnkkaggepokjeaaDoor
end

section
/- A region that draws, within a round of a loop over a function: what only reads goes first, in whatever order; the chain behind it is walked once. -/
namespace Go.Proofs.YtnkkaggepokjeaaDoor
open Go

section
variable {P : Program} {ops : Array Oper} {md : Region.Mode} {l d : Nat}
theorem still_oper {w : World} {o : Oper} {a : Act} {K : Act → Prop} {K' : Act → World → Prop} {Q' : Exit → Act → World → Prop} (hd : ∀ c, o.op ≠ .defer c) (h : ∀ a, K a → K' a w) (hh : o.still P a w K) : o.wpIn (Fence.wide.inRound l) d P a w K' Q' := by
  refine ⟨fun _ _ => trivial, ?_⟩
  rw [show (Fence.wide.inRound l).round = some l from rfl, Oper.semAt_some l _ _ hd]
  unfold Oper.still at hh
  generalize (execOp a.eval o).run P w = r at *
  cases r with
  | ok x w' =>
    cases x <;> simp only [Oper.stillUpon] at hh
    case enter f args =>
      obtain ⟨rfl, v, hc, hn⟩ := hh
      refine And.intro (fun h => ?_) (CallsIn.inRound l ((callsIn_wide.2 hc).mono ?_))
      · simp [Fence.wide] at h
      · intro e w'' he
        obtain ⟨e1, e2⟩ := he
        subst e1
        subst e2
        exact h _ hn
    all_goals (obtain ⟨rfl, h2⟩ := hh; exact h _ h2)
  | halt x w' => simp only [Oper.stillUpon] at hh
theorem still_op {w : World} {i : Nat} {a : Act} {K : Act → Prop} {K' : Act → World → Prop} {Q' : Exit → Act → World → Prop} (hd : ∀ (j : Nat) (o : Oper), ops[j]? = some o → ∀ c, o.op ≠ .defer c) (h : ∀ a, K a → K' a w) (hh : stOp P ops w i K a) :
    wpOpIn (Fence.wide.inRound l) d P ops Q' i K' a w := by
  unfold stOp at hh
  unfold wpOpIn
  split
  · rename_i ho; simp only [ho] at hh; exact h _ hh
  · rename_i o ho
    simp only [ho] at hh
    split
    · rename_i hw; simp only [hw, if_true] at hh; exact still_oper (hd _ _ ho) h hh
    · rename_i hw; simp only [hw] at hh; exact ⟨fun _ _ => trivial, h _ hh⟩
theorem still_head {w : World} {n g : Nat} {L : Array Bool → Act → Prop} {Q' : Exit → Act → World → Prop} (hd : ∀ (j : Nat) (o : Oper), ops[j]? = some o → ∀ c, o.op ≠ .defer c)
    (hL : ∀ listed a, L listed a → wpAnyIn (Fence.wide.inRound l) d P md ops Q' g listed a w) :
    ∀ (f : Nat) (listed : Array Bool) (a : Act), wpAnyL P md ops w n L f listed a → wpAnyIn (Fence.wide.inRound l) d P md ops Q' (f + g) listed a w
  | 0, listed, a, h => by rw [Nat.zero_add]; exact hL _ _ h
  | f + 1, listed, a, h => by
    rw [show f + 1 + g = (f + g) + 1 by omega]
    exact ⟨fun h0 => absurd h0 h.1, fun i hi => still_op hd (fun a' h' => still_head hd hL f _ a' h') (h.2 i hi).2⟩
theorem seq_in {F : Fence} {Q' : Exit → Act → World → Prop} : ∀ (l0 : List Oper) (k : Nat) (listed : Array Bool) (a : Act) (w : World), (∀ j, l0[j]? = ops[k + j]?) →
    Region.seqB md ops l0.length k listed = true → wpListIn F d P ops Q' l0 a w → wpAnyIn F d P md ops Q' l0.length listed a w
  | [], _, _, _, _, _, hB, h => ⟨by simpa [Region.seqB] using hB, h⟩
  | o :: l0, k, listed, a, w, hl, hB, h => by
    have h0 : ops[k]? = some o := by simpa using (hl 0).symm
    simp only [List.length_cons, Region.seqB, Bool.and_eq_true, decide_eq_true_eq] at hB
    refine ⟨fun h1 => (by rw [hB.1] at h1; cases h1), fun i hi => ?_⟩
    rw [hB.1] at hi
    have hik : i = k := by simpa using hi
    subst hik
    have hw : wpOpIn F d P ops Q' i (wpListIn F d P ops Q' l0) a w := by unfold wpOpIn; simp only [h0]; exact h
    exact wpOpIn_mono (fun a' w' h' => seq_in l0 (i + 1) _ a' w' (fun j => by have := hl (j + 1); simpa [Nat.add_assoc, Nat.add_comm 1 j] using this) hB.2 h') hw
/-- No operation defers. -/
def noDefer (l0 : List Oper) : Bool := l0.all fun o => match o.op with | .defer _ => false | _ => true
theorem noDefer_spec {l0 : List Oper} (h : noDefer l0 = true) : ∀ (j : Nat) (o : Oper), l0.toArray[j]? = some o → ∀ c, o.op ≠ .defer c := fun j o ho c e => by
  have hm : o ∈ l0 := List.mem_of_getElem? (by simpa using ho)
  have := List.all_eq_true.1 h o hm
  simp only [e] at this
  cases this
/-- Behind the head each operation waits for one of the tail ahead of it. -/
def tailB (md : Region.Mode) (ops : Array Oper) (n : Nat) : Bool :=
  (List.range ops.size).all fun t => decide (t ≤ n) || (List.range t).any fun j => decide (n ≤ j) && Region.waitsFor md ops t j
theorem tail_sleeps {n : Nat} {listed : Array Bool} (hs : Region.sinkB md ops n = true) (hc : tailB md ops n = true) (hn : n < ops.size) (inv : HeadInv md ops n listed) {i : Nat} (hi : i < n) (hun : listed.getD i true = false) : ∀ t, n ≤ t → t ∉ Region.ready md ops listed := by
  intro t ht hr
  obtain ⟨_, ot, hot, hall⟩ := mem_ready.1 hr
  have need : ∀ j, Region.waitsFor md ops t j = true → listed.getD j false = true := fun j hj => by
    obtain ⟨o', ho', e, he, hb, rfl⟩ := Region.waitsFor_spec hj
    obtain rfl : o' = ot := Option.some.inj (ho'.symm.trans hot)
    exact hall e he hb
  by_cases htn : t = n
  · subst htn
    have down : ∀ m k, t - k = m → k < t → listed.getD k true = false → False := by
      intro m
      induction m using Nat.strongRecOn with
      | _ m ih =>
        intro k hm hk hun
        obtain ⟨j, hj, hj2⟩ := List.any_eq_true.1 (List.all_eq_true.1 hs k (List.mem_range.2 hk))
        simp only [Bool.and_eq_true, decide_eq_true_eq] at hj2
        have hjle := List.mem_range.1 hj
        by_cases hjt : j = t
        · subst hjt
          have := need k hj2.2
          rw [getD_both hun] at this
          cases this
        · obtain ⟨oj, hoj, e, he, hb, rfl⟩ := Region.waitsFor_spec hj2.2
          refine ih (t - j) (by omega) j rfl (by omega) ?_
          cases hl : listed.getD j false with
          | false => exact getD_in (by rw [inv.size]; omega) hl
          | true =>
            have := inv.closed j oj hoj hl e he hb
            rw [getD_both hun] at this
            cases this
    exact down _ i rfl hi hun
  · have htlt : t < ops.size := (Array.getElem?_eq_some_iff.1 hot).1
    have h1 := List.all_eq_true.1 hc t (List.mem_range.2 htlt)
    rcases (Bool.or_eq_true _ _).mp h1 with h1 | h1
    · have := of_decide_eq_true h1; omega
    · obtain ⟨j, hj, hj2⟩ := List.any_eq_true.1 h1
      simp only [Bool.and_eq_true, decide_eq_true_eq] at hj2
      have hjt := List.mem_range.1 hj
      have := need j hj2.2
      rw [getD_both (inv.tail j hj2.1 (by omega))] at this
      cases this
theorem head_first {w : World} {n i : Nat} {oi : Oper} {v : Value} {L : Array Bool → Act → Prop} (hi : ops[i]? = some oi) (hsel : ∀ (j : Nat) (o : Oper) cs b, ops[j]? = some o → o.op ≠ .select cs b)
    (hs : Region.sinkB md ops n = true) (hc : tailB md ops n = true) (hn : n < ops.size) (hin : i < n) (hdone : ∀ listed a, L listed a → ∀ j ∈ Region.ready md ops listed, n ≤ j) :
    ∀ (f : Nat) (listed : Array Bool) (a : Act), HeadInv md ops n listed →
      (∀ j oj, ops[j]? = some oj → j ≠ i → listed.getD j true = false → (∀ e ∈ oj.after, Region.binds md e = true → e.on ≠ i) → oi.apart ops oj = true) →
      i ∈ Region.ready md ops listed → YieldsAt P ops w oi v a → wpAnyL P md ops w n L f (listed.setIfInBounds i true) (a.put oi.dst v) → wpAnyL P md ops w n L (f + 1) listed a := by
  intro f
  induction f with
  | zero =>
    intro listed a inv _ hr hy H
    have hun := (mem_ready.1 hr).1
    refine ⟨List.ne_nil_of_mem hr, fun j hj => ?_⟩
    have hjn : j < n := Nat.lt_of_not_le fun h => tail_sleeps hs hc hn inv hin hun j h hj
    refine ⟨hjn, ?_⟩
    by_cases hji : j = i
    · rw [hji]; exact hy.stOp hi H
    · exact absurd (hdone _ _ H j (ready_mono hj hji)) (by omega)
  | succ f ih =>
    intro listed a inv hfree hr hy H
    have hun := (mem_ready.1 hr).1
    refine ⟨List.ne_nil_of_mem hr, fun j hj => ?_⟩
    have hjn : j < n := Nat.lt_of_not_le fun h => tail_sleeps hs hc hn inv hin hun j h hj
    refine ⟨hjn, ?_⟩
    by_cases hji : j = i
    · rw [hji]; exact hy.stOp hi H
    · obtain ⟨hjun, oj, hoj, hall⟩ := mem_ready.1 hj
      have hnot : ∀ e ∈ oj.after, Region.binds md e = true → e.on ≠ i := fun e he hb heq => by
        have := hall e he hb
        rw [heq, getD_both hun] at this
        cases this
      have h2 := stOp_put hoj (hfree j oj hoj hji hjun hnot) (fun cs b => hsel i oi cs b hi) (fun cs b => hsel j oj cs b hoj) hy (H.2 j (ready_mono hj hji)).2
      refine stOp_mono (fun a' h3 => ih (listed.setIfInBounds j true) a' (inv.set hj hjn) (fun k ok hk hki hk2 hno => hfree k ok hk hki ?_ hno) (ready_mono hr (Ne.symm hji)) h3.1 ?_) h2
      · by_cases hjk : j = k
        · rw [← hjk]; exact hjun
        · rwa [getD_set_ne true hjk] at hk2
      · rw [Array.setIfInBounds_comm _ _ hji]
        exact h3.2
/-- The head in the text's order leads to a state in which only the tail's first may come. -/
def headB (md : Region.Mode) (ops : Array Oper) (n : Nat) : Nat → Nat → Array Bool → Bool
  | 0, _, listed => decide (Region.ready md ops listed = [n])
  | f + 1, k, listed => (Region.ready md ops listed).contains k && Region.free md ops listed k && headB md ops n f (k + 1) (listed.setIfInBounds k true)
def setTo (listed : Array Bool) : Nat → Nat → Array Bool
  | 0, _ => listed
  | f + 1, k => setTo (listed.setIfInBounds k true) f (k + 1)
theorem head_lex {w : World} {n : Nat} {Lq : Act → Prop} (hsel : Region.noSelect ops = true) (hs : Region.sinkB md ops n = true) (hc : tailB md ops n = true) (hn : n < ops.size) :
    ∀ (l0 : List Oper) (k : Nat) (listed : Array Bool) (a : Act), (∀ j, j < l0.length → l0[j]? = ops[k + j]?) → k + l0.length = n → HeadInv md ops n listed →
    headB md ops n l0.length k listed = true → wpStill P ops w Lq l0 a → wpAnyL P md ops w n (fun listed' a' => (Region.ready md ops listed' = [n] ∧ listed' = setTo listed l0.length k) ∧ Lq a') l0.length listed a
  | [], k, listed, a, _, hk, _, hB, h => ⟨⟨of_decide_eq_true hB, rfl⟩, h⟩
  | o :: l0, k, listed, a, hl, hk, inv, hB, h => by
    have h0 : ops[k]? = some o := by simpa using (hl 0 (by simp)).symm
    simp only [List.length_cons, headB, Bool.and_eq_true] at hB
    obtain ⟨⟨hr, hf⟩, hB'⟩ := hB
    have hkn : k < n := by simp only [List.length_cons] at hk; omega
    have hr' : k ∈ Region.ready md ops listed := by simpa using hr
    have hst : stOp P ops w k (wpStill P ops w Lq l0) a := by unfold stOp; simp only [h0]; exact h
    obtain ⟨v, hy, hK⟩ := yieldsAt_of_stOp h0 hst
    refine head_first h0 (Region.noSelect_spec hsel) hs hc hn hkn (fun listed' a' hL j hj => ?_) l0.length listed a inv (Region.free_spec h0 hf) hr' hy
      (head_lex hsel hs hc hn l0 (k + 1) _ _ (fun j hj => by have := hl (j + 1) (by simp; omega); simpa [Nat.add_assoc, Nat.add_comm 1 j] using this) (by simp only [List.length_cons] at hk; omega) (inv.set hr' hkn) hB' hK)
    rw [hL.1.1] at hj
    simp at hj
    omega
theorem region_head_in {id : Nat} {Q : Exit → Act → World → Prop} {a : Act} {w : World} {l0 : List Oper} (n : Nat) (hm : P.follows .mixedOrders = true) (hsel : Region.noSelect l0.toArray = true) (hn : n < l0.toArray.size) (hs : Region.sinkB .any l0.toArray n = true) (hc : tailB .any l0.toArray n = true)
    (hB : headB .any l0.toArray n n 0 (Array.replicate l0.toArray.size false) = true) (hnd : noDefer l0 = true)
    (h : wpStill P l0.toArray w.drew (fun a' => wpAnyIn (Fence.wide.inRound l) d P .any l0.toArray Q (l0.toArray.size - n) (setTo (Array.replicate l0.toArray.size false) n 0) a' w.drew) (l0.take n) a) : (Code.region id l0.toArray true).wpIn (Fence.wide.inRound l) d P Q a w := by
  have hn' : n < l0.length := by simpa using hn
  have htl : (l0.take n).length = n := by simp; omega
  have inv0 : HeadInv .any l0.toArray n (Array.replicate l0.toArray.size false) :=
    ⟨by simp, fun j oj _ hl => (by rw [getD_replicate_false] at hl; cases hl), fun t _ ht => getD_in (by simpa using ht) (getD_replicate_false _ _)⟩
  have H := head_lex (md := .any) hsel hs hc hn (l0.take n) 0 _ a (fun j hj => by
    have hj' : j < n := by rw [htl] at hj; exact hj
    simp [hj']) (by simpa using htl) inv0 (by rw [htl]; exact hB) h
  refine wpIn_region_any hm ?_
  have := still_head (l := l) (d := d) (Q' := Q) (g := l0.toArray.size - n) (noDefer_spec hnd) (fun listed a' hL => by
    rw [hL.1.2, htl]
    exact hL.2) _ _ _ H
  rw [htl, show n + (l0.toArray.size - n) = l0.toArray.size by omega] at this
  exact this
theorem region_still_tail_in {id : Nat} {Q : Exit → Act → World → Prop} {a : Act} {w : World} {l0 : List Oper} (n : Nat) (hm : P.follows .mixedOrders = true) (hB : Region.lexTailB .any l0.toArray n = true) (hnd : noDefer l0 = true)
    (h : wpStill P l0.toArray w.drew (fun a' => wpListIn (Fence.wide.inRound l) d P l0.toArray Q (l0.drop n) a' w.drew) (l0.take n) a) : (Code.region id l0.toArray true).wpIn (Fence.wide.inRound l) d P Q a w := by
  simp only [Region.lexTailB, Bool.and_eq_true, decide_eq_true_eq] at hB
  obtain ⟨⟨⟨⟨hsel, hn⟩, hs⟩, hc⟩, hlex⟩ := hB
  have hn' : n < l0.length := by simpa using hn
  have htl : (l0.take n).length = n := by simp; omega
  have hdl : (l0.drop n).length = l0.toArray.size - n := by simp
  have inv0 : HeadInv .any l0.toArray n (Array.replicate l0.toArray.size false) :=
    ⟨by simp, fun j oj _ hl => (by rw [getD_replicate_false] at hl; cases hl), fun t _ ht => getD_in (by simpa using ht) (getD_replicate_false _ _)⟩
  have H := wpAnyL_lex (md := .any) (g := l0.toArray.size - n) hsel hs hc hn (l0.take n) 0 _ a (fun j hj => by
    have hj' : j < n := by rw [htl] at hj; exact hj
    simp [hj']) (by simpa using htl) inv0 (by rw [htl]; exact hlex) h
  refine wpIn_region_any hm ?_
  have := still_head (l := l) (d := d) (Q' := Q) (g := l0.toArray.size - n) (noDefer_spec hnd) (fun listed a' hL => by
    have := seq_in (F := Fence.wide.inRound l) (d := d) (md := .any) (Q' := Q) (l0.drop n) n listed a' w.drew (fun j => by simp [List.getElem?_drop]) (by rw [hdl]; exact hL.1) hL.2
    rwa [hdl] at this) _ _ _ H
  rw [htl, show n + (l0.toArray.size - n) = l0.toArray.size by omega] at this
  exact this
end
end Go.Proofs.YtnkkaggepokjeaaDoor
end

section
/- Package elim: (*System).All, where all is known. -/
namespace Go.Proofs.YtnkkaggepokjeaaDoor
open Go.RowKit Go.Extern.Stop Go.Stop Go.Extern

/-- 'make([]T, n)' where the walk is fenced: n zero elements are owned. -/
theorem wpListIn_make_all {F : Fence} {d : Nat} {P : Program} (w : World) {ops : Array Oper} {rest : List Oper} {o : Oper} {a : Act} {Q : Exit → Act → World → Prop}
    (hg : o.guard = none) (l c : Operand) (t : TypeId) (hop : o.op = Op.makeSlice t l c)
    (base : Nat) (e : TypeId) (i : TypeInfo) (z : Value) (size : Nat) (h1 : P.underlying t = some (.slice e)) (h2 : P.info? e = some i) (h3 : i.zero = some z) (h4 : i.size = size)
    (kl kc : IntKind) (L C : Int) (n : Nat) (hl : a.eval l = .int kl L) (hc : a.eval c = .int kc C) (hL : L = (n : Int)) (hC : C = (n : Int)) (b2 : i.bytes * n ≤ 281474976710656) (b3 : n ≤ maxLen) (b4 : base ≤ w.heap.size)
    (hK : ∀ w', w'.ownsRow base e size (.slice (some ⟨w.heap.size, 0, none⟩) n n) n (madeCells z.cells (n * size)).toList → w.grownBy w' none → wpListIn F d P ops Q rest (a.put o.dst (.slice (some ⟨w.heap.size, 0, none⟩) n n)) w') :
    wpListIn F d P ops Q (o :: rest) a w := by
  refine wpListIn_plain hg fun K hK' => ?_
  obtain ⟨w', hrun, r1, r2⟩ := run_make_full (P := P) w base t e i z size h1 h2 h3 h4 kl kc n b2 b3 b4
  subst hL
  subst hC
  unfold Oper.wpIn
  refine ⟨?_, ?_⟩
  · simp [Oper.about, hop]
  · rw [Oper.semAt_plain F _ _ (by rw [hop]; intro c hc'; cases hc')]
    simp [execOp, hop, hl, hc, hrun, Result.andThen]
    exact hK' _ _ (hK w' r1 r2)

/-- All's memory: its system, its boxes, the values that it has so far. -/
structure AllM (w W : World) (b kb n size gv bv : Nat) (f : Nat → Option Eqn) (rv sv : Nat → Value) (vals : List Value) : Prop where
  sys : SysM W b kb n size f rv sv false
  box : AllBox w W (sysP b)
  vbox : W.heap[bv]? = some (.cells #[.slice (some ⟨gv, 0, none⟩) n n] 52 (0, 0))
  own : W.ownsRow w.heap.size 39 1 (.slice (some ⟨gv, 0, none⟩) n n) n vals
section
variable {w W W' : World} {b kb n size gv bv : Nat} {f : Nat → Option Eqn} {rv sv : Nat → Value} {vals : List Value}
/-- Where all is known, an equation is kept at each place. -/
theorem SysM.full {cl : Bool} (h : SysM W b kb n size f rv sv cl) (hf : cntF f n = n) {c : Nat} (hc : c < n) : ∃ q ar cr ay cy, f c = some q ∧ rv c = .slice ar (kOf n) cr ∧ sv c = .slice ay size cy ∧
    OwnRow wordV 47 W (rv c) (kOf n) q.1 ∧ OwnRow byteV 5 W (sv c) size q.2 ∧ EqOk n size q ∧ Lead (bitW q.1) c := by
  obtain ⟨q, hq⟩ := Option.isSome_iff_exists.1 (cntF_full hf c hc)
  have hp := h.place c hc
  rw [hq] at hp
  obtain ⟨ar, cr, e1, -, -⟩ := own_open hp.1
  obtain ⟨ay, cy, e2, -, -⟩ := own_open hp.2.1
  exact ⟨q, ar, cr, ay, cy, hq, e1, e2, hp⟩
theorem AllM.mono (h : AllM w W b kb n size gv bv f rv sv vals) (hb : Below W.heap.size W W') : AllM w W' b kb n size gv bv f rv sv vals :=
  ⟨h.sys.mono hb, h.box.mono hb, (hb.block _ (Array.getElem?_eq_some_iff.1 h.vbox).1).trans h.vbox, own_same h.own fun g _ hg => hb.block g (Array.getElem?_eq_some_iff.1 hg).1⟩
theorem AllM.drew (h : AllM w W b kb n size gv bv f rv sv vals) : AllM w W.drew b kb n size gv bv f rv sv vals :=
  h.mono ((Below.refl _ _).drew)
theorem AllM.gheap (h : AllM w W b kb n size gv bv f rv sv vals) : ∃ cur, W.heap[gv]? = some (.cells cur 39 (0, 0)) := by
  rcases h.own.2 with ⟨e1, _⟩ | ⟨g, cap, cur, e1, _, h3, _⟩
  · cases e1
  · have : gv = g := by simpa [Value.ownBlock] using congrArg Value.ownBlock e1
    rw [this]; exact ⟨cur, h3⟩
theorem AllM.set (h : AllM w W b kb n size gv bv f rv sv vals) (c : Nat) (u : Value) : AllM w (W.setCell ⟨gv, c, none⟩ u) b kb n size gv bv f rv sv (vals.set c u) := by
  obtain ⟨cur, hg⟩ := h.gheap
  have hgl : w.heap.size ≤ gv := (h.own.lt gv rfl).1
  have key : ∀ {x : Nat} {cu : Array Value} {t : TypeId}, t ≠ 39 → W.heap[x]? = some (.cells cu t (0, 0)) → (W.setCell ⟨gv, c, none⟩ u).heap[x]? = W.heap[x]? := fun {x cu t} ht hx => Below.heap_setCell _ _ _ _ (by
    intro e1
    rw [show x = gv from e1, hg] at hx
    simp at hx
    exact ht hx.2.symm)
  obtain ⟨ck, hk⟩ := h.sys.kobj
  refine ⟨h.sys.same (key (by decide) h.sys.obj) (key (by decide) hk) fun g e cu he hx => key (by rcases he with rfl | rfl <;> decide) hx, ⟨h.box.bel.setCell (p := ⟨gv, c, none⟩) hgl _, by simpa [World.setCell] using h.box.lt, (key (by decide) h.box.h0).trans h.box.h0, (key (by decide) h.box.h1).trans h.box.h1, (key (by decide) h.box.h2).trans h.box.h2⟩, (key (by decide) h.vbox).trans h.vbox, (h.own.stored c u).1⟩
end

section
variable {w W W' : World} {b kb n size gv bv Bs : Nat} {f : Nat → Option Eqn} {rv sv : Nat → Value} {vals : List Value}
theorem AllM.keep (h : AllM w W b kb n size gv bv f rv sv vals) (hk : ∀ (x : Nat) (cu : Array Value) (t : TypeId) (z : Nat × Nat), W.heap[x]? = some (Obj.cells cu t z) → W'.heap[x]? = W.heap[x]?) (hb : Below w.heap.size w W') (hz : W.heap.size ≤ W'.heap.size) : AllM w W' b kb n size gv bv f rv sv vals := by
  obtain ⟨ck, hkk⟩ := h.sys.kobj
  exact ⟨h.sys.same (hk _ _ _ _ h.sys.obj) (hk _ _ _ _ hkk) fun g e cu _ hx => hk _ _ _ _ hx, ⟨hb, Nat.lt_of_lt_of_le h.box.lt hz, (hk _ _ _ _ h.box.h0).trans h.box.h0, (hk _ _ _ _ h.box.h1).trans h.box.h1, (hk _ _ _ _ h.box.h2).trans h.box.h2⟩,
    (hk _ _ _ _ h.vbox).trans h.vbox, own_same h.own fun g cu hx => hk _ _ _ _ hx⟩

/-- What holds between two rounds of All's loop backwards: the values, and, if the places came in their order, what they are. -/
def AllI (w : World) (b kb n size gv bv Bs : Nat) (f : Nat → Option Eqn) (rv sv : Nat → Value) (pre : List (Fin n)) (W : World) : Prop :=
  ∃ (vals : List Value) (V : List (List Nat)), AllM w W b kb n size gv bv f rv sv vals ∧ Boxed W Bs 72 (.slice (some ⟨kb, 0, none⟩) n n) ∧ vals.length = n ∧ V.length = n ∧
    (∀ c, c < n → OwnRow byteV 5 W (vals.getD c nilS) size (V.getD c []) ∧ Octets (V.getD c []) ∧ (V.getD c []).length = size) ∧
    (pre.map (·.1) = dnN n pre.length → ∀ c, c < n → (n - pre.length ≤ c → ∃ x, ValV n (stL (uF f n) n) c x ∧ V.getD c [] = symV n size x) ∧ (c < n - pre.length → ∀ q, f c = some q → V.getD c [] = q.2))
theorem AllI.keep {pre : List (Fin n)} (h : AllI w b kb n size gv bv Bs f rv sv pre W) (hk : ∀ (x : Nat) (cu : Array Value) (t : TypeId) (z : Nat × Nat), W.heap[x]? = some (Obj.cells cu t z) → W'.heap[x]? = W.heap[x]?) (hb : Below w.heap.size w W') (hz : W.heap.size ≤ W'.heap.size) : AllI w b kb n size gv bv Bs f rv sv pre W' := by
  obtain ⟨vals, V, h1, h2, h3, h4, h5, h6⟩ := h
  exact ⟨vals, V, h1.keep hk hb hz, (hk _ _ _ _ h2).trans h2, h3, h4, fun c hc => ⟨own_same (h5 c hc).1 fun g cu hx => hk _ _ _ _ hx, (h5 c hc).2⟩, h6⟩
theorem AllI.bel {pre : List (Fin n)} (h : AllI w b kb n size gv bv Bs f rv sv pre W) : Below w.heap.size w W := by obtain ⟨vals, V, h1, -⟩ := h; exact h1.box.bel
theorem keep_bare {X Y : World} {row : Option Nat} (hg : X.grownBy Y row) (hr : ∀ r, row = some r → ∃ o : Obj, X.heap[r]? = some o ∧ o.isCells = false) : ∀ (x : Nat) (cu : Array Value) (t : TypeId) (z : Nat × Nat), X.heap[x]? = some (Obj.cells cu t z) → Y.heap[x]? = X.heap[x]? :=
  fun x cu t z hx => hg.block x (Array.getElem?_eq_some_iff.1 hx).1 (fun e => by obtain ⟨o, ho, hc⟩ := hr x e.symm; rw [hx] at ho; cases ho; cases hc)
theorem AllI.from {m : Nat} (hm : w.heap.size ≤ m) : OwnFrom m (AllI w b kb n size gv bv Bs f rv sv) := by
  rintro pre X Y row h hg hr
  exact h.keep (keep_bare hg fun r e => (hr r e).2) (h.bel.grown hg h.bel.size (fun r e => Nat.le_trans hm (hr r e).1)) hg.size
theorem AllI.below {pre : List (Fin n)} (h : AllI w b kb n size gv bv Bs f rv sv pre W) (hb : Below W.heap.size W W') : AllI w b kb n size gv bv Bs f rv sv pre W' :=
  h.keep (fun x _ _ _ hx => hb.block x (Array.getElem?_eq_some_iff.1 hx).1) (h.bel.trans (hb.mono h.bel.size)) hb.size

theorem all_start (h : AllM w W b kb n size gv bv f rv sv (fillTo sv nilS n n)) (hB : Boxed W Bs 72 (.slice (some ⟨kb, 0, none⟩) n n)) (hf : cntF f n = n) : AllI w b kb n size gv bv Bs f rv sv [] W := by
  refine ⟨_, (List.range n).map fun c => match f c with | some q => q.2 | none => [], h, hB, fillTo_length _ _ _ _, by simp, fun c hc => ?_, fun _ c hc => ⟨fun h0 => by simp at h0; omega, fun _ q hq => ?_⟩⟩
  · obtain ⟨q, ar, cr, ay, cy, e0, e1, e2, e3, e4, e5, e6⟩ := h.sys.full hf hc
    have ev : (fillTo sv nilS n n).getD c nilS = sv c := by rw [fillTo_all, range_getD, if_pos hc]
    have eV : ((List.range n).map fun c => match f c with | some q => q.2 | none => []).getD c [] = q.2 := by
      rw [List.getD_eq_getElem?_getD, List.getElem?_map, List.getElem?_range hc]
      simp [e0]
    rw [ev, eV]
    exact ⟨e4, e5.2.2.2.2, e5.2.2.2.1⟩
  · rw [List.getD_eq_getElem?_getD, List.getElem?_map, List.getElem?_range hc]
    simp [hq]

/-- What is known is stored, and the rest is as it was. -/
theorem AllM.away (h : AllM w W b kb n size gv bv f rv sv vals) {x : Nat} {cu : Array Value} {t : TypeId} (ht : t ≠ 39) (hx : W.heap[x]? = some (Obj.cells cu t (0, 0))) (c : Nat) (u : Value) : (W.setCell ⟨gv, c, none⟩ u).heap[x]? = W.heap[x]? := by
  obtain ⟨cur, hg⟩ := h.gheap
  exact Below.heap_setCell _ _ _ _ (by
    intro e1
    rw [show x = gv from e1, hg] at hx
    simp at hx
    exact ht hx.2.symm)
theorem own_zero {e : TypeId} {v : Value} {k B : Nat} {xs : List Value} (h : W.ownsRow B e 1 v k xs) : W.ownsRow 0 e 1 v k xs := by
  refine ⟨h.1, ?_⟩
  rcases h.2 with h1 | ⟨g, cap, cur, h1, _, h3⟩
  · exact .inl h1
  · exact .inr ⟨g, cap, cur, h1, Nat.zero_le _, h3⟩
theorem all_step {pre : List (Fin n)} {c B : Nat} {q : Eqn} (hc : c < n) (hq : f c = some q) (hl : Lead (bitW q.1) c) (hqo : EqOk n size q) (h : AllM w W b kb n size gv bv f rv sv vals) (hBx : Boxed W Bs 72 (.slice (some ⟨kb, 0, none⟩) n n)) {V : List (List Nat)} (hvl : vals.length = n) (hVl : V.length = n)
    (hrow : ∀ c, c < n → OwnRow byteV 5 W (vals.getD c nilS) size (V.getD c []) ∧ Octets (V.getD c []) ∧ (V.getD c []).length = size)
    (hval : pre.map (·.1) = dnN n pre.length → ∀ c, c < n → (n - pre.length ≤ c → ∃ x, ValV n (stL (uF f n) n) c x ∧ V.getD c [] = symV n size x) ∧ (c < n - pre.length → ∀ q, f c = some q → V.getD c [] = q.2))
    (hlt : pre.length < n) {u : Value} (hb : Below W.heap.size W W') (hu : OwnRow byteV 5 W' u size (sumS size (pickTo q.1 V n))) :
    KeepsFrom B W (W'.setCell ⟨gv, c, none⟩ u) ∧ KpB Bs kb W (W'.setCell ⟨gv, c, none⟩ u) ∧ AllI w b kb n size gv bv Bs f rv sv (pre ++ [⟨c, hc⟩]) (W'.setCell ⟨gv, c, none⟩ u) := by
  have h' := h.mono hb
  have hBx' : W'.heap[Bs]? = some (.cells #[.slice (some ⟨kb, 0, none⟩) n n] 72 (0, 0)) := (hb.block _ (Array.getElem?_eq_some_iff.1 (show W.heap[Bs]? = _ from hBx)).1).trans hBx
  obtain ⟨ck, hkk⟩ := h'.sys.kobj
  obtain ⟨cur, hg⟩ := h'.gheap
  have a1 := h'.away (by decide) hBx' c u
  have a2 := h'.away (by decide) hkk c u
  refine ⟨(KeepsOthers.trans ⟨hb.size, fun k o hk _ => (hb.block k (Array.getElem?_eq_some_iff.1 hk).1).trans hk⟩ (KeepsOthers.setCell _ _ _)).from _, ⟨a1.trans (hBx'.trans hBx.symm), a2.trans (hb.block _ h.sys.klt)⟩, vals.set c u, V.set c (sumS size (pickTo q.1 V n)), h'.set c u, a1.trans hBx', by simp [hvl], by simp [hVl], fun d hd => ?_, fun hg2 d hd => ?_⟩
  · rw [getD_set _ _ _ _ _ (by omega), getD_set _ _ _ _ _ (by omega)]
    by_cases e : d = c
    · rw [if_pos e, if_pos e]
      refine ⟨own_set hu hg (by decide) c u, sumS_octets (fun r hr => ?_) _, sumS_length _ _⟩
      obtain ⟨k, hk, rfl⟩ := List.mem_map.1 hr
      exact (hrow k (mem_colsTo.1 hk).1).2.1
    · rw [if_neg e, if_neg e]
      exact ⟨own_set (own_same (hrow d hd).1 fun g _ hx => hb.block g (Array.getElem?_eq_some_iff.1 hx).1) hg (by decide) c u, (hrow d hd).2⟩
  · obtain ⟨g1, g2⟩ := good_snoc hg2
    have g3 : c = n - 1 - pre.length := g2
    have hv := hval g1
    rw [List.length_append, getD_set _ _ _ _ _ (by omega)]
    refine ⟨fun h1 => ?_, fun h1 => ?_⟩
    · by_cases e : d = c
      · rw [if_pos e, e]
        refine back_val hqo hl hc (.mem (mem_stL.2 ⟨c, hc, uF_some hq⟩)) ((hv c hc).2 (by omega) q hq) fun k hk1 hk2 => (hv k hk2).1 (by omega)
      · rw [if_neg e]
        simp at h1
        exact (hv d hd).1 (by omega)
    · simp at h1
      rw [if_neg (by omega)]
      exact (hv d hd).2 (by omega)

theorem behindB_no {ws : List Nat} {n : Nat} (h : ∀ c, n ≤ c → bitW ws c = false) : behindB ws n = false := by
  have h1 : colsTo ws (64 * ws.length + n) = colsOf ws := colsTo_gap ws (64 * ws.length) n fun c h _ => bitW_out ws c h
  have h2 : colsTo ws (n + 64 * ws.length) = colsTo ws n := colsTo_gap ws n (64 * ws.length) fun c hc _ => h c hc
  rw [Nat.add_comm] at h1
  unfold behindB
  rw [← h1, h2]
  simp
end

section
open Go.Shelf
attribute [local go_sem] Oper.semAt_some

set_option maxRecDepth 100000 in
set_option maxHeartbeats 4000000 in
theorem elAll_some {w : World} (b kb n size : Nat) (f : Nat → Option Eqn) (rv sv : Nat → Value) (hs : SysM w b kb n size f rv sv false) (hfull : cntF f n = n) :
    Calls Tryd.prog 23 #[sysP b] w fun e w' => ∃ v' V, e = .returned (.tuple #[v', .nilIface]) ∧ MatAt byteV w' v' V ∧ V.length = n ∧ (∀ c, c < n → ∃ x, ValV n (stL (uF f n) n) c x ∧ V.getD c [] = symV n size x) ∧ Below w.heap.size w w' := by
  have h1 : (1 : Nat) ≤ 3 := by omega
  obtain ⟨w0, hw0, hbx⟩ := all_laid w (sysP b)
  have HBX := Lib.hid hbx
  have HW0 := Lib.hid hw0
  have hlt := hs.lt
  obtain ⟨k0, k1, k2, k3, k4⟩ := hs.cells
  rw [hfull] at k3
  have HS := Lib.hid hs
  have HC0 := Lib.hid ((hbx.bel.cell (p := ⟨b, 0, none⟩) hlt).trans k0)
  have HC1 := Lib.hid ((hbx.bel.cell (p := ⟨b, 1, none⟩) hlt).trans k1)
  have HC2 := Lib.hid ((hbx.bel.cell (p := ⟨b, 2, none⟩) hlt).trans k2)
  have HC3 := Lib.hid ((hbx.bel.cell (p := ⟨b, 3, none⟩) hlt).trans k3)
  have HC4 := Lib.hid ((hbx.bel.cell (p := ⟨b, 4, none⟩) hlt).trans k4)
  have hc0 := cell_of_heap (j := 0) (u := sysP b) hbx.h0 rfl
  have HF := Lib.hid hfull
  clear hw0 hbx hs k0 k1 k2 k3 k4 hfull
  refine (callsIn_wide (n := 3)).1 ?_
  refine callsIn_of_wp_marks Tryd.func23 rfl trivial ?_ rfl
  simp only [Tryd.ntmps23, List.size_toArray, List.length_cons, List.length_nil, Nat.reduceAdd, Nat.reduceSub, Array.replicate_succ, Array.replicate_zero, List.push_toArray, List.append_toArray, List.nil_append, List.cons_append]
  gi_wp2_with fail
  rw [← HW0.out]
  refine ⟨trivial, ?_⟩
  gi_at_call 33
  refine (callsIn_wide.2 (over_any b false HC4.out)).mono ?_
  rintro e w1 ⟨rfl, rfl⟩
  gi_wp2_with fail
  refine ⟨trivial, ?_⟩
  gi_at_call 24
  refine (callsIn_wide.2 (elWhole_any b n n false HC0.out HC3.out HC4.out)).mono ?_
  rintro e w1 ⟨rfl, hb1⟩
  have HBX1 := Lib.hid (HBX.out.mono hb1)
  have HS1 := Lib.hid (HS.out.mono (HBX1.out.bel.mono (Nat.le_refl _)))
  rw [decide_eq_true rfl]
  simp only [Bool.not_false, Bool.and_true]
  obtain ⟨k0, -, k2, -, -⟩ := HS1.out.cells
  have hc1 := cell_of_heap (j := 0) (u := sysP b) HBX1.out.h0 rfl
  have hn1 : 1 ≤ n := HS1.out.num.1
  have hn2 : n ≤ 4096 := HS1.out.num.2.1
  clear hc0 hb1
  obtain ⟨i0, hi, hz0, hz1, hz2⟩ := info_parts info_sym
  gi_wp2_with (gi_at_make; refine wpListIn_make_all _ rfl _ _ 52 rfl w.heap.size 39 i0 (.slice none 0 0) 1 Tryd.underlying52 hi hz0 hz1 .i64 .i64 _ _ n rfl rfl rfl rfl (by rw [hz2]; omega) (by unfold maxLen; omega) (by have := HBX1.out.lt; omega) ?_; intro w2 hown hgrow; have HO := Lib.hid hown; have HB := Lib.hid ((Below.refl w1.heap.size w1).grown hgrow (Nat.le_refl _) (fun k hk => by cases hk)); have HB3 : Hid (Below w1.heap.size w1 (w2.alloc (.cells #[.slice (some ⟨w1.heap.size, 0, none⟩) n n] 52))) := Lib.hid (HB.out.alloc HB.out.size _); have HBX2 := Lib.hid (HBX1.out.mono HB3.out); have HS2 := Lib.hid (HS1.out.mono HB3.out); have hc2 := cell_of_heap (j := 0) (u := sysP b) HBX2.out.h0 rfl; have k22 := HS2.out.cells.2.2.1; clear hown hgrow k0 k2 hc1)
  have HM2 : Hid (AllM w (w2.alloc (.cells #[.slice (some ⟨w1.heap.size, 0, none⟩) n n] 52)) b kb n size w1.heap.size w2.heap.size f rv sv (fillTo sv nilS n 0)) := Lib.hid ⟨HS2.out, HBX2.out, heap_alloc_new w2 _, by
    have := HO.out
    rw [Nat.mul_one] at this
    rw [fillTo_zero]
    exact own_same (toList_madeCells_one (.slice none 0 0) n ▸ this) fun g _ hg => Below.heap_alloc _ _ _ (Array.getElem?_eq_some_iff.1 hg).1⟩
  generalize w1.heap.size = gv at *
  generalize w2.heap.size = bv at *
  generalize (w2.alloc (.cells #[.slice (some ⟨gv, 0, none⟩) n n] 52)) = w3 at *
  clear HO HB HB3 HBX2 HS2 HC0 HC1 HC2 HC3 HC4 hc2 k22 HS1 HBX1
  gi_loopw [5, 6, 30] (fun _ _ i wr => ∃ k : Nat, k ≤ n ∧ i = .int .i64 k ∧ AllM w wr b kb n size gv bv f rv sv (fillTo sv nilS n k)) (fun _ _ i _ => n - (intOf i).toNat)
  case atStart => exact ⟨0, Nat.zero_le _, rfl, HM2.out⟩
  case round =>
    obtain ⟨k, hk, rfl, hM⟩ := hrel
    have HM := Lib.hid hM
    clear hM
    by_cases hlt : k < n
    · obtain ⟨hk1, hk2⟩ := HM.out.sys.kcell k hlt
      obtain ⟨q, ar, cr, ay, cy, -, e1, e2, -⟩ := HM.out.sys.full HF.out hlt
      have HSET := Lib.hid (fillTo_set sv nilS n k)
      rw [e1] at hk1
      rw [e2] at hk2 HSET
      clear e1 e2
      have HM3 : Hid (AllM w (wr.alloc (.cells #[.slice ar (kOf n) cr, .slice ay size cy] 82)) b kb n size gv bv f rv sv (fillTo sv nilS n k)) := Lib.hid (HM.out.mono ((Below.refl _ _).alloc (Nat.le_refl _) _))
      have hv1 := cell_of_heap (j := 0) (u := .slice (some ⟨gv, 0, none⟩) n n) HM3.out.vbox rfl
      have hg1 := HM3.out.own.cellAt k (by rw [Nat.mul_one]; exact hlt)
      have hg2 : (wr.alloc (.cells #[.slice ar (kOf n) cr, .slice ay size cy] 82)).frozen? ⟨gv, k, none⟩ = false := HM3.out.own.frozenAt k
      have hg3 : (fillTo sv nilS n k)[k]? = some nilS := by
        have hl : k < (fillTo sv nilS n k).length := by rw [fillTo_length]; exact hlt
        rw [List.getElem?_eq_getElem hl]
        simp [fillTo]
      rw [hg3] at hg1
      clear hg3
      gi_wp2
      exact ⟨⟨k + 1, by omega, by go_num, by rw [← HSET.out]; exact HM3.out.set k _⟩, by simp [intOf]; omega⟩
    · have ek : n = k := by omega
      subst ek
      have hc2 := cell_of_heap (j := 0) (u := sysP b) HM.out.box.h0 rfl
      have k22 := HM.out.sys.cells.2.2.1
      gi_wp2_with (refine ⟨trivial, ?_⟩; gi_at_call 46; refine (backE_in Fence.wide _ trivial rfl _ _ _ _).mono ?_; rintro e w' ⟨rfl, rfl⟩)
      have HMB : Hid (AllM w (wr.alloc (.cells #[.slice (some ⟨kb, 0, none⟩) n n] 72)) b kb n size gv bv f rv sv (fillTo sv nilS n n)) := Lib.hid (HM.out.mono ((Below.refl _ _).alloc (Nat.le_refl _) _))
      have HBX0 : Hid (Boxed (wr.alloc (.cells #[.slice (some ⟨kb, 0, none⟩) n n] 72)) wr.heap.size 72 (.slice (some ⟨kb, 0, none⟩) n n)) := Lib.hid (Boxed.new wr _ _)
      have hbs : wr.heap.size < (wr.alloc (.cells #[.slice (some ⟨kb, 0, none⟩) n n] 72)).heap.size := by rw [World.size_alloc]; omega
      clear hc2 k22
      generalize wr.heap.size = Bs at *
      generalize wr.alloc (.cells #[.slice (some ⟨kb, 0, none⟩) n n] 72) = W0 at *
      have hI0 : AllI w b kb n size gv bv Bs f rv sv [] W0 := all_start HMB.out HBX0.out HF.out
      have hWB : w.heap.size ≤ W0.heap.size := HMB.out.box.bel.size
      refine wpIn_rangeFunc_ownH (F := Fence.wide) rfl h1 (gf := 71) (lb := #[.pointer (some ⟨Bs, 0, none⟩)]) rfl trivial (enters_of Tryd.func71 (by kernel_rfl) rfl)
        (backE_stops Fence.wide (3 - 1) trivial rfl (by omega) Bs kb n rv sv (by omega) W0 hbs HMB.out.sys.klt HBX0.out.cell (fun j hj => HMB.out.sys.kcell j hj)) (fun h k => KpB.trans h k) (KpB.book hbs HMB.out.sys.klt) (Below.refl _ _) (fun _ => rfl)
        (AllI w b kb n size gv bv Bs f rv sv) (fun _ _ _ => False) (AllI.from hWB) (fun _ _ _ _ _ hs _ _ => hs) hI0
        (fun x a' W => ∃ eb : Nat, a' = { tmps := #[sysP b, .pointer (some ⟨w.heap.size, 0, none⟩), .pointer (some ⟨w.heap.size + 1, 0, none⟩), .pointer (some ⟨w.heap.size + 1 + 1, 0, none⟩), .pointer (some ⟨bv, 0, none⟩), u5, u6, .int .i64 (x.1 : Int), .pointer (some ⟨eb, 0, none⟩), undef, undef, .bool false, sysP b, .bool false, undef, .bool false, sysP b, .bool true, .bool false, undef, sysP b, .pointer (some ⟨b, 0, none⟩), .pointer (some ⟨b, 0, none⟩), .int .i64 (n : Int), .slice (some ⟨gv, 0, none⟩) n n, sysP b, .pointer (some ⟨b, 0, none⟩), .pointer (some ⟨b, 2, none⟩), .slice (some ⟨kb, 0, none⟩) n n, .int .i64 (n : Int), .int .i64 (n : Int), .bool false, u32, u33, u34, u35, u36, u37, u38, u39, u40, sysP b, .pointer (some ⟨b, 0, none⟩), .pointer (some ⟨b, 2, none⟩), .slice (some ⟨kb, 0, none⟩) n n, .func (.func 71) #[] #[.pointer (some ⟨Bs, 0, none⟩)], .int .i64 (x.1 : Int), .agg #[rv x.1, sv x.1], undef, undef, undef, undef, undef, undef, undef, undef, undef, undef, undef, undef, undef, undef, undef, undef, undef, undef, undef, undef], defers := [] } ∧ W.heap[eb]? = some (.cells #[rv x.1, sv x.1] 82 (0, 0)))
        (fun x a' _ X Y row h hg hr => by obtain ⟨eb, e1, e2⟩ := h; exact ⟨eb, e1, (keep_bare hg (fun r e => (hr r e).2) _ _ _ _ e2).trans e2⟩) ?assign ?body ?done ?stop
      case assign =>
        rintro l pre x W K hI hK
        have HI := Lib.hid hI
        obtain ⟨vals, V, hMW, hBW, -⟩ := hI
        obtain ⟨q, ar, cr, ay, cy, -, e1, e2, -⟩ := hMW.sys.full HF.out x.2
        have hBs := (Array.getElem?_eq_some_iff.1 (show W.heap[Bs]? = _ from hBW)).1
        have hkb := hMW.sys.klt
        rw [e1, e2] at hK ⊢
        have HK := Lib.hid hK
        clear hK e1 e2 hI0
        gi_wp2
        have hb : Below W.heap.size W (W.alloc (.cells #[.slice ar (kOf n) cr, .slice ay size cy] 82)) := (Below.refl _ _).alloc (Nat.le_refl _) _
        exact HK.out _ _ ((KeepsOthers.alloc _ _).from _) ⟨hb.block Bs hBs, hb.block kb hkb⟩ (HI.out.below hb) ⟨W.heap.size, rfl, heap_alloc_new _ _⟩
      case body =>
        rintro l pre ⟨c, hc⟩ a' W hl hr hI ⟨eb, rfl, heb⟩ hlt
        dsimp only at hlt heb ⊢
        obtain ⟨vals, V, hM, hBx, hvl, hVl, hrow, hval⟩ := hI
        obtain ⟨q, ar, cr, ay, cy, hq, e1, e2, e3, e4, e5, e6⟩ := hM.sys.full HF.out hc
        have HEND : Hid (∀ W' u, Below W.heap.size W W' → OwnRow byteV 5 W' u size (sumS size (pickTo q.1 V n)) → KeepsFrom W0.heap.size W (W'.setCell ⟨gv, c, none⟩ u) ∧ KpB Bs kb W (W'.setCell ⟨gv, c, none⟩ u) ∧ AllI w b kb n size gv bv Bs f rv sv (pre ++ [⟨c, hc⟩]) (W'.setCell ⟨gv, c, none⟩ u)) :=
          Lib.hid fun W' u hb hu => all_step hc hq e6 e5 hM hBx hvl hVl hrow hval hlt hb hu
        rw [e1, e2] at heb
        have hx1 := cell_of_heap (j := 0) (u := .slice ar (kOf n) cr) heb rfl
        have hv1 := cell_of_heap (j := 0) (u := .slice (some ⟨gv, 0, none⟩) n n) hM.vbox rfl
        have hs1 := cell_of_heap (j := 0) (u := sysP b) hM.box.h0 rfl
        have hk1 := hM.sys.cells.2.1
        have hd : Below W.heap.size W W.drew := (Below.refl _ _).drew
        have HR : Hid (ListAt wordV W.drew (.slice ar (kOf n) cr) q.1) := Lib.hid (by
          rw [e1] at e3
          exact (ListAt.of_owns e3).mono hd)
        have HMT : Hid (MatAt byteV W.drew (.slice (some ⟨gv, 0, none⟩) n n) V) := Lib.hid (by
          refine MatAt.mono ⟨vals, ListAt.of_owns (f := id) (by rw [List.map_id]; exact hM.own), by omega, fun i => ?_⟩ hd
          by_cases hi : i < n
          · exact ListAt.of_owns (hrow i hi).1
          · rw [List.getD_eq_getElem?_getD, List.getD_eq_getElem?_getD, List.getElem?_eq_none (by omega), List.getElem?_eq_none (by omega)]
            exact ListAt.nil _ _)
        have HPK : Hid (Calls Tryd.prog 47 #[.slice ar (kOf n) cr, .slice (some ⟨gv, 0, none⟩) n n, .int .i64 (size : Int)] W.drew fun e w' => ∃ au cu, e = .returned (.tuple #[.slice au size cu, .nilIface]) ∧ OwnRow byteV 5 w' (.slice au size cu) size (sumS size (pickTo q.1 V n)) ∧ Below W.heap.size W w') := Lib.hid (by
          have hlen : ∀ r ∈ V, r.length = size ∧ Octets r := fun r hr => by
            obtain ⟨i, hi, rfl⟩ := List.getElem_of_mem hr
            have := hrow i (by omega)
            have e : V.getD i [] = V[i] := by simp [hi]
            rw [e] at this
            exact ⟨this.2.2, this.2.1⟩
          refine (Pick_ok _ _ q.1 V size HR.out e5.2.1 (by rw [e5.1]; have := kOf_le hn2; omega) HMT.out hM.sys.num.2.2.1 hM.sys.num.2.2.2 (fun r hr => (hlen r hr).1) (fun r hr => (hlen r hr).2)).mono ?_
          intro e w' h
          unfold PickSays at h
          rw [hVl, behindB_no e5.2.2.1] at h
          simp only [Bool.false_eq_true, if_false] at h
          obtain ⟨v', rfl, h1, h2⟩ := h
          obtain ⟨au, cu, rfl, -, -⟩ := own_open h1
          exact ⟨au, cu, rfl, own_zero h1, hd.trans h2⟩)
        have HM := Lib.hid hM
        clear hI0 hM hBx hrow hval heb e3 e4 hd
        gi_wp2_with fail
        refine region_head_in 7 (by kernel_rfl) (by kernel_rfl) (by decide) (by kernel_rfl) (by kernel_rfl) (by kernel_rfl) (by kernel_rfl) ?_
        simp only [List.take_succ_cons, List.take_zero]
        repeat still_step
        refine wpStill_nil ?_
        change wpAnyIn (Fence.wide.inRound l) _ _ _ _ _ 6 #[true, true, true, true, true, true, true, false, false, false, false, false, false] _ _
        refine wpAnyIn_ready (rs := [7]) (by kernel_rfl) (by simp) ?_
        refine AllReadyIn.cons rfl (fun K hK => ?_) AllReadyIn.nil
        go_simp
        refine ⟨trivial, ?_⟩
        gi_at_call 47
        refine (CallsIn.inRound l (callsIn_wide.2 HPK.out)).mono ?_
        rintro e' w' ⟨au, cu, rfl, ho, hb⟩
        have HE := Lib.hid (HEND.out w' _ hb ho)
        have HMW := Lib.hid (HM.out.mono hb)
        clear ho hb HPK HEND HM hx1 hv1 hs1 hk1
        dsimp only
        refine hK _ _ ?_
        clear hK K
        refine wpAnyIn_ready (rs := [8]) (by kernel_rfl) (by simp) ?_
        refine AllReadyIn.cons rfl (fun K hK => ?_) AllReadyIn.nil
        go_simp
        refine hK _ _ ?_
        clear hK K
        have hv1 := cell_of_heap (j := 0) (u := .slice (some ⟨gv, 0, none⟩) n n) HMW.out.vbox rfl
        have hg1 := HMW.out.own.cellAt c (by rw [Nat.mul_one]; exact hc)
        have hg2 : w'.frozen? ⟨gv, c, none⟩ = false := HMW.out.own.frozenAt c
        obtain ⟨y, hy⟩ : ∃ y, vals[c]? = some y := ⟨_, List.getElem?_eq_getElem (by have := HMW.out.own.1; omega)⟩
        rw [hy] at hg1
        clear hy
        refine wpAnyIn_ready (rs := [9, 10]) (by kernel_rfl) (by simp) ?_
        refine AllReadyIn.cons rfl (fun K hK => ?_) (AllReadyIn.cons rfl (fun K hK => ?_) AllReadyIn.nil)
        · go_simp
          refine hK _ _ ?_
          clear hK K
          refine wpAnyIn_ready (rs := [10, 11]) (by kernel_rfl) (by simp) ?_
          refine AllReadyIn.cons rfl (fun K hK => ?_) (AllReadyIn.cons rfl (fun K hK => ?_) AllReadyIn.nil)
          · go_simp
            refine hK _ _ ?_
            clear hK K
            refine wpAnyIn_ready (rs := [11]) (by kernel_rfl) (by simp) ?_
            refine AllReadyIn.cons rfl (fun K hK => ?_) AllReadyIn.nil
            · go_simp
              refine hK _ _ ?_
              clear hK K
              refine wpAnyIn_ready (rs := [12]) (by kernel_rfl) (by simp) ?_
              refine AllReadyIn.cons rfl (fun K hK => ?_) AllReadyIn.nil
              · go_simp
                refine hK _ _ ?_
                clear hK K
                refine wpAnyIn_done (by kernel_rfl) ?_ _
                gi_wp2
                exact HE.out
          · go_simp
            refine hK _ _ ?_
            clear hK K
            refine wpAnyIn_ready (rs := [10]) (by kernel_rfl) (by simp) ?_
            refine AllReadyIn.cons rfl (fun K hK => ?_) AllReadyIn.nil
            · go_simp
              refine hK _ _ ?_
              clear hK K
              refine wpAnyIn_ready (rs := [12]) (by kernel_rfl) (by simp) ?_
              refine AllReadyIn.cons rfl (fun K hK => ?_) AllReadyIn.nil
              · go_simp
                refine hK _ _ ?_
                clear hK K
                refine wpAnyIn_done (by kernel_rfl) ?_ _
                gi_wp2
                exact HE.out
        · go_simp
          refine hK _ _ ?_
          clear hK K
          refine wpAnyIn_ready (rs := [9]) (by kernel_rfl) (by simp) ?_
          refine AllReadyIn.cons rfl (fun K hK => ?_) AllReadyIn.nil
          · go_simp
            refine hK _ _ ?_
            clear hK K
            refine wpAnyIn_ready (rs := [11]) (by kernel_rfl) (by simp) ?_
            refine AllReadyIn.cons rfl (fun K hK => ?_) AllReadyIn.nil
            · go_simp
              refine hK _ _ ?_
              clear hK K
              refine wpAnyIn_ready (rs := [12]) (by kernel_rfl) (by simp) ?_
              refine AllReadyIn.cons rfl (fun K hK => ?_) AllReadyIn.nil
              · go_simp
                refine hK _ _ ?_
                clear hK K
                refine wpAnyIn_done (by kernel_rfl) ?_ _
                gi_wp2
                exact HE.out
      case done =>
        rintro D xs W hD hxs ⟨vals, V, hM, hBx, hvl, hVl, hrow, hval⟩ hK2
        have hxl : xs.length = n := by rw [← List.length_map (f := fun x : Fin n => x.1), hxs, dnN_length]
        rw [hxl] at hval
        have hall := hval hxs
        have HM3 := Lib.hid hM
        have hv1 := cell_of_heap (j := 0) (u := .slice (some ⟨gv, 0, none⟩) n n) hM.vbox rfl
        have hc1 := cell_of_heap (j := 0) (u := nilS) hM.box.h1 rfl
        have hc2 := cell_of_heap (j := 0) (u := .nilIface) hM.box.h2 rfl
        have hf1 := frozen_of_heap (j := 0) hM.box.h1
        have hf2 := frozen_of_heap (j := 0) hM.box.h2
        have HALL := Lib.hid hall
        have HROW := Lib.hid hrow
        have HK2 := Lib.hid hK2
        clear hI0 hM hBx hrow hval hall hK2 hxs
        gi_wp2
        obtain ⟨d1, d2, d3⟩ := HM3.out.box.done (v := .slice (some ⟨gv, 0, none⟩) n n) (e := .nilIface)
        have nD : ∀ (x : Nat) (cu : Array Value) (t : TypeId) (z : Nat × Nat), W.heap[x]? = some (Obj.cells cu t z) → x ≠ D := fun x cu t z hx e => by
          have := HK2.out
          rw [← e, hx] at this
          cases this
        have n1 := nD _ _ _ _ HM3.out.box.h1
        have n2 := nD _ _ _ _ HM3.out.box.h2
        have hKD : ((W.setCell ⟨w.heap.size + 1, 0, none⟩ (.slice (some ⟨gv, 0, none⟩) n n)).setCell ⟨w.heap.size + 1 + 1, 0, none⟩ .nilIface).heap[D]? = some (.deferred (some [])) := by
          rw [Below.heap_setCell _ _ _ _ (fun e => n2 e.symm), Below.heap_setCell _ _ _ _ (fun e => n1 e.symm)]
          exact HK2.out
        have hk : ∀ (x : Nat) (cu : Array Value) (t : TypeId) (z : Nat × Nat), t = 5 ∨ t = 39 → W.heap[x]? = some (Obj.cells cu t z) →
            (((W.setCell ⟨w.heap.size + 1, 0, none⟩ (.slice (some ⟨gv, 0, none⟩) n n)).setCell ⟨w.heap.size + 1 + 1, 0, none⟩ .nilIface).putObj D (.deferred none)).heap[x]? = W.heap[x]? := fun x cu t z ht hx => by
          rw [World.putObj_heap_other (nD _ _ _ _ hx), Below.heap_setCell _ _ _ _ (fun e => by
            rw [show x = w.heap.size + 1 + 1 from e, HM3.out.box.h2] at hx
            simp at hx
            rcases ht with rfl | rfl <;> simp at hx), Below.heap_setCell _ _ _ _ (fun e => by
            rw [show x = w.heap.size + 1 from e, HM3.out.box.h1] at hx
            simp at hx
            rcases ht with rfl | rfl <;> simp at hx)]
        have hbel : Below w.heap.size w (((W.setCell ⟨w.heap.size + 1, 0, none⟩ (.slice (some ⟨gv, 0, none⟩) n n)).setCell ⟨w.heap.size + 1 + 1, 0, none⟩ .nilIface).putObj D (.deferred none)) :=
          d3.grown (grownBy_putObj' _ D _) d3.size (fun r e => by cases e; omega)
        refine ⟨by simp, .inl ⟨_, _, rfl, run_takeDeferred hKD, ?_⟩⟩
        refine ⟨_, results_cell2 rfl _ _ _ _ _ _ rfl rfl agg_syms agg_error ((World.cell?_of_block (World.putObj_heap_other n1)).trans d1) ((World.cell?_of_block (World.putObj_heap_other n2)).trans d2), _, V, rfl, ⟨vals, ListAt.of_owns (f := id) (by rw [List.map_id]; exact own_same HM3.out.own fun g cu hx => hk _ _ _ _ (.inr rfl) hx), by omega, fun i => ?_⟩, hVl, fun c hc => (HALL.out c hc).1 (by omega), hbel⟩
        by_cases hi : i < n
        · exact ListAt.of_owns (own_same (HROW.out i hi).1 fun g cu hx => hk _ _ _ _ (.inl rfl) hx)
        · rw [List.getD_eq_getElem?_getD, List.getD_eq_getElem?_getD, List.getElem?_eq_none (by omega), List.getElem?_eq_none (by omega)]
          exact ListAt.nil _ _
      case stop =>
        rintro D c pre W _ _ h _
        exact h.elim
end
end Go.Proofs.YtnkkaggepokjeaaDoor
end

section
/- Package elim: (*System).All by what the system's equations span. -/
namespace Go.Proofs.YtnkkaggepokjeaaDoor
open Go.RowKit Go.Extern.Stop Go.Stop Go.Extern

theorem sysAll_over {w : World} (b n size : Nat) (K : List Vec) (r kb : Nat) (hS : Sys w b n size K r true kb) :
    Calls Tryd.prog 23 #[sysP b] w fun e w' => ∃ E, e = .returned (.tuple #[nilS, E]) ∧ ErrAns 7 nameElAll w' E ∧ Below w.heap.size w w' := by
  obtain ⟨f, rv, sv, k1, k2, k3⟩ := hS
  exact elAll_over b k1.cells.2.2.2.2
theorem sysAll_none {w : World} (b n size : Nat) (K : List Vec) (r kb : Nat) (hS : Sys w b n size K r false kb) (hr : r ≠ n) :
    Calls Tryd.prog 23 #[sysP b] w fun e w' => ∃ E, e = .returned (.tuple #[nilS, E]) ∧ ErrAns 4 nameElAll w' E ∧ Below w.heap.size w w' := by
  obtain ⟨f, rv, sv, k1, k2, rfl⟩ := hS
  obtain ⟨c0, c1, c2, c3, c4⟩ := k1.cells
  exact elAll_none b n (cntF f n) c0 c3 c4 hr
theorem sysAll_some {w : World} (b n size : Nat) (K : List Vec) (kb : Nat) (hS : Sys w b n size K n false kb) :
    Calls Tryd.prog 23 #[sysP b] w fun e w' => ∃ v' V, e = .returned (.tuple #[v', .nilIface]) ∧ MatAt byteV w' v' V ∧ V.length = n ∧ (∀ c, c < n → ∃ x, ValV n K c x ∧ V.getD c [] = symV n size x) ∧ Below w.heap.size w w' := by
  obtain ⟨f, rv, sv, k1, k2, k3⟩ := hS
  refine (elAll_some b kb n size f rv sv k1 k3).mono ?_
  rintro e w' ⟨v', V, h1, h2, h3, h4, h5⟩
  refine ⟨v', V, h1, h2, h3, fun c hc => ?_, h5⟩
  obtain ⟨x, hx, hV⟩ := h4 c hc
  exact ⟨x, hx.congr k2, hV⟩
end Go.Proofs.YtnkkaggepokjeaaDoor
end
