/- slices.Reverse at rows; slices.Backward at stairs: what a loop over it is handed. -/
import Derived.Test.YtlbeobocppmifaaDoorMxC
import Derived.RangeFuncNested
import Derived.RangeFuncBound
import Derived.RangeFuncCalls
import Derived.RangeFuncLeaves
import Derived.Shelf.Abstract
import Derived.Shelf.RegionOpen
import Derived.OwnWalkIn
import Derived.TacticsInMore
import Derived.LoopNIn
import Derived.LoopIn
namespace Go.Proofs.YtlbeobocppmifaaDoor
open Go.RowKit Go.Extern.Stop Go.Stop Go.Extern

/-! ### Reverse -/
def revTo (vs : List Value) (n k : Nat) : List Value := (List.range n).map fun m => if m < k ∨ n - 1 - m < k then vs.getD (n - 1 - m) nilS else vs.getD m nilS
theorem revTo_length (vs : List Value) (n k : Nat) : (revTo vs n k).length = n := by simp [revTo]
theorem revTo_zero (vs : List Value) : revTo vs vs.length 0 = vs := by
  unfold revTo
  apply List.ext_getElem
  · simp
  · intro i h1 h2; simp [h2]
theorem revTo_getD {vs : List Value} {n k m : Nat} (hm : m < n) : (revTo vs n k).getD m nilS = if m < k ∨ n - 1 - m < k then vs.getD (n - 1 - m) nilS else vs.getD m nilS := by
  unfold revTo; rw [range_getD, if_pos hm]
theorem revTo_step {vs : List Value} {n k : Nat} (h : k < n - 1 - k) : ((revTo vs n k).set k (vs.getD (n - 1 - k) nilS)).set (n - 1 - k) (vs.getD k nilS) = revTo vs n (k + 1) := by
  apply List.ext_getElem
  · simp [revTo]
  · intro i h1 h2
    rw [revTo_length] at h2
    have e : ∀ (l : List Value) (hl : i < l.length), l[i] = l.getD i nilS := fun l hl => by simp [hl]
    rw [e _ h1, e _ (by rw [revTo_length]; exact h2), getD_set _ _ _ _ _ (by simp [revTo_length]; omega), getD_set _ _ _ _ _ (by rw [revTo_length]; omega), revTo_getD h2, revTo_getD h2]
    by_cases e1 : i = n - 1 - k
    · rw [if_pos e1, if_pos (.inr (by omega)), e1, show n - 1 - (n - 1 - k) = k by omega]
    · rw [if_neg e1]
      by_cases e2 : i = k
      · rw [if_pos e2, if_pos (.inl (by omega)), e2]
      · rw [if_neg e2]
        by_cases e3 : i < k ∨ n - 1 - i < k
        · rw [if_pos e3, if_pos (by omega)]
        · rw [if_neg e3, if_neg (by omega)]
theorem revTo_all {vs : List Value} {k : Nat} (h : vs.length - 1 - k ≤ k) : revTo vs vs.length k = vs.reverse := by
  apply List.ext_getElem
  · simp [revTo]
  · intro i h1 h2
    rw [revTo_length] at h1
    have e : (revTo vs vs.length k)[i]'(by rw [revTo_length]; exact h1) = (revTo vs vs.length k).getD i nilS := by simp [revTo_length, h1]
    rw [e, revTo_getD h1, List.getElem_reverse]
    have hlt : vs.length - 1 - i < vs.length := by omega
    by_cases e3 : i < k ∨ vs.length - 1 - i < k
    · rw [if_pos e3]; simp [hlt]
    · rw [if_neg e3]
      have e4 : vs[vs.length - 1 - i] = vs.getD (vs.length - 1 - i) nilS := by simp [hlt]
      rw [e4]
      exact congrArg (fun q => vs.getD q nilS) (show i = vs.length - 1 - i by omega)

theorem grown_drew {a b : World} {row : Option Nat} (h : a.grownBy b row) : a.grownBy b.drew row := ⟨h.os, h.tape, h.output, h.size, h.block⟩

def SliceV (v : Value) : Prop := ∃ a l c, v = .slice a l c

set_option maxRecDepth 1000000 in
set_option maxHeartbeats 2000000 in
theorem Reverse_any {w : World} (B : Nat) (rv : Value) (vs : List Value) (hown : w.ownsRow B 37 1 rv vs.length vs) (hs : ∀ k, SliceV (vs.getD k nilS)) (hl : vs.length ≤ 100000) :
    Calls Tryd.prog 60 #[rv] w fun e w' => e = .returned (.tuple #[]) ∧ w'.ownsRow B 37 1 rv vs.length vs.reverse ∧ w.grownBy w' rv.ownBlock := by
  have HO0 : Hid (w.ownsRow B 37 1 rv vs.length (revTo vs vs.length 0)) := Lib.hid (by rw [revTo_zero]; exact hown)
  obtain ⟨ao, cap, rfl, hcap, hao⟩ := own_open hown
  have HA := Lib.hid hao
  have HS := Lib.hid hs
  have HALL : Hid (∀ k, vs.length - 1 - k ≤ k → revTo vs vs.length k = vs.reverse) := Lib.hid fun k h => revTo_all h
  clear hown hao hs
  generalize vs.reverse = ends at *
  generalize vs.length = n at *
  go_enter Tryd.func60, Tryd.ntmps60
  go_wp2
  go_loopw [2, 3] (fun i j wr => ∃ (k : Nat) (z : Int), k ≤ n ∧ i = .int .i64 k ∧ j = .int .i64 z ∧ z = (n : Int) - 1 - k ∧ wr.ownsRow B 37 1 (.slice ao n cap) n (revTo vs n k) ∧ w.grownBy wr (Value.slice ao n cap).ownBlock) (fun i _ _ => n - (intOf i).toNat)
  case atStart => exact ⟨0, _, Nat.zero_le _, rfl, rfl, by omega, HO0.out, World.grownBy.refl _ _⟩
  case round =>
    obtain ⟨k, z, hk, rfl, rfl, hz, hown, hgr⟩ := hrel
    by_cases hlt : (k : Int) < z
    · obtain ⟨m, hm⟩ : ∃ m : Nat, m = n - 1 - k := ⟨_, rfl⟩
      have hzm : z = (m : Int) := by omega
      subst hzm
      have hkm : k < m := by omega
      have hmn : m < n := by omega
      obtain ⟨g, rfl⟩ := HA.out (by omega)
      have hck : wr.cell? ⟨g, k, none⟩ = some (vs.getD k nilS) := by
        rw [hown.cellAt k (by omega)]
        have e := revTo_getD (vs := vs) (k := k) (show k < n by omega)
        rw [if_neg (by omega)] at e
        rw [← e]
        have : k < (revTo vs n k).length := by rw [revTo_length]; omega
        simp [this]
      have hcm : wr.cell? ⟨g, m, none⟩ = some (vs.getD m nilS) := by
        rw [hown.cellAt m (by omega)]
        have e := revTo_getD (vs := vs) (k := k) (show m < n by omega)
        rw [if_neg (by omega)] at e
        rw [← e]
        have : m < (revTo vs n k).length := by rw [revTo_length]; omega
        simp [this]
      have hfk : wr.frozen? ⟨g, k, none⟩ = false := hown.frozenAt k
      have hfm : wr.frozen? ⟨g, m, none⟩ = false := hown.frozenAt m
      have HST : Hid (((revTo vs n k).set k (vs.getD m nilS)).set m (vs.getD k nilS) = revTo vs n (k + 1)) := Lib.hid (by rw [hm]; exact revTo_step (by omega))
      obtain ⟨a1, l1, c1, e1⟩ := HS.out k
      obtain ⟨a2, l2, c2, e2⟩ := HS.out m
      rw [e1, e2] at HST
      rw [e1] at hck
      rw [e2] at hcm
      have HO := Lib.hid hown
      have HG := Lib.hid hgr
      have hkmne : ¬ k = m := by omega
      have HZ := Lib.hid hz
      clear hown hgr e1 e2 hm hz
      go_wp2_with fail
      go_region
      go_wp2
      exact ⟨⟨k + 1, (m : Int) - 1, by omega, by go_num, rfl, by have := HZ.out; omega, by rw [← HST.out]; exact ((HO.out.stored k (.slice a2 l2 c2)).1.stored m (.slice a1 l1 c1)).1.drew, grown_drew (grown_trans HG.out (grown_trans (HO.out.stored k (.slice a2 l2 c2)).2 ((HO.out.stored k (.slice a2 l2 c2)).1.stored m (.slice a1 l1 c1)).2))⟩, by simp [intOf]; omega⟩
    · have HE := Lib.hid (HALL.out k (by omega))
      have HO := Lib.hid hown
      have HG := Lib.hid hgr
      clear hown hgr hz
      go_wp2
      go_end0
      exact ⟨rfl, by rw [← HE.out]; exact HO.out, HG.out⟩

/-! ### Backward -/
/-- The places that have come when k rounds are over. -/
def dnN (N k : Nat) : List Nat := (List.range k).map fun j => N - 1 - j
theorem dnN_succ (N k : Nat) : dnN N (k + 1) = dnN N k ++ [N - 1 - k] := by unfold dnN; rw [List.range_succ, List.map_append]; rfl
theorem dnN_length (N k : Nat) : (dnN N k).length = k := by simp [dnN]

/-- What a round keeps for the iterator: the box of the slice, and the slice's own cells. -/
def KpB (Bs S : Nat) (W W' : World) : Prop := W'.heap[Bs]? = W.heap[Bs]? ∧ W'.heap[S]? = W.heap[S]?
theorem KpB.refl (Bs S : Nat) (W : World) : KpB Bs S W W := ⟨rfl, rfl⟩
theorem KpB.trans {Bs S : Nat} {A B C : World} (h : KpB Bs S A B) (k : KpB Bs S B C) : KpB Bs S A C := ⟨k.1.trans h.1, k.2.trans h.2⟩
theorem KpB.book {Bs S : Nat} {w : World} (h1 : Bs < w.heap.size) (h2 : S < w.heap.size) (W : World) (l : Nat) (o o' : Obj) (hl : w.heap.size ≤ l) (_ : W.heap[l]? = some o) (_ : o.isCells = false) (_ : o.isWalk = false) : KpB Bs S W (W.putObj l o') :=
  ⟨World.putObj_heap_other (by omega), World.putObj_heap_other (by omega)⟩

section
open Go.Shelf
attribute [local go_sem] Oper.semAt_some

set_option maxRecDepth 100000 in
set_option maxHeartbeats 2000000 in
theorem back1_in (F : Fence) (n : Nat) (hf : F.fn 65) (hro : F.round = none) (_hn : 1 ≤ n) (l Bs S N : Nat) (val : Nat → Value) (hN : N ≤ 100000) (J Jx : List (Fin N) → World → Prop)
    (hY : ∀ pre x W, J pre W → pre.length < N → YieldAt F (n - 1) Tryd.prog l #[.int .i64 (x.1 : Int), val x.1] W fun e W' =>
      (e = .returned (.bool true) ∧ J (pre ++ [x]) W' ∧ KpB Bs S W W') ∨ (e = .returned (.bool false) ∧ Jx (pre ++ [x]) W'))
    (W : World) (hBs : W.cell? ⟨Bs, 0, none⟩ = some (.slice (some ⟨S, 0, none⟩) N N)) (hc : ∀ j, j < N → W.cell? ⟨S, j, none⟩ = some (val j)) (h0 : J [] W) :
    CallsIn F n Tryd.prog 65 #[.func (.yield l) #[] #[], .pointer (some ⟨Bs, 0, none⟩)] W fun e W' => (∃ v, e = .returned v) ∧
      ((∃ ys : List (Fin N), ys.map (·.1) = dnN N N ∧ J ys W') ∨ (∃ pre : List (Fin N), (∃ k, k ≤ N ∧ pre.map (·.1) = dnN N k) ∧ Jx pre W')) := by
  have HC := Lib.hid hc
  have HB := Lib.hid hBs
  clear hc
  refine callsIn_of_wp Tryd.func65 rfl hf ?_ hro
  simp only [Tryd.ntmps65, List.size_toArray, List.length_cons, List.length_nil, Nat.reduceAdd, Nat.reduceSub, Array.replicate_succ, Array.replicate_zero, List.push_toArray, List.append_toArray, List.nil_append, List.cons_append]
  gi_wp2
  gi_loopw [3] (fun i wr => ∃ (m : Nat) (z : Int) (pre : List (Fin N)), m ≤ N ∧ i = .int .i64 z ∧ z = (m : Int) - 1 ∧ pre.map (·.1) = dnN N (N - m) ∧ J pre wr ∧ KpB Bs S W wr) (fun i _ => (intOf i + 1).toNat)
  case atStart => exact ⟨N, _, [], Nat.le_refl _, rfl, by omega, by rw [Nat.sub_self]; rfl, h0, KpB.refl _ _ _⟩
  case round =>
    obtain ⟨m, z, pre, hm, rfl, hz, hpre, hJs, hk⟩ := hrel
    have HK := Lib.hid hk
    have HP := Lib.hid hpre
    have hpl : pre.length = N - m := by rw [← List.length_map (f := fun x : Fin N => x.1), hpre, dnN_length]
    cases m with
    | zero =>
      have hz1 : z = -1 := by omega
      subst hz1
      have HJ : Hid (J pre wr) := Lib.hid hJs
      clear hJs hk hz hBs hpre hpl
      gi_wp2
      go_end0
      exact ⟨⟨_, rfl⟩, .inl ⟨pre, HP.out, HJ.out⟩⟩
    | succ q =>
      have hz1 : z = (q : Int) := by omega
      subst hz1
      have eq : N - 1 - (N - (q + 1)) = q := by omega
      have hcb : wr.cell? ⟨Bs, 0, none⟩ = some (.slice (some ⟨S, 0, none⟩) N N) := (World.cell?_of_block (w := W) (a := ⟨Bs, 0, none⟩) hk.1).trans HB.out
      have hcs : wr.cell? ⟨S, q, none⟩ = some (val q) := (World.cell?_of_block (w := W) (a := ⟨S, q, none⟩) hk.2).trans (HC.out q (by omega))
      have hq : q < N := by omega
      have HP2 : Hid ((pre ++ [(⟨q, hq⟩ : Fin N)]).map (fun x : Fin N => x.1) = dnN N (N - q)) := Lib.hid (by
        have := dnN_succ N (N - (q + 1))
        rw [eq] at this
        rw [List.map_append, hpre, show N - q = N - (q + 1) + 1 by omega, this]
        rfl)
      obtain ⟨fn, tmps, assign, body, hy, hR⟩ := hY _ ⟨q, hq⟩ wr hJs (by omega)
      dsimp only at hy
      clear hJs hk hz eq hBs hpre hpl
      generalize val q = vq at *
      gi_wp2
      refine hR.mono ?_
      rintro e W3 (⟨rfl, hJ3, hk3⟩ | ⟨rfl, hJx3⟩)
      · have HJ3 := Lib.hid hJ3
        have HK3 := Lib.hid (HK.out.trans hk3)
        clear hJ3 hk3
        gi_wp2
        go_roundw
        case rel => exact ⟨q, (q : Int) - 1, _, by omega, rfl, rfl, HP2.out, HJ3.out, HK3.out⟩
        case measure => simp [intOf]
      · have HJ3 := Lib.hid hJx3
        clear hJx3
        gi_wp2
        refine bodyPost_ret (results_none rfl _ _ _) rfl ?_
        exact ⟨⟨_, rfl⟩, .inr ⟨_, ⟨N - q, by omega, HP2.out⟩, HJ3.out⟩⟩

set_option maxHeartbeats 1000000 in
theorem back_in (F : Fence) (n : Nat) (hf : F.fn 59) (hro : F.round = none) (a : Option Addr) (len cap : Nat) (w : World) :
    CallsIn F n Tryd.prog 59 #[.slice a len cap] w fun e w' => e = .returned (.func (.func 65) #[] #[.pointer (some ⟨w.heap.size, 0, none⟩)]) ∧ w' = w.alloc (.cells #[.slice a len cap] 64) := by
  refine callsIn_of_wp Tryd.func59 rfl hf ?_ hro
  simp only [Tryd.ntmps59, List.size_toArray, List.length_cons, List.length_nil, Nat.reduceAdd, Nat.reduceSub, Array.replicate_succ, Array.replicate_zero, List.push_toArray, List.append_toArray, List.nil_append, List.cons_append]
  gi_wp2
  go_ret
  exact ⟨rfl, rfl⟩

theorem back_stops (F : Fence) (n : Nat) (hf : F.fn 65) (hro : F.round = none) (hn : 1 ≤ n) (Bs S N : Nat) (val : Nat → Value) (hN : N ≤ 100000) (w : World) (h1 : Bs < w.heap.size) (h2 : S < w.heap.size)
    (hBs : w.cell? ⟨Bs, 0, none⟩ = some (.slice (some ⟨S, 0, none⟩) N N)) (hc : ∀ j, j < N → w.cell? ⟨S, j, none⟩ = some (val j)) :
    SeqStopsK F n Tryd.prog 65 #[.pointer (some ⟨Bs, 0, none⟩)] (fun x : Fin N => #[Value.int .i64 (x.1 : Int), val x.1]) (KpB Bs S) (fun ys => ys.map (·.1) = dnN N N) (fun pre => ∃ k, k ≤ N ∧ pre.map (·.1) = dnN N k) N w := fun l J Jx W hW _ _ hY h0 =>
  back1_in F n hf hro hn l Bs S N val hN J Jx hY W ((hW.cell (p := ⟨Bs, 0, none⟩) h1).trans hBs) (fun j hj => (hW.cell (p := ⟨S, j, none⟩) h2).trans (hc j hj)) h0
end
end Go.Proofs.YtlbeobocppmifaaDoor
