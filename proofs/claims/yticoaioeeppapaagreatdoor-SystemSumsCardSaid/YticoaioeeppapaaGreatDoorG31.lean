import Derived.Test.YticoaioeeppapaaGreatDoorG30
import Derived.RangeFuncNested
import Derived.RangeFuncBound
import Derived.RangeFuncCalls
import Derived.RangeFuncLeaves
import Derived.Shelf.Abstract
import Derived.Shelf.RegionOpen
import Derived.OwnWalkIn
import Derived.TacticsInMore
import Derived.LoopNIn
import Derived.LoopIn
import Derived.Maps.AppendAt
import Derived.StillTactics

section
/- slices.Reverse at rows; slices.Backward at stairs: what a loop over it is handed. -/
namespace Go.Proofs.YticoaioeeppapaaGreatDoor
open Go.RowKit Go.Extern.Stop Go.Stop Go.Extern

/-! ### Reverse -/
def revTo (vs : List Value) (n k : Nat) : List Value := (List.range n).map fun m => if m < k ∨ n - 1 - m < k then vs.getD (n - 1 - m) nilS else vs.getD m nilS
theorem revTo_length (vs : List Value) (n k : Nat) : (revTo vs n k).length = n := by simp [revTo]
theorem revTo_zero (vs : List Value) : revTo vs vs.length 0 = vs := by
  unfold revTo
  apply List.ext_getElem
  · simp
  · intro i h1 h2; simp [h2]
theorem revTo_getD {vs : List Value} {n k m : Nat} (hm : m < n) : (revTo vs n k).getD m nilS = if m < k ∨ n - 1 - m < k then vs.getD (n - 1 - m) nilS else vs.getD m nilS := by
  unfold revTo; rw [range_getD, if_pos hm]
theorem revTo_step {vs : List Value} {n k : Nat} (h : k < n - 1 - k) : ((revTo vs n k).set k (vs.getD (n - 1 - k) nilS)).set (n - 1 - k) (vs.getD k nilS) = revTo vs n (k + 1) := by
  apply List.ext_getElem
  · simp [revTo]
  · intro i h1 h2
    rw [revTo_length] at h2
    have e : ∀ (l : List Value) (hl : i < l.length), l[i] = l.getD i nilS := fun l hl => by simp [hl]
    rw [e _ h1, e _ (by rw [revTo_length]; exact h2), getD_set _ _ _ _ _ (by simp [revTo_length]; omega), getD_set _ _ _ _ _ (by rw [revTo_length]; omega), revTo_getD h2, revTo_getD h2]
    by_cases e1 : i = n - 1 - k
    · rw [if_pos e1, if_pos (.inr (by omega)), e1, show n - 1 - (n - 1 - k) = k by omega]
    · rw [if_neg e1]
      by_cases e2 : i = k
      · rw [if_pos e2, if_pos (.inl (by omega)), e2]
      · rw [if_neg e2]
        by_cases e3 : i < k ∨ n - 1 - i < k
        · rw [if_pos e3, if_pos (by omega)]
        · rw [if_neg e3, if_neg (by omega)]
theorem revTo_all {vs : List Value} {k : Nat} (h : vs.length - 1 - k ≤ k) : revTo vs vs.length k = vs.reverse := by
  apply List.ext_getElem
  · simp [revTo]
  · intro i h1 h2
    rw [revTo_length] at h1
    have e : (revTo vs vs.length k)[i]'(by rw [revTo_length]; exact h1) = (revTo vs vs.length k).getD i nilS := by simp [revTo_length, h1]
    rw [e, revTo_getD h1, List.getElem_reverse]
    have hlt : vs.length - 1 - i < vs.length := by omega
    by_cases e3 : i < k ∨ vs.length - 1 - i < k
    · rw [if_pos e3]; simp [hlt]
    · rw [if_neg e3]
      have e4 : vs[vs.length - 1 - i] = vs.getD (vs.length - 1 - i) nilS := by simp [hlt]
      rw [e4]
      exact congrArg (fun q => vs.getD q nilS) (show i = vs.length - 1 - i by omega)

def SliceV (v : Value) : Prop := ∃ a l c, v = .slice a l c

set_option maxRecDepth 1000000 in
set_option maxHeartbeats 2000000 in
theorem Reverse_any {w : World} (B : Nat) (rv : Value) (vs : List Value) (hown : w.ownsRow B 62 1 rv vs.length vs) (hs : ∀ k, SliceV (vs.getD k nilS)) (hl : vs.length ≤ 100000) :
    Calls Tryz.prog 123 #[rv] w fun e w' => e = .returned (.tuple #[]) ∧ w'.ownsRow B 62 1 rv vs.length vs.reverse ∧ w.grownBy w' rv.ownBlock := by
  have HO0 : Hid (w.ownsRow B 62 1 rv vs.length (revTo vs vs.length 0)) := Lib.hid (by rw [revTo_zero]; exact hown)
  obtain ⟨ao, cap, rfl, hcap, hao⟩ := own_open hown
  have HA := Lib.hid hao
  have HS := Lib.hid hs
  have HALL : Hid (∀ k, vs.length - 1 - k ≤ k → revTo vs vs.length k = vs.reverse) := Lib.hid fun k h => revTo_all h
  clear hown hao hs
  generalize vs.reverse = ends at *
  generalize vs.length = n at *
  go_enter Tryz.func123, Tryz.ntmps123
  go_wp2
  go_loopw [2, 3] (fun i j wr => ∃ (k : Nat) (z : Int), k ≤ n ∧ i = .int .i64 k ∧ j = .int .i64 z ∧ z = (n : Int) - 1 - k ∧ wr.ownsRow B 62 1 (.slice ao n cap) n (revTo vs n k) ∧ w.grownBy wr (Value.slice ao n cap).ownBlock) (fun i _ _ => n - (intOf i).toNat)
  case atStart => exact ⟨0, _, Nat.zero_le _, rfl, rfl, by omega, HO0.out, World.grownBy.refl _ _⟩
  case round =>
    obtain ⟨k, z, hk, rfl, rfl, hz, hown, hgr⟩ := hrel
    by_cases hlt : (k : Int) < z
    · obtain ⟨m, hm⟩ : ∃ m : Nat, m = n - 1 - k := ⟨_, rfl⟩
      have hzm : z = (m : Int) := by omega
      subst hzm
      have hkm : k < m := by omega
      have hmn : m < n := by omega
      obtain ⟨g, rfl⟩ := HA.out (by omega)
      have hck : wr.cell? ⟨g, k, none⟩ = some (vs.getD k nilS) := by
        rw [hown.cellAt k (by omega)]
        have e := revTo_getD (vs := vs) (k := k) (show k < n by omega)
        rw [if_neg (by omega)] at e
        rw [← e]
        have : k < (revTo vs n k).length := by rw [revTo_length]; omega
        simp [this]
      have hcm : wr.cell? ⟨g, m, none⟩ = some (vs.getD m nilS) := by
        rw [hown.cellAt m (by omega)]
        have e := revTo_getD (vs := vs) (k := k) (show m < n by omega)
        rw [if_neg (by omega)] at e
        rw [← e]
        have : m < (revTo vs n k).length := by rw [revTo_length]; omega
        simp [this]
      have hfk : wr.frozen? ⟨g, k, none⟩ = false := hown.frozenAt k
      have hfm : wr.frozen? ⟨g, m, none⟩ = false := hown.frozenAt m
      have HST : Hid (((revTo vs n k).set k (vs.getD m nilS)).set m (vs.getD k nilS) = revTo vs n (k + 1)) := Lib.hid (by rw [hm]; exact revTo_step (by omega))
      obtain ⟨a1, l1, c1, e1⟩ := HS.out k
      obtain ⟨a2, l2, c2, e2⟩ := HS.out m
      rw [e1, e2] at HST
      rw [e1] at hck
      rw [e2] at hcm
      have HO := Lib.hid hown
      have HG := Lib.hid hgr
      have hkmne : ¬ k = m := by omega
      have HZ := Lib.hid hz
      clear hown hgr e1 e2 hm hz
      go_wp2_with fail
      go_region
      go_wp2
      exact ⟨⟨k + 1, (m : Int) - 1, by omega, by go_num, rfl, by have := HZ.out; omega, by rw [← HST.out]; exact ((HO.out.stored k (.slice a2 l2 c2)).1.stored m (.slice a1 l1 c1)).1.drew, grown_drew (grown_trans HG.out (grown_trans (HO.out.stored k (.slice a2 l2 c2)).2 ((HO.out.stored k (.slice a2 l2 c2)).1.stored m (.slice a1 l1 c1)).2))⟩, by simp [intOf]; omega⟩
    · have HE := Lib.hid (HALL.out k (by omega))
      have HO := Lib.hid hown
      have HG := Lib.hid hgr
      clear hown hgr hz
      go_wp2
      go_end0
      exact ⟨rfl, by rw [← HE.out]; exact HO.out, HG.out⟩

/-! ### Backward -/
section
open Go.Shelf
attribute [local go_sem] Oper.semAt_some

set_option maxRecDepth 100000 in
set_option maxHeartbeats 2000000 in
theorem back1_in (F : Fence) (n : Nat) (hf : F.fn 147) (hro : F.round = none) (_hn : 1 ≤ n) (l Bs S N : Nat) (val : Nat → Value) (hN : N ≤ 100000) (J Jx : List (Fin N) → World → Prop)
    (hY : ∀ pre x W, J pre W → pre.length < N → YieldAt F (n - 1) Tryz.prog l #[.int .i64 (x.1 : Int), val x.1] W fun e W' =>
      (e = .returned (.bool true) ∧ J (pre ++ [x]) W' ∧ KpB Bs S W W') ∨ (e = .returned (.bool false) ∧ Jx (pre ++ [x]) W'))
    (W : World) (hBs : W.cell? ⟨Bs, 0, none⟩ = some (.slice (some ⟨S, 0, none⟩) N N)) (hc : ∀ j, j < N → W.cell? ⟨S, j, none⟩ = some (val j)) (h0 : J [] W) :
    CallsIn F n Tryz.prog 147 #[.func (.yield l) #[] #[], .pointer (some ⟨Bs, 0, none⟩)] W fun e W' => (∃ v, e = .returned v) ∧
      ((∃ ys : List (Fin N), ys.map (·.1) = dnN N N ∧ J ys W') ∨ (∃ pre : List (Fin N), (∃ k, k ≤ N ∧ pre.map (·.1) = dnN N k) ∧ Jx pre W')) := by
  have HC := Lib.hid hc
  have HB := Lib.hid hBs
  clear hc
  refine callsIn_of_wp Tryz.func147 rfl hf ?_ hro
  simp only [Tryz.ntmps147, List.size_toArray, List.length_cons, List.length_nil, Nat.reduceAdd, Nat.reduceSub, Array.replicate_succ, Array.replicate_zero, List.push_toArray, List.append_toArray, List.nil_append, List.cons_append]
  gi_wp2
  gi_loopw [3] (fun i wr => ∃ (m : Nat) (z : Int) (pre : List (Fin N)), m ≤ N ∧ i = .int .i64 z ∧ z = (m : Int) - 1 ∧ pre.map (·.1) = dnN N (N - m) ∧ J pre wr ∧ KpB Bs S W wr) (fun i _ => (intOf i + 1).toNat)
  case atStart => exact ⟨N, _, [], Nat.le_refl _, rfl, by omega, by rw [Nat.sub_self]; rfl, h0, KpB.refl _ _ _⟩
  case round =>
    obtain ⟨m, z, pre, hm, rfl, hz, hpre, hJs, hk⟩ := hrel
    have HK := Lib.hid hk
    have HP := Lib.hid hpre
    have hpl : pre.length = N - m := by rw [← List.length_map (f := fun x : Fin N => x.1), hpre, dnN_length]
    cases m with
    | zero =>
      have hz1 : z = -1 := by omega
      subst hz1
      have HJ : Hid (J pre wr) := Lib.hid hJs
      clear hJs hk hz hBs hpre hpl
      gi_wp2
      go_end0
      exact ⟨⟨_, rfl⟩, .inl ⟨pre, HP.out, HJ.out⟩⟩
    | succ q =>
      have hz1 : z = (q : Int) := by omega
      subst hz1
      have eq : N - 1 - (N - (q + 1)) = q := by omega
      have hcb : wr.cell? ⟨Bs, 0, none⟩ = some (.slice (some ⟨S, 0, none⟩) N N) := (World.cell?_of_block (w := W) (a := ⟨Bs, 0, none⟩) hk.1).trans HB.out
      have hcs : wr.cell? ⟨S, q, none⟩ = some (val q) := (World.cell?_of_block (w := W) (a := ⟨S, q, none⟩) hk.2).trans (HC.out q (by omega))
      have hq : q < N := by omega
      have HP2 : Hid ((pre ++ [(⟨q, hq⟩ : Fin N)]).map (fun x : Fin N => x.1) = dnN N (N - q)) := Lib.hid (by
        have := dnN_succ N (N - (q + 1))
        rw [eq] at this
        rw [List.map_append, hpre, show N - q = N - (q + 1) + 1 by omega, this]
        rfl)
      obtain ⟨fn, tmps, assign, body, hy, hR⟩ := hY _ ⟨q, hq⟩ wr hJs (by omega)
      dsimp only at hy
      clear hJs hk hz eq hBs hpre hpl
      generalize val q = vq at *
      gi_wp2
      refine hR.mono ?_
      rintro e W3 (⟨rfl, hJ3, hk3⟩ | ⟨rfl, hJx3⟩)
      · have HJ3 := Lib.hid hJ3
        have HK3 := Lib.hid (HK.out.trans hk3)
        clear hJ3 hk3
        gi_wp2
        go_roundw
        case rel => exact ⟨q, (q : Int) - 1, _, by omega, rfl, rfl, HP2.out, HJ3.out, HK3.out⟩
        case measure => simp [intOf]
      · have HJ3 := Lib.hid hJx3
        clear hJx3
        gi_wp2
        refine bodyPost_ret (results_none rfl _ _ _) rfl ?_
        exact ⟨⟨_, rfl⟩, .inr ⟨_, ⟨N - q, by omega, HP2.out⟩, HJ3.out⟩⟩

set_option maxHeartbeats 1000000 in
theorem back_in (F : Fence) (n : Nat) (hf : F.fn 122) (hro : F.round = none) (a : Option Addr) (len cap : Nat) (w : World) :
    CallsIn F n Tryz.prog 122 #[.slice a len cap] w fun e w' => e = .returned (.func (.func 147) #[] #[.pointer (some ⟨w.heap.size, 0, none⟩)]) ∧ w' = w.alloc (.cells #[.slice a len cap] 102) := by
  refine callsIn_of_wp Tryz.func122 rfl hf ?_ hro
  simp only [Tryz.ntmps122, List.size_toArray, List.length_cons, List.length_nil, Nat.reduceAdd, Nat.reduceSub, Array.replicate_succ, Array.replicate_zero, List.push_toArray, List.append_toArray, List.nil_append, List.cons_append]
  gi_wp2
  go_ret
  exact ⟨rfl, rfl⟩

theorem back_stops (F : Fence) (n : Nat) (hf : F.fn 147) (hro : F.round = none) (hn : 1 ≤ n) (Bs S N : Nat) (val : Nat → Value) (hN : N ≤ 100000) (w : World) (h1 : Bs < w.heap.size) (h2 : S < w.heap.size)
    (hBs : w.cell? ⟨Bs, 0, none⟩ = some (.slice (some ⟨S, 0, none⟩) N N)) (hc : ∀ j, j < N → w.cell? ⟨S, j, none⟩ = some (val j)) :
    SeqStopsK F n Tryz.prog 147 #[.pointer (some ⟨Bs, 0, none⟩)] (fun x : Fin N => #[Value.int .i64 (x.1 : Int), val x.1]) (KpB Bs S) (fun ys => ys.map (·.1) = dnN N N) (fun pre => ∃ k, k ≤ N ∧ pre.map (·.1) = dnN N k) N w := fun l J Jx W hW _ _ hY h0 =>
  back1_in F n hf hro hn l Bs S N val hN J Jx hY W ((hW.cell (p := ⟨Bs, 0, none⟩) h1).trans hBs) (fun j hj => (hW.cell (p := ⟨S, j, none⟩) h2).trans (hc j hj)) h0
end
end Go.Proofs.YticoaioeeppapaaGreatDoor
end

section
/- Package matrix: (stairs).plain. -/
namespace Go.Proofs.YticoaioeeppapaaGreatDoor
open Go.RowKit Go.Extern.Stop Go.Stop Go.Extern

/-- The stairs that stand at k places from the last one on, in that order. -/
def downK (ad : Nat → Option (Nat × Nat)) (K n : Nat) : Nat → List Value
  | 0 => []
  | k + 1 => downK ad K n k ++ (if (ad (n - 1 - k)).isSome then [stairV K (ad (n - 1 - k))] else [])
def upK (ad : Nat → Option (Nat × Nat)) (n a : Nat) : List Nat := (List.range' a (n - a)).filter fun d => (ad d).isSome
theorem downK_le (ad : Nat → Option (Nat × Nat)) (K n : Nat) : ∀ k, (downK ad K n k).length ≤ k
  | 0 => Nat.le_refl _
  | k + 1 => by
    have := downK_le ad K n k
    unfold downK
    rw [List.length_append]
    split <;> simp <;> omega
theorem downK_up (ad : Nat → Option (Nat × Nat)) (K n : Nat) : ∀ k, k ≤ n → downK ad K n k = ((upK ad n (n - k)).map fun d => stairV K (ad d)).reverse
  | 0, _ => by simp [downK, upK]
  | k + 1, hk => by
    have ih := downK_up ad K n k (by omega)
    have e : upK ad n (n - (k + 1)) = (if (ad (n - 1 - k)).isSome then [n - 1 - k] else []) ++ upK ad n (n - k) := by
      unfold upK
      have e1 : n - (n - (k + 1)) = (n - (n - k)) + 1 := by omega
      have e2 : n - (k + 1) + 1 = n - k := by omega
      have e3 : n - (k + 1) = n - 1 - k := by omega
      rw [e1, List.range'_succ, e2, List.filter_cons, e3]
      split <;> rfl
    unfold downK
    rw [ih, e, List.map_append, List.reverse_append]
    congr 1
    split <;> simp
theorem upK_zero (ad : Nat → Option (Nat × Nat)) (n : Nat) : upK ad n 0 = (List.range n).filter fun d => (ad d).isSome := by unfold upK; rw [Nat.sub_zero, List.range_eq_range']
theorem downK_slices (ad : Nat → Option (Nat × Nat)) (K n k : Nat) : ∀ y ∈ downK ad K n k, SliceV y := by
  induction k with
  | zero => intro y hy; simp [downK] at hy
  | succ k ih =>
    intro y hy
    unfold downK at hy
    rcases List.mem_append.1 hy with hy | hy
    · exact ih y hy
    · split at hy
      · simp at hy
        subst hy
        cases ad (n - 1 - k) with
        | none => exact ⟨_, _, _, rfl⟩
        | some p => exact ⟨_, _, _, rfl⟩
      · simp at hy

section
variable {w w' W : World} {B n K S : Nat} {ad : Nat → Option (Nat × Nat)} {ws us : Nat → List Nat}

theorem StO.bare {row : Option Nat} (h : StO w B n K S ad ws) (hg : w.grownBy w' row) (hr : ∀ r, row = some r → ∃ o : Obj, w.heap[r]? = some o ∧ o.isCells = false) : StO w' B n K S ad ws :=
  ⟨own_bare h.own hg hr, fun c hc g cap e => by
    obtain ⟨a1, a2, a3, a4⟩ := h.row c hc g cap e
    exact ⟨a1, a2, a3, own_bare a4 hg hr⟩, h.nil, h.dist, h.lead⟩
/-- The stairs are kept where nothing below m turns, if they all lie there. -/
theorem StO.under {m : Nat} (h : StO w B n K S ad ws) (hS : S < m) (hr : ∀ c, c < n → ∀ g cap, ad c = some (g, cap) → g < m) (hb : Below m w w') : StO w' B n K S ad ws := by
  have key : ∀ {base q : Nat} {e : TypeId} {g cap : Nat} {xs : List Value}, g < m → w.ownsRow base e 1 (.slice (some ⟨g, 0, none⟩) q cap) q xs → w'.ownsRow base e 1 (.slice (some ⟨g, 0, none⟩) q cap) q xs := fun {base q e g cap xs} hg ho => by
    refine ⟨ho.1, ?_⟩
    rcases ho.2 with h1 | ⟨g', cap', cur, h1, h2, h3, rest⟩
    · exact .inl h1
    · have : g = g' := by simpa [Value.ownBlock] using congrArg Value.ownBlock h1
      subst this
      exact .inr ⟨g, cap', cur, h1, h2, by rw [hb.block g hg]; exact h3, rest⟩
  exact ⟨key hS h.own, fun c hc g cap e => by
    obtain ⟨a1, a2, a3, a4⟩ := h.row c hc g cap e
    exact ⟨a1, a2, a3, key (hr c hc g cap e) a4⟩, h.nil, h.dist, h.lead⟩

/-- One stair is added to another. -/
theorem StO.xor {c e g cap : Nat} (h : StO w B n K S ad us) (hc : c < n) (he : e < n) (hce : c < e) (hac : ad c = some (g, cap)) (hae : ad e ≠ none)
    (hown : w'.ownsRow B 120 1 (.slice (some ⟨g, 0, none⟩) K cap) K ((xorW (us c) (us e)).map wordV)) (hg : w.grownBy w' (some g)) :
    StO w' B n K S ad (fun d => if d = c then xorW (us c) (us e) else us d) := by
  obtain ⟨hgS, hl1, hw1, _⟩ := h.row c hc g cap hac
  obtain ⟨⟨ge, ce⟩, hae'⟩ := Option.ne_none_iff_exists'.1 hae
  obtain ⟨_, hl2, hw2, _⟩ := h.row e he ge ce hae'
  have hl : (us c).length = (us e).length := by rw [hl1, hl2]
  refine ⟨h.own.kept hg (.inr (by intro e'; exact hgS (by simpa [Value.ownBlock] using e'.symm))), fun d hd g1 c1 e1 => ?_, fun d e1 => ?_, h.dist, fun d hd e1 => ?_⟩
  · by_cases ed : d = c
    · subst ed
      rw [hac] at e1
      cases e1
      exact ⟨hgS, by rw [if_pos rfl, xorW_length hl, hl1], by rw [if_pos rfl]; exact hw1.xor hw2, by rw [if_pos rfl]; exact hown⟩
    · obtain ⟨a1, a2, a3, a4⟩ := h.row d hd g1 c1 e1
      exact ⟨a1, by rw [if_neg ed]; exact a2, by rw [if_neg ed]; exact a3, by
        rw [if_neg ed]
        exact a4.kept hg (.inr (by
          intro e'
          have : g1 = g := by simpa [Value.ownBlock] using e'
          exact h.dist d c hd hc ed g1 c1 g cap e1 hac this))⟩
  · have ed : ¬ d = c := by intro ed; subst ed; rw [hac] at e1; cases e1
    rw [if_neg ed]; exact h.nil d e1
  · by_cases ed : d = c
    · subst ed
      rw [if_pos rfl, bitW_vadd hl]
      exact (h.lead d hd (by rw [hac]; exact fun h => by cases h)).add_lt (h.lead e he hae) hce
    · rw [if_neg ed]; exact h.lead d hd e1

theorem uOf_xor {c e : Nat} (us : Nat → List Nat) (hl : (us c).length = (us e).length) : uOf (fun d => if d = c then xorW (us c) (us e) else us d) = upd (uOf us) c (vadd (uOf us c) (uOf us e)) := by
  rw [uOf_put, bitW_vadd hl]; rfl
theorem LowW.xor {c e : Nat} (h : LowW us n) (hc : c < n) (he : e < n) (hl : (us c).length = (us e).length) : LowW (fun d => if d = c then xorW (us c) (us e) else us d) n :=
  h.put fun d hd => by rw [bitW_xor hl, h c hc d hd, h e he d hd]; rfl

theorem StO.uz (h : StO w B n K S ad us) {d : Nat} (hd : d < n) : uOf us d = vzero ↔ ad d = none := by
  constructor
  · intro e
    cases ha : ad d with
    | none => rfl
    | some p => exact absurd e (h.lead d hd (by rw [ha]; exact fun h => by cases h)).ne
  · intro e; unfold uOf; rw [h.nil d e, bitW_nil]
end

/-- The frame of plain's loop in memory. -/
structure PlS (w W : World) (B n K S : Nat) (ad : Nat → Option (Nat × Nat)) (us : Nat → List Nat) (rv : Value) (vals : List Value) : Prop where
  st : StO W B n K S ad us
  low : LowW us n
  sbox : Boxed W w.heap.size 102 (.slice (some ⟨S, 0, none⟩) n n)
  rbox : Boxed W (w.heap.size + 1) 26 rv
  ibox : Boxed W (w.heap.size + 1 + 1) 102 (.slice (some ⟨S, 0, none⟩) n n)
  rows : W.ownsRow w.heap.size 62 1 rv vals.length vals
  bel : Below B w W

theorem PlS.bare {w W W' : World} {B n K S : Nat} {ad : Nat → Option (Nat × Nat)} {us : Nat → List Nat} {rv : Value} {vals : List Value} {row : Option Nat} (h : PlS w W B n K S ad us rv vals) (hB : B ≤ w.heap.size) (hg : W.grownBy W' row)
    (hr : ∀ r, row = some r → w.heap.size ≤ r ∧ ∃ o : Obj, W.heap[r]? = some o ∧ o.isCells = false) : PlS w W' B n K S ad us rv vals := by
  have hr' := fun r e => (hr r e).2
  exact ⟨h.st.bare hg hr', h.low, boxed_bare h.sbox hg hr', boxed_bare h.rbox hg hr', boxed_bare h.ibox hg hr', own_bare h.rows hg hr', h.bel.grown hg (Nat.le_trans hB h.bel.size) (fun r e => Nat.le_trans hB (hr r e).1)⟩

/-- What holds between two rounds: in memory whatever has come; of the rows, if the places came in their order. -/
def PlI (w : World) (B n K S : Nat) (ad : Nat → Option (Nat × Nat)) (ws : Nat → List Nat) (pre : List (Fin n)) (W : World) : Prop :=
  ∃ us rv vals, PlS w W B n K S ad us rv vals ∧ vals.length ≤ pre.length ∧ (pre.map (·.1) = dnN n pre.length → PI (uOf us) (uOf ws) n (n - pre.length) n ∧ vals = downK ad K n pre.length)

theorem PlI.own {w : World} {B n K S m : Nat} {ad : Nat → Option (Nat × Nat)} {ws : Nat → List Nat} (hB : B ≤ w.heap.size) (hm : w.heap.size ≤ m) : OwnFrom m (PlI w B n K S ad ws) := by
  rintro pre X Y row ⟨us, rv, vals, h1, h2, h3⟩ hg hr
  exact ⟨us, rv, vals, h1.bare hB hg (fun r e => ⟨Nat.le_trans hm (hr r e).1, (hr r e).2⟩), h2, h3⟩

section
open Go.Shelf
attribute [local go_sem] Oper.semAt_some

set_option maxRecDepth 100000 in
set_option maxHeartbeats 8000000 in
theorem plain_in {w : World} (B n K S : Nat) (ad : Nat → Option (Nat × Nat)) (ws : Nat → List Nat) (hS : StO w B n K S ad ws) (hlow : LowW ws n) (hB : B ≤ w.heap.size) (hn : n ≤ 4096) (hK : K ≤ 64) (hKn : 0 < n → 0 < K) :
    Calls Tryz.prog 97 #[.slice (some ⟨S, 0, none⟩) n n] w fun e W' => ∃ us rv, e = .returned rv ∧ StO W' B n K S ad us ∧ PF (stNZ (uOf us) n) ∧ SpEq (stNZ (uOf us) n) (stL (uOf ws) n) ∧
      W'.ownsRow w.heap.size 62 1 rv (upK ad n 0).length ((upK ad n 0).map fun d => stairV K (ad d)) ∧ Below B w W' := by
  obtain ⟨i0, hi, hz0, hz1, hz2⟩ := info_parts info_row
  have h1 : (1 : Nat) ≤ 3 := by omega
  have HST := Lib.hid hS
  have HLOW := Lib.hid hlow
  have hSlt : S < w.heap.size := (hS.own.lt S rfl).2
  have HBLT : Hid (∀ c, c < n → ∀ g cap, ad c = some (g, cap) → g < w.heap.size) := Lib.hid fun c hc g cap e => ((hS.row c hc g cap e).2.2.2.lt g rfl).2
  clear hS hlow
  refine (callsIn_wide (n := 3)).1 ?_
  refine callsIn_of_wp_marks Tryz.func97 rfl trivial ?_ rfl
  simp only [Tryz.ntmps97, List.size_toArray, List.length_cons, List.length_nil, Nat.reduceAdd, Nat.reduceSub, Array.replicate_succ, Array.replicate_zero, List.push_toArray, List.append_toArray, List.nil_append, List.cons_append]
  gi_wp2_with (refine ⟨trivial, ?_⟩; gi_at_call 122; refine (back_in Fence.wide _ trivial rfl _ _ _ _).mono ?_; rintro e w' ⟨rfl, rfl⟩)
  have hb0 : Below w.heap.size w (((w.alloc (.cells #[.slice (some ⟨S, 0, none⟩) n n] 102)).alloc (.cells #[.slice none 0 0] 26)).alloc (.cells #[.slice (some ⟨S, 0, none⟩) n n] 102)) := (((Below.refl _ w).alloc (Nat.le_refl _) _).alloc (by simp) _).alloc (by simp; omega) _
  have hz : (((w.alloc (.cells #[.slice (some ⟨S, 0, none⟩) n n] 102)).alloc (.cells #[.slice none 0 0] 26)).alloc (.cells #[.slice (some ⟨S, 0, none⟩) n n] 102)).heap.size = w.heap.size + 1 + 1 + 1 := by simp
  have hs1 : Boxed (((w.alloc (.cells #[.slice (some ⟨S, 0, none⟩) n n] 102)).alloc (.cells #[.slice none 0 0] 26)).alloc (.cells #[.slice (some ⟨S, 0, none⟩) n n] 102)) w.heap.size 102 (.slice (some ⟨S, 0, none⟩) n n) := ((Boxed.new w _ _).alloc _).alloc _
  have hs2 : Boxed (((w.alloc (.cells #[.slice (some ⟨S, 0, none⟩) n n] 102)).alloc (.cells #[.slice none 0 0] 26)).alloc (.cells #[.slice (some ⟨S, 0, none⟩) n n] 102)) (w.heap.size + 1) 26 (.slice none 0 0) := by
    have := Boxed.new (w.alloc (.cells #[.slice (some ⟨S, 0, none⟩) n n] 102)) 26 (.slice none 0 0)
    rw [World.size_alloc] at this
    exact this.alloc _
  have hs3 : Boxed (((w.alloc (.cells #[.slice (some ⟨S, 0, none⟩) n n] 102)).alloc (.cells #[.slice none 0 0] 26)).alloc (.cells #[.slice (some ⟨S, 0, none⟩) n n] 102)) (w.heap.size + 1 + 1) 102 (.slice (some ⟨S, 0, none⟩) n n) := by
    have := Boxed.new ((w.alloc (.cells #[.slice (some ⟨S, 0, none⟩) n n] 102)).alloc (.cells #[.slice none 0 0] 26)) 102 (.slice (some ⟨S, 0, none⟩) n n)
    rw [World.size_alloc, World.size_alloc] at this
    exact this
  generalize (((w.alloc (.cells #[.slice (some ⟨S, 0, none⟩) n n] 102)).alloc (.cells #[.slice none 0 0] 26)).alloc (.cells #[.slice (some ⟨S, 0, none⟩) n n] 102)) = W0 at *
  have hst0 := HST.out.mono hb0
  have hI0 : PlI w B n K S ad ws [] W0 := ⟨ws, .slice none 0 0, [], ⟨hst0, HLOW.out, hs1, hs2, hs3, World.ownsRow_nil _ _ _ _, hb0.mono hB⟩, Nat.le_refl _, fun _ => ⟨PI.start HST.out.stair, rfl⟩⟩
  refine wpIn_rangeFunc_ownG (F := Fence.wide) rfl h1 (gf := 147) (lb := #[.pointer (some ⟨w.heap.size + 1 + 1, 0, none⟩)]) rfl trivial (enters_of Tryz.func147 (by kernel_rfl) rfl)
    (back_stops Fence.wide (3 - 1) trivial rfl (by omega) (w.heap.size + 1 + 1) S n (fun c => stairV K (ad c)) (by omega) W0 (by omega) (by omega) hs3.cell (fun j hj => hst0.cell hj)) (fun h k => KpB.trans h k) (KpB.book (by omega) (by omega)) (Below.refl _ _) (fun _ => rfl)
    (PlI w B n K S ad ws) (fun _ _ _ => False) (PlI.own hB (by omega)) (fun _ _ _ _ _ hs _ _ => hs) hI0
    (fun x => { tmps := #[.slice (some ⟨S, 0, none⟩) n n, .pointer (some ⟨w.heap.size, 0, none⟩), .slice none 0 0, .pointer (some ⟨w.heap.size + 1, 0, none⟩), .int .i64 (x.1 : Int), stairV K (ad x.1), undef, .slice (some ⟨S, 0, none⟩) n n, .func (.func 147) #[] #[.pointer (some ⟨w.heap.size + 1 + 1, 0, none⟩)], .int .i64 (x.1 : Int), stairV K (ad x.1), undef, undef, undef, undef, undef, undef, undef, undef, undef, undef, undef, undef, undef, undef, undef, undef, undef, undef, undef, undef, undef, undef, undef, undef, undef, undef, undef, undef, undef, undef, undef, undef, undef], defers := [] }) ?assign ?body ?done ?stop
  case assign =>
    intro l x W K hK
    gi_wp2
    exact hK
  case body =>
    rintro l pre ⟨c, hc⟩ W ⟨us, rv, vals, hP, hvl, hgood⟩ hlt
    clear hs1 hs2 hs3 hst0 hI0
    dsimp only at hlt ⊢
    cases had : ad c with
    | none =>
      have hq : (binOp .eql 62 (.slice none 0 0) (.slice none 0 0)).run Tryz.prog W = .ok (.bool true) W := Lib.run_eql_slice_nil W 62 120 none 0 0 0 0 Tryz.underlying62
      have HEND : Hid (PlI w B n K S ad ws (pre ++ [⟨c, hc⟩]) W) := Lib.hid ⟨us, rv, vals, hP, by rw [List.length_append]; omega, fun hg => by
        obtain ⟨g1, g2⟩ := good_snoc hg
        obtain ⟨hpi, hv⟩ := hgood g1
        have hc2 : c = n - 1 - pre.length := g2
        have e0 : (pre ++ [(⟨c, hc⟩ : Fin n)]).length = pre.length + 1 := by simp
        rw [e0]
        have e1 : n - pre.length = (n - (pre.length + 1)) + 1 := by omega
        have e2 : n - (pre.length + 1) = c := by omega
        rw [e1] at hpi
        refine ⟨?_, ?_⟩
        · rw [e2]
          rw [e2] at hpi
          exact hpi.down.gap ((hP.st.uz hc).2 had)
        · rw [hv]
          show downK ad K n pre.length = downK ad K n pre.length ++ (if (ad (n - 1 - pre.length)).isSome then [stairV K (ad (n - 1 - pre.length))] else [])
          rw [← hc2, had]
          simp⟩
      clear hP hvl hgood had
      simp only [stairV]
      gi_wp2
      exact ⟨KeepsFrom.refl _ _, KpB.refl _ _ _, HEND.out⟩
    | some p =>
      obtain ⟨g, cap⟩ := p
      have HRV := Lib.hid hP.rows
      have HVL := Lib.hid hvl
      have hq : (binOp .eql 62 (.slice (some ⟨g, 0, none⟩) K cap) (.slice none 0 0)).run Tryz.prog W = .ok (.bool false) W := Lib.run_eql_slice_nil W 62 120 (some ⟨g, 0, none⟩) K cap 0 0 Tryz.underlying62
      have HG0 : Hid ((pre ++ [(⟨c, hc⟩ : Fin n)]).map (·.1) = dnN n (pre ++ [(⟨c, hc⟩ : Fin n)]).length → PI (uOf us) (uOf ws) n c (c + 1)) := Lib.hid fun hg => by
        obtain ⟨g1, g2⟩ := good_snoc hg
        obtain ⟨hpi, -⟩ := hgood g1
        have hc2 : c = n - 1 - pre.length := g2
        rw [show n - pre.length = c + 1 by omega] at hpi
        exact hpi.down
      have HGV : Hid ((pre ++ [(⟨c, hc⟩ : Fin n)]).map (·.1) = dnN n (pre ++ [(⟨c, hc⟩ : Fin n)]).length → vals ++ [Value.slice (some ⟨g, 0, none⟩) K cap] = downK ad K n (pre ++ [(⟨c, hc⟩ : Fin n)]).length) := Lib.hid fun hg => by
        obtain ⟨g1, g2⟩ := good_snoc hg
        obtain ⟨-, hv⟩ := hgood g1
        have hc2 : c = n - 1 - pre.length := g2
        have e0 : (pre ++ [(⟨c, hc⟩ : Fin n)]).length = pre.length + 1 := by simp
        rw [e0, hv]
        show _ = downK ad K n pre.length ++ (if (ad (n - 1 - pre.length)).isSome then [stairV K (ad (n - 1 - pre.length))] else [])
        rw [← hc2, had]
        rfl
      have HP := Lib.hid hP
      have HAD := Lib.hid had
      have HC := Lib.hid hc
      clear hP hvl hgood had
      simp only [stairV]
      generalize hgd : ((pre ++ [(⟨c, hc⟩ : Fin n)]).map (·.1) = dnN n (pre ++ [(⟨c, hc⟩ : Fin n)]).length) = Good at *
      gi_wp2_with fail
      gi_loopw [6] (fun dv wr => ∃ (e : Nat) (us2 : Nat → List Nat), c + 1 ≤ e ∧ e ≤ n ∧ dv = .int .i64 (e : Int) ∧ PlS w wr B n K S ad us2 rv vals ∧ (Good → PI (uOf us2) (uOf ws) n c e) ∧ KeepsOthers W wr ∧ KpB (w.heap.size + 1 + 1) S W wr) (fun dv _ => n - (intOf dv).toNat)
      case atStart => exact ⟨c + 1, us, Nat.le_refl _, hc, by go_num, HP.out, HG0.out, KeepsOthers.refl _, KpB.refl _ _ _⟩
      case round =>
        obtain ⟨e, us2, he1, he2, rfl, hP2, hpi2, hko, hkp⟩ := hrel
        have HP2 := Lib.hid hP2
        have HPI2 := Lib.hid hpi2
        have HKO := Lib.hid hko
        have HKP := Lib.hid hkp
        have hsb := hP2.sbox.cell
        by_cases hlt2 : e < n
        · have hse := hP2.st.cell hlt2
          cases hae : ad e with
          | none =>
            rw [hae] at hse
            have hse' : wr.cell? ⟨S, e, none⟩ = some (.slice none 0 0) := hse
            have hq2 : (binOp .neq 62 (.slice none 0 0) (.slice none 0 0)).run Tryz.prog wr = .ok (.bool false) wr := run_neq_slice_nil_any wr 62 120 none 0 0 0 0 Tryz.underlying62
            have HK3 : Hid (Good → PI (uOf us2) (uOf ws) n c (e + 1)) := Lib.hid fun hg => (hpi2 hg).keep (.inl ((hP2.st.uz hlt2).2 hae))
            clear hP2 hpi2 hko hkp hse hae
            gi_wp2_with fail
            refine ⟨trivial, ?_⟩
            gi_wp2
            go_roundw
            case rel => exact ⟨e + 1, us2, by omega, by omega, by go_num, HP2.out, HK3.out, HKO.out, HKP.out⟩
            case measure => simp [intOf]; omega
          | some pe =>
            obtain ⟨ge, ce⟩ := pe
            have hadc := HAD.out
            obtain ⟨hgS, hl1, hw1, ho1⟩ := hP2.st.row c hc g cap hadc
            obtain ⟨_, hl2, hw2, ho2⟩ := hP2.st.row e hlt2 ge ce hae
            have hll : (us2 c).length = (us2 e).length := by rw [hl1, hl2]
            rw [hae] at hse
            have hse' : wr.cell? ⟨S, e, none⟩ = some (.slice (some ⟨ge, 0, none⟩) K ce) := hse
            have hq2 : (binOp .neq 62 (.slice (some ⟨ge, 0, none⟩) K ce) (.slice none 0 0)).run Tryz.prog wr = .ok (.bool true) wr := run_neq_slice_nil_any wr 62 120 (some ⟨ge, 0, none⟩) K ce 0 0 Tryz.underlying62
            have HLA : Hid (ListAt wordV wr (.slice (some ⟨g, 0, none⟩) K cap) (us2 c)) := Lib.hid (ListAt.of_owns ho1)
            have HW1 := Lib.hid hw1
            have HL1 := Lib.hid hl1
            have HHI : Hid (hasI (us2 c) (e : Int) = bitW (us2 c) e) := Lib.hid (by rw [hasI, if_neg (by omega)]; rfl)
            cases hbt : bitW (us2 c) e with
            | false =>
              have HBT := Lib.hid hbt
              have HK3 : Hid (Good → PI (uOf us2) (uOf ws) n c (e + 1)) := Lib.hid fun hg => (hpi2 hg).keep (.inr hbt)
              clear hP2 hpi2 hko hkp hse hae hgS hl1 hw1 ho1 hl2 hw2 ho2 hll hbt hadc
              gi_wp2_with (refine ⟨trivial, ?_⟩; gi_at_call 91; refine (CallsIn.inRound l (callsIn_wide.2 (Has_any _ (us2 c) (e : Int) HLA.out HW1.out (by omega)))).mono ?_; rintro e' w' ⟨rfl, rfl⟩; rw [HHI.out, HBT.out])
              go_roundw
              case rel => exact ⟨e + 1, us2, by omega, by omega, by go_num, HP2.out, HK3.out, HKO.out, HKP.out⟩
              case measure => simp [intOf]; omega
            | true =>
              have HBT := Lib.hid hbt
              have HADD : Hid (Calls Tryz.prog 121 #[.slice (some ⟨g, 0, none⟩) K cap, .slice (some ⟨ge, 0, none⟩) K ce] wr fun e' w' => e' = .returned (.tuple #[]) ∧ w'.ownsRow B 120 1 (.slice (some ⟨g, 0, none⟩) K cap) K ((xorW (us2 c) (us2 e)).map wordV) ∧ wr.grownBy w' (some g)) := Lib.hid
                (add_any B g K cap 0 K cap ge ce (us2 c) (us2 e) ho1 hw1 hl1 hw2 hl2 (fun j hj => hP2.st.word hlt2 hae j hj) (hP2.st.dist e c hlt2 hc (by omega) ge ce g cap hae hadc) (by omega) (fun j hj => by omega) (by omega))
              have HST3 : Hid (∀ w', w'.ownsRow B 120 1 (.slice (some ⟨g, 0, none⟩) K cap) K ((xorW (us2 c) (us2 e)).map wordV) → wr.grownBy w' (some g) → StO w' B n K S ad (fun d => if d = c then xorW (us2 c) (us2 e) else us2 d)) := Lib.hid fun w' h1 h2 =>
                hP2.st.xor hc hlt2 (by omega) hadc (by rw [hae]; exact fun h => by cases h) h1 h2
              have HLOW3 := Lib.hid (hP2.low.xor hc hlt2 hll)
              have HK3 : Hid (Good → PI (uOf (fun d => if d = c then xorW (us2 c) (us2 e) else us2 d)) (uOf ws) n c (e + 1)) := Lib.hid fun hg => by
                rw [uOf_xor us2 hll]
                exact (hpi2 hg).add (by omega) hlt2 (fun h => by have := (hP2.st.uz hlt2).1 h; rw [hae] at this; cases this) hbt
              have hgB : B ≤ g := (ho1.lt g rfl).1
              have hglt := HBLT.out c hc g cap hadc
              have HGS := Lib.hid hgS
              have HDOM : Hid (∃ cur, wr.heap[g]? = some (.cells cur 120 (0, 0))) := Lib.hid (by
                rcases ho1.2 with ⟨h, _⟩ | ⟨g', cap', cur, h, _, hg, _⟩
                · cases h
                · have : g = g' := by simpa [Value.ownBlock] using congrArg Value.ownBlock h
                  subst this
                  exact ⟨cur, hg⟩)
              clear hP2 hpi2 hko hkp hse hae hgS hl1 hw1 ho1 hl2 hw2 ho2 hll hbt hadc
              gi_wp2_with (first
                | (refine ⟨trivial, ?_⟩; gi_at_call 91; refine (CallsIn.inRound l (callsIn_wide.2 (Has_any _ (us2 c) (e : Int) HLA.out HW1.out (by omega)))).mono ?_; rintro e' w' ⟨rfl, rfl⟩; rw [HHI.out, HBT.out])
                | (refine ⟨trivial, ?_⟩; gi_at_call 121; refine (CallsIn.inRound l (callsIn_wide.2 HADD.out)).mono ?_; rintro e' w3 ⟨rfl, ho3, hg3⟩; have HST4 := Lib.hid (HST3.out w3 ho3 hg3); have HG3 := Lib.hid hg3; clear ho3 hg3))
              go_roundw
              case rel => exact ⟨e + 1, _, by omega, by omega, by go_num, ⟨HST4.out, HLOW3.out, HP2.out.sbox.kept HG3.out (by intro e'; cases e'; omega), HP2.out.rbox.kept HG3.out (by intro e'; cases e'; omega), HP2.out.ibox.kept HG3.out (by intro e'; cases e'; omega), HP2.out.rows.kept HG3.out (by
                  cases hrb : rv.ownBlock with
                  | none => exact .inl rfl
                  | some q => exact .inr (by intro e'; cases e'; have := (HP2.out.rows.lt g hrb).1; omega)), HP2.out.bel.grown HG3.out (Nat.le_trans hB HP2.out.bel.size) (fun q hq => by cases hq; exact hgB)⟩, HK3.out, HKO.out.trans (KeepsOthers.of_grownBy HG3.out fun j o ej hj => by
                  cases ej
                  obtain ⟨cur, hcur⟩ := HDOM.out
                  rw [hcur] at hj; cases hj; rfl), HKP.out.trans ⟨HG3.out.block _ HP2.out.ibox.lt (by intro e'; cases e'; omega), HG3.out.block _ (Nat.lt_of_lt_of_le hSlt HP2.out.bel.size) (by intro e'; cases e'; exact HGS.out rfl)⟩⟩
              case measure => simp [intOf]; omega
        · have hen : e = n := by omega
          subst hen
          have hv := hP2.rbox
          have hrow := hP2.rows
          have hc3 := hv.cell
          have hsz3 := hP2.bel.size
          have HVLE : vals.length ≤ 4096 := by have := HVL.out; omega
          have HEND : Hid (∀ g' cap' w1, w1.ownsRow w.heap.size 62 1 (.slice (some ⟨g', 0, none⟩) (vals.length + 1) cap') (vals.length + 1) (vals ++ [.slice (some ⟨g, 0, none⟩) K cap]) →
              (wr.alloc (.cells #[.slice (some ⟨g, 0, none⟩) K cap] 62)).grownBy w1 rv.ownBlock → KeepsFrom W0.heap.size W (w1.setCell ⟨w.heap.size + 1, 0, none⟩ (.slice (some ⟨g', 0, none⟩) (vals.length + 1) cap')) ∧
              KpB (w.heap.size + 1 + 1) S W (w1.setCell ⟨w.heap.size + 1, 0, none⟩ (.slice (some ⟨g', 0, none⟩) (vals.length + 1) cap')) ∧
              PlI w B e K S ad ws (pre ++ [⟨c, hc⟩]) (w1.setCell ⟨w.heap.size + 1, 0, none⟩ (.slice (some ⟨g', 0, none⟩) (vals.length + 1) cap'))) := Lib.hid fun g' cap' w1 hown' hgrow => by
            obtain ⟨hv1, hv2, hr2, hk2, hb2⟩ := hv.appended (by decide) hrow hsz3 (Nat.le_succ _) hown' hgrow
            have ib2 := ((hP2.ibox.alloc (.cells #[.slice (some ⟨g, 0, none⟩) K cap] 62)).kept hgrow (hP2.ibox.not_row (by decide) hrow)).other (B' := w.heap.size + 1) (by omega) (.slice (some ⟨g', 0, none⟩) (vals.length + 1) cap')
            have sb2 := ((hP2.sbox.alloc (.cells #[.slice (some ⟨g, 0, none⟩) K cap] 62)).kept hgrow (hP2.sbox.not_row (by decide) hrow)).other (B' := w.heap.size + 1) (by omega) (.slice (some ⟨g', 0, none⟩) (vals.length + 1) cap')
            refine ⟨(hko.trans hk2).from _, hkp.trans ⟨?_, hb2.block S hSlt⟩, us2, _, vals ++ [.slice (some ⟨g, 0, none⟩) K cap], ⟨hP2.st.under hSlt HBLT.out hb2, hP2.low, sb2, hv2, ib2, by rw [List.length_append]; exact hr2, hP2.bel.trans (hb2.mono hB)⟩, by have := HVL.out; rw [List.length_append, List.length_append]; simp; omega, fun hg => ?_⟩
            · exact Eq.trans (show _ = _ from ib2) (Eq.symm (show _ = _ from hP2.ibox))
            · obtain ⟨g1, g2⟩ := good_snoc hg
              have hc2 : c = e - 1 - pre.length := g2
              have e0 : (pre ++ [(⟨c, hc⟩ : Fin e)]).length = pre.length + 1 := by simp
              have hgood : Good := by rw [← hgd]; exact hg
              refine ⟨?_, HGV.out hgood⟩
              rw [e0, show e - (pre.length + 1) = c by omega]
              exact hpi2 hgood
          clear hP2 hpi2 hko hkp
          gi_wp2_with (gi_at_builtin; refine wpListIn_append_own _ rfl _ _ 26 rfl w.heap.size 62 i0 (.slice none 0 0) 1 24 Tryz.underlying26 hi hz0 hz1 hz2 rfl (by decide) _ _ _ rfl (hrow.alloc _) ⟨wr.heap.size, 0, none⟩ 1 1 [.slice (some ⟨g, 0, none⟩) K cap] rfl rfl (cell_one_new _ _ _) (by simp [Value.oneCell']) (by unfold maxLen; omega) (by omega) (by simp; omega) ?_; intro v' w1 hown' hgrow _; obtain ⟨g', cap', rfl⟩ := ownsRow_succ hown'; have HE := Lib.hid (HEND.out g' cap' w1 hown' hgrow); obtain ⟨hv1, hv2, hr2, hk2, hb2⟩ := hv.appended (by decide) hrow hsz3 (Nat.le_succ _) hown' hgrow; have hc1 := hv1.cell; have hf1 := hv1.frozen; clear hv1 hv2 hr2 hk2 hb2 hown' hgrow)
          exact HE.out
  case done =>
    rintro D xs W hD hxs ⟨us, rv, vals, hP, hvl, hgood⟩ hK2
    clear hs1 hs2 hs3 hst0 hI0
    have hxl : xs.length = n := by rw [← List.length_map (f := fun x : Fin n => x.1), hxs, dnN_length]
    rw [hxl] at hgood hvl
    obtain ⟨hpi, hvals⟩ := hgood hxs
    rw [Nat.sub_self] at hpi
    have hrev : vals.reverse = (upK ad n 0).map fun d => stairV K (ad d) := by
      rw [hvals, downK_up ad K n n (Nat.le_refl _), Nat.sub_self, List.reverse_reverse]
    have hlen : (upK ad n 0).length = vals.length := by
      have := congrArg List.length hrev
      simpa using this.symm
    have hc3 := hP.rbox.cell
    have HREV := Lib.hid (Reverse_any w.heap.size rv vals hP.rows (fun k => by
      by_cases hk : k < vals.length
      · have e : vals.getD k nilS = vals[k] := by simp [hk]
        rw [e]
        exact downK_slices ad K n n _ (hvals ▸ List.getElem_mem hk)
      · rw [List.getD_eq_getElem?_getD, List.getElem?_eq_none (by omega)]
        exact ⟨_, _, _, rfl⟩) (by omega))
    have HP := Lib.hid hP
    have HFIN := Lib.hid hpi.finish
    have HRV := Lib.hid hrev
    have HLN := Lib.hid hlen
    have hsz3 := hP.bel.size
    have HBX : Hid (∀ w', W.grownBy w' rv.ownBlock → Boxed w' (w.heap.size + 1) 26 rv) := Lib.hid fun w' hg => hP.rbox.kept hg (hP.rbox.not_row (by decide) hP.rows)
    have HKD : Hid (∀ w', W.grownBy w' rv.ownBlock → w'.heap[D]? = some (.deferred (some []))) := Lib.hid fun w' hg => (hg.block D (Array.getElem?_eq_some_iff.1 hK2).1 (fun e' => by
      rcases hP.rows.2 with ⟨rfl, _⟩ | ⟨q, qc, cur, rfl, _, hgb, _⟩
      · simp [Value.ownBlock] at e'
      · have : D = q := by simpa [Value.ownBlock] using e'
        subst this
        rw [hgb] at hK2; cases hK2)).trans hK2
    have HB2 : Hid (∀ w', W.grownBy w' rv.ownBlock → Below w.heap.size W w') := Lib.hid fun w' hg => (Below.refl _ _).grown hg hsz3 (fun q hq => (hP.rows.lt q hq).1)
    clear hP hvl hgood hpi hvals hrev hlen hxs hxl
    gi_wp2_with (refine ⟨trivial, ?_⟩; gi_at_call 123; refine (callsIn_wide.2 HREV.out).mono ?_; rintro e' w' ⟨rfl, hr, hgr⟩; have HR := Lib.hid hr; have HG := Lib.hid hgr; have hc4 := (HBX.out w' hgr).cell; clear hr hgr)
    have hKD := HKD.out w' HG.out
    refine ⟨by simp, .inl ⟨_, _, rfl, run_takeDeferred hKD, ?_⟩⟩
    have hgp := grownBy_putObj' w' D (.deferred none)
    have hrp : ∀ r, some D = some r → ∃ o : Obj, w'.heap[r]? = some o ∧ o.isCells = false := fun r e' => by cases e'; exact ⟨_, hKD, rfl⟩
    exact ⟨_, results_tmp rfl _ _ _, us, rv, rfl, (HP.out.st.under hSlt HBLT.out (HB2.out w' HG.out)).bare hgp hrp, HFIN.out.1, HFIN.out.2, by rw [HLN.out, ← HRV.out]; exact own_bare HR.out hgp hrp, (HP.out.bel.trans ((HB2.out w' HG.out).mono hB)).trans ((belowK_b (w := W0) (by omega) w' D _ _ hD hKD rfl rfl).mono hB)⟩
  case stop =>
    rintro D c pre W _ _ h _
    exact h.elim
end
end Go.Proofs.YticoaioeeppapaaGreatDoor
end

section
/- Package matrix: Rank, Picks, Spans, Plain. -/


namespace Go.Proofs.YticoaioeeppapaaGreatDoor

open Go.RowKit Go.Extern.Stop Go.Stop Go.Extern

abbrev nameRank : ByteArray := ⟨#[109, 97, 116, 114, 105, 120, 46, 82, 97, 110, 107]⟩
abbrev namePicks : ByteArray := ⟨#[109, 97, 116, 114, 105, 120, 46, 80, 105, 99, 107, 115]⟩
abbrev nameSpans : ByteArray := ⟨#[109, 97, 116, 114, 105, 120, 46, 83, 112, 97, 110, 115]⟩
abbrev namePlain : ByteArray := ⟨#[109, 97, 116, 114, 105, 120, 46, 80, 108, 97, 105, 110]⟩

theorem ErrAns.nil {c : ByteArray} {w : World} {E : Value} (h : ErrAns 0 c w E) : E = .nilIface := by
  rcases h with ⟨_, h⟩ | ⟨h, _⟩
  · exact h
  · exact absurd rfl h
theorem ErrAns.chain {k : Int} {c : ByteArray} {w : World} {E : Value} (h : ErrAns k c w E) (hk : k ≠ 0) : ∃ ls, Chain w k (c :: ls) E := by
  rcases h with ⟨h, _⟩ | ⟨_, h⟩
  · exact absurd h hk
  · exact h

set_option maxRecDepth 1000000 in
theorem Rank_bad {w : World} (v : Value) (L : List (List Nat)) (n : Int) (h : MatAt wordV w v L) (hw : ∀ r ∈ L, Word r) (hn : I64 n) (hk : checkM L n ≠ 0) :
    Calls Tryz.prog 32 #[v, .int .i64 n] w fun e w' => ∃ E, e = .returned (.tuple #[.int .i64 0, E]) ∧ ErrAns (checkM L n) nameRank w' E ∧ Below w.heap.size w w' := by
  have HM := Lib.hid h
  have HW := Lib.hid hw
  have HN := Lib.hid hn
  have HK := Lib.hid hk
  obtain ⟨a, cap, rfl, -, -, -⟩ := h.opens
  clear h hw hn hk
  generalize hkk : checkM L n = k at *
  have HKK := Lib.hid hkk
  clear hkk
  go_enter Tryz.func32, Tryz.ntmps32
  go_wp2_with fail
  refine (MCheck_any _ L n HM.out HW.out HN.out).mono ?_
  rintro e w1 ⟨E1, rfl, hE1, hb1⟩
  rw [HKK.out] at hE1
  obtain ⟨ls, hc1⟩ := hE1.chain HK.out
  have HC1 := Lib.hid hc1
  have HB1 := Lib.hid hb1
  have hsz1 := hb1.size
  obtain ⟨u, v, rfl⟩ := hc1.iface
  clear hc1 hE1 hb1
  go_wp2_with fail
  refine (Wrap_chain nameRank k _ _ _ HC1.out).mono ?_
  rintro e w2 ⟨E2, rfl, hc2, hb2⟩
  have HC2 := Lib.hid hc2
  have HB2 := Lib.hid (HB1.out.trans (hb2.mono hsz1))
  obtain ⟨u2, v2, rfl⟩ := hc2.iface
  clear hc2 hb2
  go_wp2
  go_ret2
  exact ⟨_, rfl, .inr ⟨HK.out, _, HC2.out⟩, HB2.out⟩

set_option maxRecDepth 1000000 in
theorem Rank_ok {w : World} (v : Value) (L : List (List Nat)) (n : Nat) (h : MatAt wordV w v L) (hm : MatOk L n) (hT : Tab w) :
    Calls Tryz.prog 32 #[v, .int .i64 (n : Int)] w fun e w' => e = .returned (.tuple #[.int .i64 ((rk (vecs L) : Nat) : Int), .nilIface]) ∧ Below w.heap.size w w' := by
  have HM := Lib.hid h
  have HOK := Lib.hid hm
  have HT := Lib.hid hT
  have HN : Hid (I64 (n : Int)) := Lib.hid (by have := hm.cols; unfold I64; omega)
  have HCH := Lib.hid hm.check
  have HPL : Hid ((picksTo (vecs L) L.length).length = rk (vecs L)) := Lib.hid (by
    have := picksTo_length (vecs L) (vecs L).length (Nat.le_refl _)
    rw [List.take_length, vecs_length] at this
    exact this)
  obtain ⟨a, cap, rfl, -, -, -⟩ := h.opens
  clear h hm hT
  generalize rk (vecs L) = m at *
  go_enter Tryz.func32, Tryz.ntmps32
  go_wp2_with fail
  refine (MCheck_any _ L (n : Int) HM.out HOK.out.words HN.out).mono ?_
  rintro e w1 ⟨E1, rfl, hE1, hb1⟩
  rw [HCH.out] at hE1
  obtain rfl := hE1.nil
  have HB1 := Lib.hid hb1
  have hsz1 := hb1.size
  clear hE1 hb1
  go_wp2_with fail
  refine (gather_any _ L n (HM.out.mono HB1.out) HOK.out (HT.out.mono HB1.out)).mono ?_
  rintro e w2 ⟨pv, ad, ws, rfl, -, -, -, hp, hb2⟩
  rw [HPL.out] at hp
  have HB2 := Lib.hid (HB1.out.trans (hb2.mono hsz1))
  obtain ⟨pa, pc, rfl, -, -⟩ := own_open hp
  clear hp hb2
  go_wp2
  go_ret2
  exact ⟨rfl, HB2.out⟩

/-! ### Spans -/

/-- What Spans says of rows and a row. -/
def spansK (L : List (List Nat)) (n : Int) (r : List Nat) : Int := if checkM L n ≠ 0 then checkM L n else checkM [r] n

theorem mat_one {w : World} {x : Value} {r : List Nat} (h : ListAt wordV w x r) : MatAt wordV (w.alloc (.cells #[x] 62)) (.slice (some ⟨w.heap.size, 0, none⟩) 1 1) [r] := by
  have hb : Below w.heap.size w (w.alloc (.cells #[x] 62)) := (Below.refl _ _).alloc (Nat.le_refl _) _
  refine ⟨[x], ⟨_, 1, rfl, Nat.le_refl _, by decide, fun _ => ⟨_, 0, rfl, fun j hj => ?_⟩⟩, rfl, fun i => ?_⟩
  · have : j = 0 := by simp at hj; omega
    subst this
    simp
  · cases i with
    | zero => exact h.mono hb
    | succ i => simpa using ListAt.nil wordV _

theorem firstCol_neg {y : List Nat} : (firstCol y < 0 ↔ bitW y = vzero) := by
  rcases firstCol_cases y with ⟨h1, h2⟩ | ⟨c, h1, h2, _⟩
  · rw [h1]; exact ⟨fun _ => h2, fun _ => by decide⟩
  · rw [h1]; exact ⟨fun h => by omega, fun h => absurd h h2.ne⟩

/-! ### Plain -/

/-- Rows of the call's own, each in a block of its own. -/
structure RowsOwn (w : World) (B K : Nat) (rv : Value) (vs : List Value) (M : List (List Nat)) : Prop where
  own : w.ownsRow B 62 1 rv M.length vs
  row : ∀ i, i < M.length → ∃ g cap, vs.getD i nilS = .slice (some ⟨g, 0, none⟩) K cap ∧ w.ownsRow B 120 1 (.slice (some ⟨g, 0, none⟩) K cap) K ((M.getD i []).map wordV)
  word : ∀ r ∈ M, Word r ∧ r.length = K
  dist : ∀ i j, i < j → j < M.length → (vs.getD i nilS).ownBlock ≠ (vs.getD j nilS).ownBlock

theorem RowsOwn.at {w : World} {B K : Nat} {rv : Value} {vs : List Value} {M : List (List Nat)} (h : RowsOwn w B K rv vs M) : MatAt wordV w rv M := by
  have hl : vs.length = M.length := by have := h.own.1; omega
  refine ⟨vs, ListAt.of_owns (n := M.length) (by rw [List.map_id]; exact h.own), hl, fun i => ?_⟩
  by_cases hi : i < M.length
  · obtain ⟨g, cap, e, ho⟩ := h.row i hi
    rw [e]
    exact ListAt.of_owns ho
  · rw [List.getD_eq_getElem?_getD, List.getElem?_eq_none (by omega), List.getD_eq_getElem?_getD, List.getElem?_eq_none (by omega)]
    exact ListAt.nil _ _
theorem RowsOwn.mono {w w' : World} {B K : Nat} {rv : Value} {vs : List Value} {M : List (List Nat)} (h : RowsOwn w B K rv vs M) (hb : Below w.heap.size w w') : RowsOwn w' B K rv vs M :=
  ⟨owns_kept h.own hb, fun i hi => by
    obtain ⟨g, cap, e, ho⟩ := h.row i hi
    exact ⟨g, cap, e, owns_kept ho hb⟩, h.word, h.dist⟩

theorem rows_of_stairs {w : World} {B B' n K S : Nat} {ad : Nat → Option (Nat × Nat)} {us : Nat → List Nat} {rv : Value} (h : StO w B n K S ad us) (hB : B' ≤ B) {Q : Nat} (hQ : B' ≤ Q)
    (ho : w.ownsRow Q 62 1 rv (upK ad n 0).length ((upK ad n 0).map fun d => stairV K (ad d))) :
    RowsOwn w B' K rv ((upK ad n 0).map fun d => stairV K (ad d)) ((upK ad n 0).map us) ∧ vecs ((upK ad n 0).map us) = stNZ (uOf us) n := by
  have hmem : ∀ d ∈ upK ad n 0, d < n ∧ ∃ g cap, ad d = some (g, cap) := fun d hd => by
    rw [upK_zero, List.mem_filter, List.mem_range] at hd
    refine ⟨hd.1, ?_⟩
    cases e : ad d with
    | none => rw [e] at hd; simp at hd
    | some p => exact ⟨p.1, p.2, rfl⟩
  have hpw : (upK ad n 0).Pairwise (· < ·) := by rw [upK_zero]; exact List.Pairwise.filter _ List.pairwise_lt_range
  refine ⟨⟨by rw [List.length_map]; exact ownsRow_base ho hQ, fun i hi => ?_, fun r hr => ?_, fun i j hij hj => ?_⟩, ?_⟩
  · rw [List.length_map] at hi
    obtain ⟨hd, g, cap, e⟩ := hmem _ (List.getElem_mem hi)
    refine ⟨g, cap, by simp [hi, e, stairV], ?_⟩
    obtain ⟨_, _, _, h4⟩ := h.row _ hd g cap e
    have e2 : ((upK ad n 0).map us).getD i [] = us (upK ad n 0)[i] := by simp [hi]
    rw [e2]
    exact ownsRow_base h4 hB
  · obtain ⟨d, hd, rfl⟩ := List.mem_map.1 hr
    obtain ⟨hdn, g, cap, e⟩ := hmem d hd
    obtain ⟨_, h2, h3, _⟩ := h.row _ hdn g cap e
    exact ⟨h3, h2⟩
  · rw [List.length_map] at hj
    have hi : i < (upK ad n 0).length := by omega
    obtain ⟨hd1, g1, c1, e1⟩ := hmem _ (List.getElem_mem hi)
    obtain ⟨hd2, g2, c2, e2⟩ := hmem _ (List.getElem_mem hj)
    have hlt := List.pairwise_iff_getElem.1 hpw i j hi hj hij
    have hne := h.dist _ _ hd1 hd2 (by omega) g1 c1 g2 c2 e1 e2
    simp only [List.getD_eq_getElem?_getD, List.getElem?_map, List.getElem?_eq_getElem hi, List.getElem?_eq_getElem hj, Option.map_some, Option.getD_some, e1, e2, stairV, Value.ownBlock]
    intro e
    exact hne (by simpa using e)
  · unfold vecs stNZ
    rw [List.map_map, upK_zero]
    show List.map (uOf us) _ = List.map (uOf us) _
    congr 1
    apply List.filter_congr
    intro d hd
    have hz := h.uz (List.mem_range.1 hd)
    cases e : ad d with
    | none =>
      have := hz.2 e
      simp [this]
    | some p =>
      have : ¬ uOf us d = vzero := fun hh => by have := hz.1 hh; rw [e] at this; cases this
      simp [this]

set_option maxRecDepth 1000000 in
theorem Plain_bad {w : World} (v : Value) (L : List (List Nat)) (n : Int) (h : MatAt wordV w v L) (hw : ∀ r ∈ L, Word r) (hn : I64 n) (hk : checkM L n ≠ 0) :
    Calls Tryz.prog 61 #[v, .int .i64 n] w fun e w' => ∃ E, e = .returned (.tuple #[.slice none 0 0, E]) ∧ ErrAns (checkM L n) namePlain w' E ∧ Below w.heap.size w w' := by
  have HM := Lib.hid h
  have HW := Lib.hid hw
  have HN := Lib.hid hn
  have HK := Lib.hid hk
  obtain ⟨a, cap, rfl, -, -, -⟩ := h.opens
  clear h hw hn hk
  generalize hkk : checkM L n = k at *
  have HKK := Lib.hid hkk
  clear hkk
  go_enter Tryz.func61, Tryz.ntmps61
  go_wp2_with fail
  refine (MCheck_any _ L n HM.out HW.out HN.out).mono ?_
  rintro e w1 ⟨E1, rfl, hE1, hb1⟩
  rw [HKK.out] at hE1
  obtain ⟨ls, hc1⟩ := hE1.chain HK.out
  have HC1 := Lib.hid hc1
  have HB1 := Lib.hid hb1
  have hsz1 := hb1.size
  obtain ⟨u, v, rfl⟩ := hc1.iface
  clear hc1 hE1 hb1
  go_wp2_with fail
  refine (Wrap_chain namePlain k _ _ _ HC1.out).mono ?_
  rintro e w2 ⟨E2, rfl, hc2, hb2⟩
  have HC2 := Lib.hid hc2
  have HB2 := Lib.hid (HB1.out.trans (hb2.mono hsz1))
  obtain ⟨u2, v2, rfl⟩ := hc2.iface
  clear hc2 hb2
  go_wp2
  go_ret2
  exact ⟨_, rfl, .inr ⟨HK.out, _, HC2.out⟩, HB2.out⟩

set_option maxRecDepth 1000000 in
theorem Plain_ok {w : World} (v : Value) (L : List (List Nat)) (n : Nat) (h : MatAt wordV w v L) (hm : MatOk L n) (hT : Tab w) :
    Calls Tryz.prog 61 #[v, .int .i64 (n : Int)] w fun e w' => ∃ rv vs M, e = .returned (.tuple #[rv, .nilIface]) ∧ RowsOwn w' w.heap.size (kOf n) rv vs M ∧ PF (vecs M) ∧ SpEq (vecs M) (vecs L) ∧ MatOk M n ∧ Below w.heap.size w w' := by
  have HM := Lib.hid h
  have HOK := Lib.hid hm
  have HT := Lib.hid hT
  have HN : Hid (I64 (n : Int)) := Lib.hid (by have := hm.cols; unfold I64; omega)
  have HCH := Lib.hid hm.check
  have hn := hm.cols
  have HK64 := Lib.hid (kOf_le hn)
  obtain ⟨a, cap, rfl, -, -, -⟩ := h.opens
  clear h hm hT
  go_enter Tryz.func61, Tryz.ntmps61
  go_wp2_with fail
  refine (MCheck_any _ L (n : Int) HM.out HOK.out.words HN.out).mono ?_
  rintro e w1 ⟨E1, rfl, hE1, hb1⟩
  rw [HCH.out] at hE1
  obtain rfl := hE1.nil
  have HB1 := Lib.hid hb1
  have hsz1 := hb1.size
  clear hE1 hb1
  go_wp2_with fail
  refine (gather_any _ L n (HM.out.mono HB1.out) HOK.out (HT.out.mono HB1.out)).mono ?_
  rintro e w2 ⟨pv, ad, ws, rfl, hst, hlw, hsp, hp, hb2⟩
  have HST := Lib.hid hst
  have HLW := Lib.hid hlw
  have HSP := Lib.hid hsp
  have HBB := Lib.hid hb2
  have HB2 := Lib.hid (HB1.out.trans (hb2.mono hsz1))
  have hsz12 := hb2.size
  obtain ⟨pa, pc, rfl, -, -⟩ := own_open hp
  clear hst hlw hsp hp hb2
  go_wp2_with fail
  refine (plain_in w1.heap.size n (kOf n) w1.heap.size ad ws HST.out HLW.out hsz12 hn HK64.out (fun h => by unfold kOf; omega)).mono ?_
  rintro e w3 ⟨us, rv, rfl, hst3, hpf, hse, hro, hb3⟩
  obtain ⟨hrows, hvecs⟩ := rows_of_stairs hst3 hsz1 (Nat.le_trans hsz1 hsz12) hro
  have HR := Lib.hid hrows
  have HPF : Hid (PF (vecs ((upK ad n 0).map us))) := Lib.hid (by rw [hvecs]; exact hpf)
  have HSE : Hid (SpEq (vecs ((upK ad n 0).map us)) (vecs L)) := Lib.hid (by rw [hvecs]; exact hse.trans HSP.out)
  have HMK : Hid (MatOk ((upK ad n 0).map us) n) := Lib.hid (by
    refine ⟨hn, ?_, fun r hr => (hrows.word r hr).1, fun r hr => ⟨(hrows.word r hr).2, fun c hc => ?_⟩⟩
    · rw [List.length_map, upK_zero]
      exact Nat.le_trans (List.length_filter_le _ _) (by simpa using hn)
    · have hs := (HSE.out (bitW r)).1 (.mem (List.mem_map.2 ⟨r, hr, rfl⟩))
      exact hs.low fun s hs' => HOK.out.low s hs' c hc)
  have HB3 := Lib.hid ((HB1.out.trans (HBB.out.mono hsz1)).trans (hb3.mono hsz1))
  obtain ⟨ra, rc, rfl, -, -⟩ := own_open hro
  clear hst3 hpf hse hro hb3 hrows hvecs
  go_wp2
  go_ret2
  exact ⟨_, _, _, rfl, HR.out, HPF.out, HSE.out, HMK.out, HB3.out⟩
end Go.Proofs.YticoaioeeppapaaGreatDoor
end
