import Derived.Test.YtkfimdpcadbcpaaGreatDoorA15
import Derived.BigQuiet
import Derived.Deep.QuietTactic
import Derived.Deep.CutBlock
import Derived.Test.YtkfimdpcadbcpaaGreatDoorA13
import Derived.Test.YtkfimdpcadbcpaaGreatDoorA02
import Derived.Test.YtkfimdpcadbcpaaGreatDoorA01
set_option linter.unusedSimpArgs false
set_option linter.unusedVariables false
set_option maxRecDepth 1000000
set_option maxHeartbeats 8000000
namespace Go.Proofs.YtkfimdpcadbcpaaGreatDoor
section
open Go.RowKit Go.Extern.Stop Go.Stop Go.Extern
def KpW (b : Nat) (W W' : World) : Prop := W'.heap[b]? = W.heap[b]?
theorem KpW.refl (b : Nat) (W : World) : KpW b W W := rfl
theorem KpW.trans {b : Nat} {A B C : World} (h : KpW b A B) (k : KpW b B C) : KpW b A C := Eq.trans k h
theorem KpW.book {b : Nat} {w : World} (h1 : b < w.heap.size) (W : World) (l : Nat) (o o' : Obj) (hl : w.heap.size ≤ l) (_ : W.heap[l]? = some o) (_ : o.isCells = false) (_ : o.isWalk = false) : KpW b W (W.putObj l o') :=
  World.putObj_heap_other (by omega)
theorem zF6 {β : Type} {B : Nat} {J : β → World → Prop} (h : AbidesFrom B J) {s : β} {W : World} (hj : J s W) : J s W.drew :=
  h s W W.drew none hj ⟨rfl, rfl, rfl, Nat.le_refl _, fun _ _ _ => rfl⟩ (fun r e => by cases e)
section
open Go.Shelf
attribute [local go_sem] Oper.semAt_some
theorem zKH (n : Nat) (_hn : 1 ≤ n) (l bw wt : Nat) (_hwt : wt ≤ 16) (J Jx : List (Fin 1048576) → World → Prop)
    (W : World) (hJ : AbidesFrom W.heap.size J) 
    (hY : ∀ pre x W, J pre W → pre.length < 1048576 → YieldAt Fence.wide (n - 1) Tryz.prog l #[.int .i64 (x.1 : Int)] W fun e W' =>
      (e = .returned (.bool true) ∧ J (pre ++ [x]) W' ∧ KpW bw W W') ∨ (e = .returned (.bool false) ∧ Jx (pre ++ [x]) W'))
    (hb : Boxed W bw 3 (.int .i64 (wt : Int))) (h0 : J [] W) :
    CallsIn Fence.wide n Tryz.prog 249 #[.func (.yield l) #[] #[], .pointer (some ⟨bw, 0, none⟩)] W fun e W' => (∃ v, e = .returned v) ∧
      ((∃ ys : List (Fin 1048576), ys.map (·.1) = graysTo wt 1048576 ∧ J ys W') ∨ (∃ pre : List (Fin 1048576), (∃ (k : Nat) (p : List (Fin 1048576)) (x : Fin 1048576), k ≤ 1048576 ∧ pre = p ++ [x] ∧ p.map (·.1) = graysTo wt k) ∧ Jx pre W')) := by
  have HJ := lhd hJ
  have HB := lhd hb
  clear hJ hb
  refine callsIn_of_wp Tryz.func249 rfl trivial ?_ rfl
  simp only [Tryz.ntmps249, List.size_toArray, List.length_cons, List.length_nil, Nat.reduceAdd, Nat.reduceSub, Array.replicate_succ, Array.replicate_zero, List.push_toArray, List.append_toArray, List.nil_append, List.cons_append]
  gi_wp2
  gi_loopw [5] (fun i wr => ∃ (k : Nat) (pre : List (Fin 1048576)), k ≤ 1048576 ∧ i = .int .i64 k ∧ pre.map (·.1) = graysTo wt k ∧ J pre wr ∧ KpW bw W wr) (fun i _ => 1048576 - (intOf i).toNat)
  case atStart => exact ⟨0, [], by omega, rfl, rfl, h0, KpW.refl _ _⟩
  case round =>
    obtain ⟨k, pre, hk, rfl, hpre, hJs, hkp⟩ := hrel
    have HK := lhd hkp
    have HP := lhd hpre
    by_cases hlt : k < 1048576
    · have d1 : decide ((k : Int) < 1048576) = true := decide_eq_true (by omega)
      have hgl : gry k < 1048576 := zMb (n := 20) (by omega)
      have hX := zMv hlt
      have hcw : wr.drew.cell? ⟨bw, 0, none⟩ = some (.int .i64 (wt : Int)) := (World.cell?_of_block (w := W) (a := ⟨bw, 0, none⟩) hkp).trans HB.out.cell
      have hpl : pre.length < 1048576 := by
        have : pre.length = (graysTo wt k).length := by rw [← hpre, List.length_map]
        have := zDw wt k
        omega
      have hJd : J pre wr.drew := zF6 HJ.out hJs
      obtain ⟨P, hP⟩ : ∃ P, pop (gry k) = P := ⟨_, rfl⟩
      have hpp := zIE (gry k)
      have HOC : Hid (Calls Tryz.prog 250 #[.int .u64 (IntKind.u64.wrap ((gry k : Nat) : Int))] wr.drew fun e w'' => e = .returned (.int .i64 (P : Int)) ∧ w'' = wr.drew) := lhd (by
        rw [← hP, zA5 _ (by omega)]
        refine (zJT (gry k) (by omega) _).mono ?_
        rintro e w' ⟨rfl, rfl⟩
        exact ⟨rfl, rfl⟩)
      have HG1 : Hid (P = wt → graysTo wt (k + 1) = graysTo wt k ++ [gry k]) := lhd fun h => zFV (hP.trans h)
      have HG2 : Hid (P ≠ wt → graysTo wt (k + 1) = graysTo wt k) := lhd fun h => zEL (by rw [hP]; exact h)
      rw [hP] at hpp
      clear hP
      by_cases hp : P = wt
      · have HS : Hid ((pre ++ [(⟨gry k, hgl⟩ : Fin 1048576)]).map (fun x : Fin 1048576 => x.1) = graysTo wt (k + 1)) := lhd (by rw [List.map_append, hpre, HG1.out hp]; rfl)
        have hbq : ((P : Int) == (wt : Int)) = true := by rw [beq_iff_eq]; omega
        obtain ⟨fn, tmps, assign, body, hy, hR⟩ := hY _ ⟨gry k, hgl⟩ wr.drew hJd hpl
        dsimp only at hy
        have HR := lhd hR
        clear hJs hpre hkp hpl hJd hp hR HG1 HG2
        generalize gry k = g at *
        gi_wp2_with fail
        refine zA0 8 (by kernel_rfl) (by kernel_rfl) ?_
        simp only [List.take_succ_cons, List.take_zero, List.drop_succ_cons, List.drop_zero]
        repeat still_step
        still_call HOC.out
        repeat still_step
        refine wpStill_nil ?_
        gi_wp2
        refine HR.out.mono ?_
        rintro e W3 (⟨rfl, hJ3, hk3⟩ | ⟨rfl, hJx3⟩)
        · have HJ3 := lhd hJ3
          have HK3 : Hid (KpW bw W W3) := lhd (KpW.trans HK.out hk3)
          clear hJ3 hk3
          gi_wp2
          go_roundw
          case rel => exact ⟨k + 1, _, by omega, by go_num, HS.out, HJ3.out, HK3.out⟩
          case measure => simp [intOf]; omega
        · have HJ3 := lhd hJx3
          clear hJx3
          gi_wp2
          refine bodyPost_ret (results_none rfl _ _ _) rfl ?_
          exact ⟨⟨_, rfl⟩, .inr ⟨_, ⟨k, pre, _, hk, rfl, HP.out⟩, HJ3.out⟩⟩
      · have HS : Hid (pre.map (fun x : Fin 1048576 => x.1) = graysTo wt (k + 1)) := lhd (by rw [HG2.out hp]; exact hpre)
        have hbq : ((P : Int) == (wt : Int)) = false := by rw [beq_eq_false_iff_ne]; omega
        have HJ3 := lhd hJd
        clear hJs hpre hkp hpl hJd hp HG1 HG2
        generalize gry k = g at *
        gi_wp2_with fail
        refine zA0 8 (by kernel_rfl) (by kernel_rfl) ?_
        simp only [List.take_succ_cons, List.take_zero, List.drop_succ_cons, List.drop_zero]
        repeat still_step
        still_call HOC.out
        repeat still_step
        refine wpStill_nil ?_
        refine zJ3 (by rfl) ?_
        gi_wp2
        go_roundw
        case rel => exact ⟨k + 1, pre, by omega, by go_num, HS.out, HJ3.out, HK.out⟩
        case measure => simp [intOf]; omega
    · have hk1 : k = 1048576 := by omega
      subst hk1
      have HJ2 := lhd hJs
      clear hJs hpre hkp hk hlt
      gi_wp2
      go_end0
      exact ⟨⟨_, rfl⟩, .inl ⟨pre, HP.out, HJ2.out⟩⟩
theorem zM4 (n : Nat) (wt : Int) (w : World) :
    CallsIn Fence.wide n Tryz.prog 247 #[.int .i64 wt] w fun e w' => e = .returned (.func (.func 249) #[] #[.pointer (some ⟨w.heap.size, 0, none⟩)]) ∧ w' = w.alloc (.cells #[.int .i64 wt] 3) := by
  refine callsIn_of_wp Tryz.func247 rfl trivial ?_ rfl
  simp only [Tryz.ntmps247, List.size_toArray, List.length_cons, List.length_nil, Nat.reduceAdd, Nat.reduceSub, Array.replicate_succ, Array.replicate_zero, List.push_toArray, List.append_toArray, List.nil_append, List.cons_append]
  gi_wp2
  go_ret
  exact ⟨rfl, rfl⟩
theorem zHT (n : Nat) (hn : 1 ≤ n) (bw wt : Nat) (hwt : wt ≤ 16) (w : World) (hb : Boxed w bw 3 (.int .i64 (wt : Int))) :
    SeqStopsK Fence.wide n Tryz.prog 249 #[.pointer (some ⟨bw, 0, none⟩)] (fun x : Fin 1048576 => #[Value.int .i64 (x.1 : Int)]) (KpW bw) (fun ys => ys.map (·.1) = graysTo wt 1048576)
      (fun pre => ∃ (k : Nat) (p : List (Fin 1048576)) (x : Fin 1048576), k ≤ 1048576 ∧ pre = p ++ [x] ∧ p.map (·.1) = graysTo wt k) 1048576 w := fun l J Jx W hW hJ _ hY h0 =>
  zKH n hn l bw wt hwt J Jx W hJ hY ((hW.block bw hb.lt).trans hb) h0
def FiI (w : World) (n wt : Nat) (pre : List (Fin 1048576)) (W : World) : Prop :=
  ∃ v q, pre.length = q ∧ q ≤ n ∧ Boxed W w.heap.size 3 (.int .i64 (n : Int)) ∧ Boxed W (w.heap.size + 1) 32 v ∧ Boxed W (w.heap.size + 1 + 1) 3 (.int .i64 (wt : Int)) ∧
    W.ownsRow (w.heap.size + 1 + 1 + 1) 3 1 v q ((pre.map (·.1)).map colV) ∧ Below w.heap.size w W
def FiX (w : World) (n wt : Nat) (c : Code) (pre : List (Fin 1048576)) (W : World) : Prop := c = .exit 0 ∧ ∃ p x, pre = p ++ [x] ∧ p.length = n ∧ FiI w n wt p W
theorem FiI.bare {w W W' : World} {n wt : Nat} {pre : List (Fin 1048576)} {row : Option Nat} (h : FiI w n wt pre W) (hg : W.grownBy W' row) (hr : ∀ r, row = some r → w.heap.size ≤ r ∧ ∃ o : Obj, W.heap[r]? = some o ∧ o.isCells = false) : FiI w n wt pre W' := by
  obtain ⟨v, q, h1, h2, h3, h4, h5, h6, h7⟩ := h
  have hr' := fun r e => (hr r e).2
  exact ⟨v, q, h1, h2, zCn h3 hg hr', zCn h4 hg hr', zCn h5 hg hr', zEd h6 hg hr', h7.grown hg h7.size (fun r e => (hr r e).1)⟩
theorem FiI.from (w : World) (n wt m : Nat) (hm : w.heap.size ≤ m) : OwnFrom m (FiI w n wt) := by
  rintro pre X Y row h hg hr
  exact h.bare hg (fun r e => ⟨Nat.le_trans hm (hr r e).1, (hr r e).2⟩)
theorem FiX.from (w : World) (n wt m : Nat) (hm : w.heap.size ≤ m) (c : Code) : OwnFrom m (FiX w n wt c) := by
  rintro pre X Y row ⟨hc, p, x, h1, h2, h⟩ hg hr
  exact ⟨hc, p, x, h1, h2, h.bare hg (fun r e => ⟨Nat.le_trans hm (hr r e).1, (hr r e).2⟩)⟩
theorem FiI.more {w W w1 : World} {n wt q B g cap : Nat} {pre : List (Fin 1048576)} {x : Fin 1048576} {v : Value} {o : Obj} (hq : pre.length = q) (hqn : q < n) (h3 : Boxed W w.heap.size 3 (.int .i64 (n : Int))) (h4 : Boxed W (w.heap.size + 1) 32 v) (h5 : Boxed W (w.heap.size + 1 + 1) 3 (.int .i64 (wt : Int)))
    (h6 : W.ownsRow (w.heap.size + 1 + 1 + 1) 3 1 v q ((pre.map (·.1)).map colV)) (h7 : Below w.heap.size w W)
    (hown : w1.ownsRow (w.heap.size + 1 + 1 + 1) 3 1 (.slice (some ⟨g, 0, none⟩) (q + 1) cap) (q + 1) ((pre.map (·.1)).map colV ++ [.int .i64 (x.1 : Int)])) (hg : (W.alloc o).grownBy w1 v.ownBlock) :
    (KeepsFrom B W (w1.setCell ⟨w.heap.size + 1, 0, none⟩ (.slice (some ⟨g, 0, none⟩) (q + 1) cap)) ∧ KpW (w.heap.size + 1 + 1) W (w1.setCell ⟨w.heap.size + 1, 0, none⟩ (.slice (some ⟨g, 0, none⟩) (q + 1) cap)) ∧ FiI w n wt (pre ++ [x]) (w1.setCell ⟨w.heap.size + 1, 0, none⟩ (.slice (some ⟨g, 0, none⟩) (q + 1) cap))) ∧ Boxed w1 (w.heap.size + 1) 32 v := by
  obtain ⟨a1, a2, a3, a4, a5⟩ := h4.appended (n₀ := w.heap.size) (by decide) (zAd h6 (by omega)) h7.size (by omega) (zAd hown (by omega)) hg
  have hne : ∀ b, b < w.heap.size + 1 + 1 + 1 → some b ≠ v.ownBlock := fun b hb e => by
    have := (h6.lt b e.symm).1
    omega
  have key : ∀ {b : Nat} {t : TypeId} {u : Value}, b < w.heap.size + 1 + 1 + 1 → b ≠ w.heap.size + 1 → Boxed W b t u → Boxed (w1.setCell ⟨w.heap.size + 1, 0, none⟩ (.slice (some ⟨g, 0, none⟩) (q + 1) cap)) b t u := fun {b t u} hb hb1 h =>
    (Below.heap_setCell _ _ _ b hb1).trans ((h.alloc o).kept hg (hne b hb))
  have k5 := key (by omega) (by omega) h5
  refine ⟨⟨a4.from B, (show _ = _ from k5).trans (show W.heap[_]? = _ from h5).symm, _, q + 1, by rw [List.length_append, hq]; rfl, by omega, key (by omega) (by omega) h3, a2, k5, ?_, h7.trans (a5.mono (Nat.le_refl _))⟩, a1⟩
  rw [List.map_append, List.map_append]
  exact hown.kept (grownBy_setCell' w1 _ _) (.inr (by
    intro e
    have := (hown.lt _ e).1
    omega))
theorem zJ8 {w : World} (wt n : Nat) (hwt : wt ≤ 16) (hn : n ≤ 100000) :
    Calls Tryz.prog 236 #[.int .i64 (wt : Int), .int .i64 (n : Int)] w fun e w' => ∃ v l, e = .returned v ∧ IsGr wt n l ∧ w'.ownsRow w.heap.size 3 1 v l.length (l.map colV) ∧ Below w.heap.size w w' := by
  obtain ⟨i0, hi, hz0, hz1, hz2⟩ := info_parts zAR
  have h1 : (1 : Nat) ≤ 3 := by omega
  refine (callsIn_wide (n := 3)).1 ?_
  refine callsIn_of_wp_marks Tryz.func236 rfl trivial ?_ rfl
  simp only [Tryz.ntmps236, List.size_toArray, List.length_cons, List.length_nil, Nat.reduceAdd, Nat.reduceSub, Array.replicate_succ, Array.replicate_zero, List.push_toArray, List.append_toArray, List.nil_append, List.cons_append]
  gi_wp2_with (refine ⟨trivial, ?_⟩; gi_at_call 247; refine (zM4 _ _ _).mono ?_; rintro e w' ⟨rfl, rfl⟩)
  have b1 := Boxed.new w 3 (.int .i64 (n : Int))
  have b2 := Boxed.new (w.alloc (.cells #[.int .i64 (n : Int)] 3)) 32 nilS
  have b3 := Boxed.new ((w.alloc (.cells #[.int .i64 (n : Int)] 3)).alloc (.cells #[nilS] 32)) 3 (.int .i64 (wt : Int))
  have hb0 : Below w.heap.size w (((w.alloc (.cells #[.int .i64 (n : Int)] 3)).alloc (.cells #[nilS] 32)).alloc (.cells #[.int .i64 (wt : Int)] 3)) := (((Below.refl _ w).alloc (Nat.le_refl _) _).alloc (by simp) _).alloc (by simp; omega) _
  have hz : (((w.alloc (.cells #[.int .i64 (n : Int)] 3)).alloc (.cells #[nilS] 32)).alloc (.cells #[.int .i64 (wt : Int)] 3)).heap.size = w.heap.size + 1 + 1 + 1 := by simp
  rw [World.size_alloc] at b2 b3
  rw [World.size_alloc] at b3
  have b1 := (b1.alloc (.cells #[nilS] 32)).alloc (.cells #[.int .i64 (wt : Int)] 3)
  have b2 := b2.alloc (.cells #[.int .i64 (wt : Int)] 3)
  generalize (((w.alloc (.cells #[.int .i64 (n : Int)] 3)).alloc (.cells #[nilS] 32)).alloc (.cells #[.int .i64 (wt : Int)] 3)) = W0 at *
  have hI0 : FiI w n wt [] W0 := ⟨nilS, 0, rfl, Nat.zero_le _, b1, b2, b3, World.ownsRow_nil _ _ _ _, hb0⟩
  refine wpIn_rangeFunc_ownG (F := Fence.wide) rfl h1 (gf := 249) (lb := #[.pointer (some ⟨w.heap.size + 1 + 1, 0, none⟩)]) rfl trivial (enters_of Tryz.func249 (by kernel_rfl) rfl)
    (zHT (3 - 1) (by omega) (w.heap.size + 1 + 1) wt hwt W0 b3) (fun h k => KpW.trans h k) (KpW.book (by omega)) (Below.refl _ _) (fun _ => rfl)
    (FiI w n wt) (FiX w n wt) (FiI.from w n wt _ (by omega)) (fun c => FiX.from w n wt _ (by omega) c) hI0
    (fun x => { tmps := #[.int .i64 (wt : Int), .int .i64 (n : Int), undef, .pointer (some ⟨w.heap.size, 0, none⟩), .slice none 0 0, .pointer (some ⟨w.heap.size + 1, 0, none⟩), .int .i64 (x.1 : Int), .int .i64 (wt : Int), .func (.func 249) #[] #[.pointer (some ⟨w.heap.size + 1 + 1, 0, none⟩)], .int .i64 (x.1 : Int), undef, undef, undef, undef, undef, undef, undef, undef, undef], defers := [] }) ?assign ?body ?done ?stop
  case assign =>
    intro l x W K hK
    gi_wp2
    exact hK
  case body =>
    rintro l pre x W hI hlt
    have HI := lhd hI
    obtain ⟨v, q, hq, hqn, h3, h4, h5, h6, h7⟩ := hI
    obtain ⟨ao, co, rfl, -, -⟩ := zAe h6
    have hc4 := h4.cell
    have hc3 := h3.cell
    by_cases hqq : q = n
    · have hb : ((q : Int) == (n : Int)) = true := by rw [beq_iff_eq]; omega
      have HQ := lhd (hq.trans hqq)
      clear h3 h4 h5 h6 h7 hq b1 b2 b3 hb0 hI0 hqq
      gi_wp2
      exact ⟨KeepsFrom.refl _ _, rfl, pre, x, rfl, HQ.out, HI.out⟩
    · have hb : ((q : Int) == (n : Int)) = false := by rw [beq_eq_false_iff_ne]; omega
      have HEND : Hid (∀ g cap w1, w1.ownsRow (w.heap.size + 1 + 1 + 1) 3 1 (.slice (some ⟨g, 0, none⟩) (q + 1) cap) (q + 1) ((pre.map (·.1)).map colV ++ [.int .i64 (x.1 : Int)]) → (W.alloc (.cells #[.int .i64 (x.1 : Int)] 3)).grownBy w1 (Value.slice ao q co).ownBlock →
        (KeepsFrom W0.heap.size W (w1.setCell ⟨w.heap.size + 1, 0, none⟩ (.slice (some ⟨g, 0, none⟩) (q + 1) cap)) ∧ KpW (w.heap.size + 1 + 1) W (w1.setCell ⟨w.heap.size + 1, 0, none⟩ (.slice (some ⟨g, 0, none⟩) (q + 1) cap)) ∧ FiI w n wt (pre ++ [x]) (w1.setCell ⟨w.heap.size + 1, 0, none⟩ (.slice (some ⟨g, 0, none⟩) (q + 1) cap))) ∧ Boxed w1 (w.heap.size + 1) 32 (.slice ao q co)) :=
        lhd fun g cap w1 ho hg => FiI.more hq (by omega) h3 h4 h5 h6 h7 ho hg
      have HO := lhd h6
      have hsz := (h5.lt)
      clear h3 h4 h5 h6 h7 hq b1 b2 b3 hb0 hI0
      gi_wp2_with (gi_at_builtin; refine wpListIn_append_own _ rfl _ _ 32 rfl (w.heap.size + 1 + 1 + 1) 3 i0 (.int .i64 0) 1 8 Tryz.underlying32 hi hz0 hz1 hz2 rfl (by decide) (.slice ao q co) q ((pre.map (·.1)).map colV) rfl (HO.out.alloc _) ⟨W.heap.size, 0, none⟩ 1 1 [.int .i64 (x.1 : Int)] rfl rfl (cell_one_new _ _ _) (by simp [Value.oneCell']) (by unfold maxLen; omega) (by omega) (by simp; omega) ?_; intro v' w1 hown' hgrow _; obtain ⟨g', cap', rfl⟩ := ownsRow_succ hown'; obtain ⟨hE1, hE2⟩ := HEND.out g' cap' w1 hown' hgrow; have HE := lhd hE1; have hc1 := hE2.cell; have hf1 := hE2.frozen; clear hE1 hE2 hown' hgrow)
      exact HE.out
  case done =>
    rintro D xs W hD hxs ⟨v, q, hq, hqn, h3, h4, h5, h6, h7⟩ hK2
    have hq' : (graysTo wt 1048576).length = q := by rw [← hxs, List.length_map, hq]
    rw [hxs] at h6
    have HE : Hid (IsGr wt n (graysTo wt 1048576)) := lhd ⟨1048576, Nat.le_refl _, rfl, by rw [hq']; exact hqn, .inr rfl⟩
    have HQ := lhd hq'
    have HO := lhd h6
    have HB := lhd h7
    have hc4 := h4.cell
    obtain ⟨ao, co, rfl, -, -⟩ := zAe h6
    clear h3 h4 h5 h6 h7 hq b1 b2 b3 hb0 hI0 hxs hq'
    generalize graysTo wt 1048576 = L at *
    gi_wp2
    refine ⟨by simp, .inl ⟨_, _, rfl, run_takeDeferred hK2, ?_⟩⟩
    have hgp := grownBy_putObj' W D (.deferred none)
    have hrp : ∀ r, some D = some r → ∃ o : Obj, W.heap[r]? = some o ∧ o.isCells = false := fun r e' => by cases e'; exact ⟨_, hK2, rfl⟩
    exact ⟨_, results_tmp rfl _ _ _, _, L, rfl, HE.out, by rw [HQ.out]; exact zEd (zAd HO.out (by omega)) hgp hrp, HB.out.trans (belowK_b (w := W0) (n₀ := w.heap.size) (by omega) W D _ _ hD hK2 rfl rfl)⟩
  case stop =>
    rintro D c pre W hD ⟨k, p', x', hk, hp', hpk⟩ ⟨rfl, p, x, hpp, hpn, v, q, hq, hqn, h3, h4, h5, h6, h7⟩ hK2
    obtain ⟨rfl, -⟩ := List.append_inj' (hpp.symm.trans hp') rfl
    have hq' : (graysTo wt k).length = q := by rw [← hpk, List.length_map, hq]
    rw [hpk] at h6
    have HE : Hid (IsGr wt n (graysTo wt k)) := lhd ⟨k, hk, rfl, by rw [hq']; exact hqn, .inl (by rw [hq', ← hq]; exact hpn)⟩
    have HQ := lhd hq'
    have HO := lhd h6
    have HB := lhd h7
    have hc4 := h4.cell
    obtain ⟨ao, co, rfl, -, -⟩ := zAe h6
    clear h3 h4 h5 h6 h7 hq b1 b2 b3 hb0 hI0 hpp hp' hpk hq'
    generalize graysTo wt k = L at *
    gi_wp2
    refine ⟨by simp, .inl ⟨_, _, rfl, run_takeDeferred hK2, ?_⟩⟩
    have hgp := grownBy_putObj' W D (.deferred none)
    have hrp : ∀ r, some D = some r → ∃ o : Obj, W.heap[r]? = some o ∧ o.isCells = false := fun r e' => by cases e'; exact ⟨_, hK2, rfl⟩
    exact ⟨_, results_tmp rfl _ _ _, _, L, rfl, HE.out, by rw [HQ.out]; exact zEd (zAd HO.out (by omega)) hgp hrp, HB.out.trans (belowK_b (w := W0) (n₀ := w.heap.size) (by omega) W D _ _ hD hK2 rfl rfl)⟩
end
end

section
open Go.RowKit Go.Extern.Stop Go.Stop Go.Extern
theorem RowsM.start {W : World} {B bx G n : Nat} (hbox : W.heap[bx]? = some (.cells #[.slice (some ⟨G, 0, none⟩) n n] 185 (0, 0))) (h : W.ownsRow B 32 1 (.slice (some ⟨G, 0, none⟩) n n) n (List.replicate n nilS)) (hB : B ≤ bx) :
    RowsM W B bx G n (fun _ => nilS) (fun _ => []) := by
  refine ⟨hbox, ?_, fun r hr => World.ownsRow_nil _ _ _ _, fun r s _ _ _ => .inl rfl, hB⟩
  have : (List.range n).map (fun _ => nilS) = List.replicate n nilS := by
    apply List.ext_getElem
    · simp
    · intro i a1 a2; simp
  rw [this]; exact h
theorem zMP {s j : Nat} (h3 : 3 ≤ s) (hs : s ≤ 1000) (hj : j ≤ 1000) : wrap64 (1 + (wrap64 ((j : Int) / (s : Int))).tmod ((s : Int) - 1)) = ((ldA s j : Nat) : Int) := by
  have e1 : ((j : Int) / (s : Int)) = ((j / s : Nat) : Int) := (Int.natCast_ediv _ _).symm
  have h1 : j / s ≤ j := Nat.div_le_self _ _
  unfold ldA
  rw [e1]
  clear e1
  generalize j / s = q at *
  obtain ⟨t, ht⟩ : ∃ t : Nat, s - 1 = t := ⟨_, rfl⟩
  have e2 : wrap64 (q : Int) = (q : Int) := by unfold wrap64; omega
  have e3 : ((s : Int) - 1) = (t : Int) := by omega
  have h2 : q % t ≤ q := Nat.mod_le _ _
  have e4 : ((q : Int)).tmod (t : Int) = ((q % t : Nat) : Int) := by
    rw [Int.tmod_eq_emod_of_nonneg (Int.natCast_nonneg q)]; exact (Int.natCast_emod _ _).symm
  rw [e2, e3, ht, e4]
  generalize q % t = r at *
  unfold wrap64
  omega
theorem zD2 {w : World} {B n : Nat} {e : TypeId} {v : Value} {xs : List Value} (h : w.ownsRow B e 1 v n xs) (hn : 0 < n) :
    ∃ g cap cur, v = .slice (some ⟨g, 0, none⟩) n cap ∧ B ≤ g ∧ w.heap[g]? = some (.cells cur e (0, 0)) ∧ ∀ i, i < n → cur[i]? = xs[i]? := by
  rcases h.2 with ⟨_, h0⟩ | ⟨g, cap, cur, hv, hb, hg, hc, hm, hs, ht⟩
  · omega
  · refine ⟨g, cap, cur, hv, hb, hg, fun i hi => ?_⟩
    rw [← ht, List.getElem?_take, if_pos (by omega)]
    simp
structure GaS (w0 W : World) (pb G bx n k s h l p : Nat) (f : Nat → List Nat) : Prop where
  rows : ∃ vs, RowsM W G bx G n vs f
  bel : Below G w0 W
  par : ParBox W pb k s h l p
  lt : pb < G
  sz : G ≤ W.heap.size
section
variable {w0 W W' : World} {pb G bx n k s h l p : Nat} {f f' : Nat → List Nat}
theorem GaS.mono (g : GaS w0 W pb G bx n k s h l p f) (hb : Below W.heap.size W W') : GaS w0 W' pb G bx n k s h l p f := by
  obtain ⟨vs, hv⟩ := g.rows
  exact ⟨⟨vs, hv.mono hb⟩, g.bel.trans (hb.mono g.sz), g.par.mono hb, g.lt, Nat.le_trans g.sz hb.size⟩
theorem GaS.add (g : GaS w0 W pb G bx n k s h l p f) {r x : Nat} (hr : r < n) (hl : ∀ d, (f d).length ≤ 100000) :
    Calls Tryz.prog 235 #[.int .i64 (r : Int), .int .i64 (x : Int), .pointer (some ⟨bx, 0, none⟩)] W fun e w' => (∃ v, e = .returned v) ∧ GaS w0 w' pb G bx n k s h l p (addAt f r x) := by
  obtain ⟨vs, hv⟩ := g.rows
  refine (zGM G bx G n r x vs f hv hr hl g.sz).mono ?_
  rintro e w' ⟨he, ⟨vs', hr', -⟩, hb⟩
  exact ⟨he, ⟨vs', hr'⟩, g.bel.trans hb, (hb.block pb g.lt).trans g.par, g.lt, Nat.le_trans g.sz hb.size⟩
end
structure GaG (w0 W : World) (pb G bx n k s h l p : Nat) (f : Nat → List Nat) (gb : Nat) (o : Obj) : Prop where
  rows : ∃ vs, RowsM W G bx G n vs f ∧ ∀ d, d < n → (vs d).ownBlock ≠ some gb
  bel : Below G w0 W
  par : ParBox W pb k s h l p
  lt : pb < G
  sz : G ≤ W.heap.size
  far : gb ≠ G
  obj : W.heap[gb]? = some o
section
variable {w0 W W' : World} {pb G bx n k s h l p gb : Nat} {o : Obj} {f f' : Nat → List Nat}
theorem GaG.congr (g : GaG w0 W pb G bx n k s h l p f gb o) (e : ∀ r, r < n → f r = f' r) : GaG w0 W pb G bx n k s h l p f' gb o := by
  obtain ⟨vs, hv, hn⟩ := g.rows
  exact ⟨⟨vs, hv.congr e, hn⟩, g.bel, g.par, g.lt, g.sz, g.far, g.obj⟩
theorem GaG.to (g : GaG w0 W pb G bx n k s h l p f gb o) : GaS w0 W pb G bx n k s h l p f := by
  obtain ⟨vs, hv, hn⟩ := g.rows
  exact ⟨⟨vs, hv⟩, g.bel, g.par, g.lt, g.sz⟩
theorem GaS.with (g : GaS w0 W pb G bx n k s h l p f) (hb : Below W.heap.size W W') (hg : W.heap.size ≤ gb) (ho : W'.heap[gb]? = some o) : GaG w0 W' pb G bx n k s h l p f gb o := by
  have g' := g.mono hb
  obtain ⟨vs, hv⟩ := g.rows
  refine ⟨⟨vs, hv.mono hb, fun d hd e => ?_⟩, g'.bel, g'.par, g'.lt, g'.sz, ?_, ho⟩
  · have := ((hv.row d hd).lt gb e).2
    omega
  · have := (hv.own.lt G rfl).2
    omega
theorem GaG.add (g : GaG w0 W pb G bx n k s h l p f gb o) {r x : Nat} (hr : r < n) (hl : ∀ d, (f d).length ≤ 100000) :
    Calls Tryz.prog 235 #[.int .i64 (r : Int), .int .i64 (x : Int), .pointer (some ⟨bx, 0, none⟩)] W fun e w' => (∃ v, e = .returned v) ∧ GaG w0 w' pb G bx n k s h l p (addAt f r x) gb o := by
  obtain ⟨vs, hv, hn⟩ := g.rows
  refine (zGM G bx G n r x vs f hv hr hl g.sz).mono ?_
  rintro e w' ⟨he, ⟨vs', hr', hk⟩, hb⟩
  obtain ⟨k1, k2⟩ := hk gb (Array.getElem?_eq_some_iff.1 g.obj).1 g.far hn
  exact ⟨he, ⟨vs', hr', k2⟩, g.bel.trans hb, (hb.block pb g.lt).trans g.par, g.lt, Nat.le_trans g.sz hb.size, g.far, k1.trans g.obj⟩
end
theorem zGn {w : World} (k s h l p : Nat) (H : OfP k s h l p) (hk1 : 1 ≤ k) (hk2 : k ≤ 128) :
    Calls Tryz.prog 209 #[parV k s h l p] w fun e w' => ∃ v g, e = .returned v ∧ IsGr ((h + 1) / 2) (k + s) g ∧ MatAt colV w' v (rowsP k s h g) ∧ Below w.heap.size w w' := by
  obtain ⟨i0, hi, hz0, hz1, hz2⟩ := info_parts zJB
  obtain ⟨b1, b2, b3, b4, -⟩ := H.bounds hk1 hk2
  have ho := zMo H hk1 hk2
  obtain ⟨w0, hw0, hb0, hbx⟩ := zAi w k s h l p
  have HW0 := lhd hw0
  have HB0 := lhd hb0
  have HBX := lhd hbx
  have HS0 : Hid (w0.heap.size = w.heap.size + 1) := lhd (by rw [hw0]; simp)
  obtain ⟨c0, c1, c2, c3, c4⟩ := hbx.cells
  have HOF := lhd H
  have HODD := lhd ho
  clear hw0 hb0 hbx H ho
  obtain ⟨n, hn⟩ : ∃ n, n = s + h := ⟨_, rfl⟩
  have hnI : (s : Int) + (h : Int) = (n : Int) := by omega
  have HN := lhd hn
  have hn29 : n ≤ 29 := by omega
  clear hn
  unfold parV parC
  go_enter Tryz.func209, Tryz.ntmps209
  go_upto_region 1 with fail
  rw [← HW0.out]
  go_upto_region 2 with (at_make; refine wpList_make_full _ rfl _ _ 185 rfl w0.heap.size 32 i0 (.slice none 0 0) 1 Tryz.underlying185 hi hz0 hz1 .i64 .i64 _ _ n rfl rfl (by omega) (by omega) (by rw [hz2]; omega) (by unfold maxLen; omega) (Nat.le_refl _) ?_; intro w1 hown hgrow; have HB1 := lhd ((Below.refl w0.heap.size w0).grown hgrow (Nat.le_refl _) (fun k hk => by cases hk)); have HO1 := lhd (toList_madeCells_one (.slice none 0 0) n ▸ (Nat.mul_one n ▸ hown)); clear hown hgrow)
  have HM : Hid (RowsM (w1.alloc (.cells #[.slice (some ⟨w0.heap.size, 0, none⟩) n n] 185)) w0.heap.size w1.heap.size w0.heap.size n (fun _ => nilS) (fA k s 0)) := lhd ((RowsM.start (heap_alloc_new w1 _) (HO1.out.alloc _) HB1.out.size).congr fun r _ => (zMi k s r).symm)
  have HB2 : Hid (Below w0.heap.size w0 (w1.alloc (.cells #[.slice (some ⟨w0.heap.size, 0, none⟩) n n] 185))) := lhd (HB1.out.alloc HB1.out.size _)
  have HGS : Hid (GaS w0 (w1.alloc (.cells #[.slice (some ⟨w0.heap.size, 0, none⟩) n n] 185)) w.heap.size w0.heap.size w1.heap.size n k s h l p (fA k s 0)) := lhd ⟨⟨_, HM.out⟩, HB2.out, HBX.out.mono HB2.out, by have := HS0.out; omega, HB2.out.size⟩
  generalize w1.heap.size = bx at *
  generalize w0.heap.size = G at *
  generalize w1.alloc (.cells #[.slice (some ⟨G, 0, none⟩) n n] 185) = W1 at *
  clear HM HB2 HB1 HO1 c0 c1 c2 c3 c4
  obtain ⟨pb, hpb⟩ : ∃ pb, w.heap.size = pb := ⟨_, rfl⟩
  rw [hpb] at HGS ⊢
  have HPB := lhd hpb
  clear hpb
  obtain ⟨c0, c1, c2, c3, c4⟩ := HGS.out.par.cells
  go_wp2_with fail
  clear c0 c1 c2 c3 c4
  go_loopw [22] (fun i wr => ∃ j : Nat, j ≤ k ∧ i = .int .i64 j ∧ GaS w0 wr pb G bx n k s h l p (fA k s j)) (fun i _ => k - (intOf i).toNat)
  case atStart => exact ⟨0, Nat.zero_le _, rfl, HGS.out⟩
  case round =>
    clear HGS
    obtain ⟨j, hj, rfl, hgs⟩ := hrel
    have HG := lhd hgs
    obtain ⟨c0, c1, c2, c3, c4⟩ := hgs.par.cells
    clear hgs
    by_cases hlt : j < k
    · have hs0 : (s : Int) ≠ 0 := by omega
      have hs1 : ((s : Int) == 0) = false := by rw [beq_eq_false_iff_ne]; exact hs0
      have hs2 : (s : Int) - 1 ≠ 0 := by omega
      have hs3 : ((s : Int) - 1 == 0) = false := by rw [beq_eq_false_iff_ne]; exact hs2
      have HA : Hid (wrap64 (1 + (wrap64 ((j : Int) / (s : Int))).tmod ((s : Int) - 1)) = ((ldA s j : Nat) : Int)) := lhd (zMP (by omega) (by omega) (by omega))
      have HBv : Hid ((j : Int) % (s : Int) = ((j % s : Nat) : Int)) := lhd (Int.natCast_emod _ _).symm
      obtain ⟨l1, l2, l3, n1, n2, n3, a1, a2⟩ := three (i := j) b1 HODD.out
      have HSTEP := lhd (zM7 (i := j) b1 HODD.out hlt)
      have hfl : ∀ d, (fA k s j d).length ≤ 1000 := fun d => zN1 d (by omega)
      have HF0 := lhd hfl
      have HF1 : Hid (∀ d, (addAt (fA k s j) (j % s) j d).length ≤ 1001) := lhd fun d => zDk hfl d
      have HF2 : Hid (∀ d, (addAt (addAt (fA k s j) (j % s) j) ((j % s + ldA s j) % s) j d).length ≤ 1002) := lhd fun d => zDk (fun d => zDk hfl d) d
      have hY : ((j % s : Nat) : Int) + ((ldA s j : Nat) : Int) = ((j % s + ldA s j : Nat) : Int) := by omega
      have hZ : ((j % s : Nat) : Int) + 2 * ((ldA s j : Nat) : Int) = ((j % s + 2 * ldA s j : Nat) : Int) := by omega
      have hY2 : (((j % s : Nat) : Int) + ((ldA s j : Nat) : Int)) % (s : Int) = (((j % s + ldA s j) % s : Nat) : Int) := by rw [hY]; exact (Int.natCast_emod _ _).symm
      have hZ2 : (((j % s : Nat) : Int) + 2 * ((ldA s j : Nat) : Int)) % (s : Int) = (((j % s + 2 * ldA s j) % s : Nat) : Int) := by rw [hZ]; exact (Int.natCast_emod _ _).symm
      have HY2 := lhd hY2
      have HZ2 := lhd hZ2
      clear hY hZ hY2 hZ2 hfl n1 n2 n3
      go_wp2_with fail
      go_quiet (fail)
      rw [HA.out, HBv.out]
      have hd := zDe (Below.refl wr.heap.size wr) nq
      have HG1 := lhd (HG.out.mono hd)
      clear hd c0 c1 c2 c3 c4 HA HBv HG
      generalize j % s = x at *
      generalize ldA s j = a at *
      generalize (x + a) % s = y at *
      generalize (x + 2 * a) % s = z at *
      generalize wr.drewN nq = wq at *
      have hxn : x < n := by have := HN.out; omega
      have hyn : y < n := by have := HN.out; omega
      have hzn : z < n := by have := HN.out; omega
      have hY2 := HY2.out
      have hZ2 := HZ2.out
      go_wp2_with fail
      refine (HG1.out.add hxn (fun d => Nat.le_trans (HF0.out d) (by decide))).mono ?_
      rintro e w2 ⟨⟨v2, rfl⟩, hg2⟩
      have HG2 := lhd hg2
      obtain ⟨c0, c1, c2, c3, c4⟩ := hg2.par.cells
      clear hg2
      go_wp2_with fail
      refine (HG2.out.add hyn (fun d => Nat.le_trans (HF1.out d) (by decide))).mono ?_
      rintro e w3 ⟨⟨v3, rfl⟩, hg3⟩
      have HG3 := lhd hg3
      clear c0 c1 c2 c3 c4
      obtain ⟨c0, c1, c2, c3, c4⟩ := hg3.par.cells
      clear hg3
      go_wp2_with fail
      refine (HG3.out.add hzn (fun d => Nat.le_trans (HF2.out d) (by decide))).mono ?_
      rintro e w4 ⟨⟨v4, rfl⟩, hg4⟩
      rw [HSTEP.out] at hg4
      have HG4 := lhd hg4
      clear c0 c1 c2 c3 c4 hg4
      go_wp2
      go_roundw
      case rel => exact ⟨j + 1, by omega, by go_num, HG4.out⟩
      case measure => simp [intOf]; omega
    · obtain rfl : j = k := by omega
      have HB : Hid (GaS w0 wr pb G bx n j s h l p (fB j s 0)) := lhd (by have := HG.out; rw [zMj] at this; exact this)
      clear HG hlt hj
      go_wp2_with fail
      clear c0 c1 c2 c3 c4
      obtain ⟨wo, hwo⟩ : ∃ wo, wo = wr := ⟨_, rfl⟩
      subst hwo
      go_loopw [64] (fun i wr => ∃ t : Nat, t ≤ s ∧ i = .int .i64 t ∧ GaS w0 wr pb G bx n j s h l p (fB j s t)) (fun i _ => s - (intOf i).toNat)
      case atStart => exact ⟨0, Nat.zero_le _, rfl, HB.out⟩
      case round =>
        clear HB
        obtain ⟨t, ht, rfl, hgs⟩ := hrel
        have HG := lhd hgs
        obtain ⟨c0, c1, c2, c3, c4⟩ := hgs.par.cells
        clear hgs
        by_cases hlt : t < s
        · have HSTEP := lhd (zM2 (k := j) hlt)
          have HKT : Hid ((j : Int) + (t : Int) = ((j + t : Nat) : Int)) := lhd (by omega)
          have htn : t < n := by have := HN.out; omega
          go_wp2_with fail
          rw [HKT.out]
          refine (HG.out.add (x := j + t) htn (fun d => Nat.le_trans (zN3 d (by omega)) (by decide))).mono ?_
          rintro e w2 ⟨⟨v2, rfl⟩, hg2⟩
          rw [HSTEP.out] at hg2
          have HG2 := lhd hg2
          clear c0 c1 c2 c3 c4 hg2
          go_wp2
          go_roundw
          case rel => exact ⟨t + 1, by omega, by go_num, HG2.out⟩
          case measure => simp [intOf]; omega
        · obtain rfl : t = s := by omega
          have HB2 := lhd HG.out
          clear HG hlt ht
          go_wp2_with fail
          obtain ⟨M, hM⟩ : ∃ M, j + t = M := ⟨_, rfl⟩
          have HMM := lhd hM
          have hM1 : M ≤ 147 := by omega
          have hM2 : 1 ≤ M := by omega
          rw [show ((h : Int) + 1) / 2 = (((h + 1) / 2 : Nat) : Int) by omega, show (j : Int) + (t : Int) = (M : Int) by omega]
          clear hM
          refine (zJ8 ((h + 1) / 2) M (by omega) (by omega)).mono ?_
          rintro e w2 ⟨v, g, rfl, hgr, hown, hbf⟩
          rw [← HMM.out] at hgr
          obtain ⟨hgl, hgb⟩ := gr_of HOF.out hk1 hk2 hgr
          rw [HMM.out] at hgl
          have HGR := lhd hgr
          have HGB := lhd hgb
          have HGL := lhd hgl
          rw [hgl] at hown
          obtain ⟨gb, co, cur, rfl, hgbl, hgo, hcur⟩ := zD2 hown (by omega)
          have HG2 : Hid (GaG w0 w2 pb G bx n j t h l p (fC j t g 0 0) gb (.cells cur 3 (0, 0))) := lhd (by rw [← zMr]; exact HB2.out.with hbf hgbl hgo)
          have HC : Hid (∀ i, i < M → cur[i]? = some (.int .i64 ((g.getD i 0 : Nat) : Int))) := lhd fun i hi => by
            rw [hcur i hi]
            have hil : i < g.length := by rw [hgl]; exact hi
            simp [hil, colV]
          clear hgr hgb hgl hown hbf hgbl hgo hcur HB2 c0 c1 c2 c3 c4
          go_wp2_with fail
          obtain ⟨wo, hwo⟩ : ∃ wo, wo = w2 := ⟨_, rfl⟩
          subst hwo
          go_loopw [86] (fun i wr => ∃ q : Nat, q ≤ M ∧ i = .int .i64 q ∧ GaG w0 wr pb G bx n j t h l p (fC j t g q 0) gb (.cells cur 3 (0, 0))) (fun i _ => M - (intOf i).toNat)
          case atStart => exact ⟨0, Nat.zero_le _, rfl, HG2.out⟩
          case round =>
            clear HG2
            obtain ⟨q, hq, rfl, hgs⟩ := hrel
            have HG := lhd hgs
            obtain ⟨c0, c1, c2, c3, c4⟩ := hgs.par.cells
            have hob := hgs.obj
            clear hgs
            by_cases hlt : q < M
            · have hcx := zAa (j := q) hob (HC.out q hlt)
              have hX : g.getD q 0 < 2 ^ h ∧ pop (g.getD q 0) = (h + 1) / 2 := HGB.out _ (by
                have hil : q < g.length := by rw [HGL.out]; exact hlt
                rw [List.getD_eq_getElem?_getD, List.getElem?_eq_getElem hil]
                exact List.getElem_mem hil)
              have hp2 : 2 ^ h ≤ 2 ^ 10 := Nat.pow_le_pow_right (by decide) b3
              obtain ⟨X, hXe⟩ : ∃ X, g.getD q 0 = X := ⟨_, rfl⟩
              rw [hXe] at hcx hX
              have HX := lhd hXe
              have hX1 : X < 1024 := by have := hX.1; omega
              clear hX hp2 hXe hob
              go_wp2_with fail
              obtain ⟨wp, hwp⟩ : ∃ wp, wp = wr := ⟨_, rfl⟩
              subst hwp
              clear c0 c1 c2 c3 c4 hcx
              go_loopw [93] (fun i wr => ∃ y : Nat, y ≤ h ∧ i = .int .i64 y ∧ GaG w0 wr pb G bx n j t h l p (fC j t g q y) gb (.cells cur 3 (0, 0))) (fun i _ => h - (intOf i).toNat)
              case atStart => exact ⟨0, Nat.zero_le _, rfl, HG.out⟩
              case round =>
                clear HG
                obtain ⟨y, hy, rfl, hgs⟩ := hrel
                have HG := lhd hgs
                obtain ⟨c0, c1, c2, c3, c4⟩ := hgs.par.cells
                clear hgs
                by_cases hly : y < h
                · have HTY : Hid ((t : Int) + (y : Int) = ((t + y : Nat) : Int)) := lhd (by omega)
                  have htn : t + y < n := by have := HN.out; omega
                  by_cases hbit : X.testBit y = true
                  · have HSTEP := lhd (zNl (k := j) (s := t) (g := g) (j := q) (y := y) (by rw [HX.out]; exact hbit))
                    have hbv : (bits BinOp.and IntKind.i64 ((X : Int) / 2 ^ y) 1 == 1) = true := by rw [zDp, zCX]; exact hbit
                    clear hbit
                    go_wp2_with fail
                    rw [HTY.out]
                    refine (HG.out.add (x := q) htn (fun d => Nat.le_trans (zNo d (by omega) (by omega)) (by decide))).mono ?_
                    rintro e w3 ⟨⟨v3, rfl⟩, hg3⟩
                    rw [HSTEP.out] at hg3
                    have HG3 := lhd hg3
                    clear c0 c1 c2 c3 c4 hg3
                    go_wp2
                    go_roundw
                    case rel => exact ⟨y + 1, by omega, by go_num, HG3.out⟩
                    case measure => simp [intOf]; omega
                  · have hbit : X.testBit y = false := by simpa using hbit
                    have HSTEP := lhd (zNg (k := j) (s := t) (g := g) (j := q) (y := y) (by rw [HX.out]; exact hbit))
                    have hbv : (bits BinOp.and IntKind.i64 ((X : Int) / 2 ^ y) 1 == 1) = false := by rw [zDp, zCX]; exact hbit
                    clear hbit
                    go_wp2
                    go_roundw
                    case rel => exact ⟨y + 1, by omega, by go_num, by rw [← HSTEP.out]; exact HG.out⟩
                    case measure => simp [intOf]; omega
                · obtain rfl : y = h := by omega
                  have HG3 : Hid (GaG w0 wr pb G bx n j t y l p (fC j t g (q + 1) 0) gb (.cells cur 3 (0, 0))) := lhd (HG.out.congr fun r hr => zM6 (by have := HN.out; omega))
                  clear HG
                  go_wp2
                  go_roundw
                  case rel => exact ⟨q + 1, by omega, by go_num, HG3.out⟩
                  case measure => simp [intOf]; omega
            · obtain rfl : q = M := by omega
              have HD : Hid (GaS w0 wr pb G bx n j t h l p (fD j t g 0)) := lhd (by rw [← zMk, HMM.out]; exact HG.out.to)
              clear HG hob hq
              go_wp2_with fail
              obtain ⟨wp, hwp⟩ : ∃ wp, wp = wr := ⟨_, rfl⟩
              subst hwp
              clear c0 c1 c2 c3 c4
              go_loopw [112] (fun i wr => ∃ y : Nat, y ≤ h ∧ i = .int .i64 y ∧ GaS w0 wr pb G bx n j t h l p (fD j t g y)) (fun i _ => h - (intOf i).toNat)
              case atStart => exact ⟨0, Nat.zero_le _, rfl, HD.out⟩
              case round =>
                clear HD
                obtain ⟨y, hy, rfl, hgs⟩ := hrel
                have HG := lhd hgs
                obtain ⟨c0, c1, c2, c3, c4⟩ := hgs.par.cells
                clear hgs
                by_cases hly : y < h
                · have HTY : Hid ((t : Int) + (y : Int) = ((t + y : Nat) : Int)) := lhd (by omega)
                  have HJY : Hid ((j : Int) + (t : Int) + (y : Int) = ((j + t + y : Nat) : Int)) := lhd (by omega)
                  have htn : t + y < n := by have := HN.out; omega
                  have HSTEP := lhd (zMH (k := j) (s := t) (g := g) (y := y))
                  go_wp2_with fail
                  rw [HTY.out, HJY.out]
                  refine (HG.out.add (x := j + t + y) htn (fun d => Nat.le_trans (zNP d (by omega)) (by decide))).mono ?_
                  rintro e w3 ⟨⟨v3, rfl⟩, hg3⟩
                  rw [HSTEP.out] at hg3
                  have HG3 := lhd hg3
                  clear c0 c1 c2 c3 c4 hg3
                  go_wp2
                  go_roundw
                  case rel => exact ⟨y + 1, by omega, by go_num, HG3.out⟩
                  case measure => simp [intOf]; omega
                · obtain rfl : y = h := by omega
                  obtain ⟨vs, hvs⟩ := HG.out.rows
                  have hcb := zAa (j := 0) (u := .slice (some ⟨G, 0, none⟩) n n) hvs.box rfl
                  have HAT : Hid (MatAt colV wr (.slice (some ⟨G, 0, none⟩) n n) (rowsP j t y g)) := lhd (by rw [← zNV, ← HN.out]; exact hvs.at)
                  have HBE := lhd HG.out.bel
                  clear hvs
                  go_wp2
                  go_ret
                  exact ⟨_, g, rfl, HGR.out, HAT.out, HB0.out.trans (HBE.out.mono (by have := HS0.out; have := HPB.out; omega))⟩
end
end Go.Proofs.YtkfimdpcadbcpaaGreatDoor
