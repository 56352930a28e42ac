import Derived.Test.YtfibolkgpffjkaaGreatDoorG40
import Derived.RegionIn

section
/- The twelfth layer's laws: EncodeGoes: what goes over Each.. -/
namespace Go.Proofs.YtfibolkgpffjkaaGreatDoor
open Go.RowKit Go.Extern.Stop Go.Stop Go.Extern

structure GoM (w W : World) (E : Value) (st a n : Int) : Prop where
  b0 : Boxed W w.heap.size 27 E
  b1 : Boxed W (w.heap.size + 1) 3 (.int .i64 a)
  b2 : Boxed W (w.heap.size + 1 + 1) 3 (.int .i64 st)
  b3 : Boxed W (w.heap.size + 1 + 1 + 1) 3 (.int .i64 n)
  b4 : Boxed W (w.heap.size + 1 + 1 + 1 + 1) 4 (.bool true)
  bel : Below w.heap.size w W
section
variable {w W W' : World} {E : Value} {st a n : Int}
theorem GoM.bare (h : GoM w W E st a n) {row : Option Nat} (hg : W.grownBy W' row) (hr : ∀ r, row = some r → w.heap.size ≤ r ∧ ∃ o : Obj, W.heap[r]? = some o ∧ o.isCells = false) : GoM w W' E st a n :=
  have hr' := fun r e => (hr r e).2
  ⟨boxed_bare h.b0 hg hr', boxed_bare h.b1 hg hr', boxed_bare h.b2 hg hr', boxed_bare h.b3 hg hr', boxed_bare h.b4 hg hr', h.bel.grown hg h.bel.size (fun r e => (hr r e).1)⟩
theorem GoM.kept (h : GoM w W E st a n) (hb : Below W.heap.size W W') : GoM w W' E st a n :=
  ⟨(hb.block _ h.b0.lt).trans h.b0, (hb.block _ h.b1.lt).trans h.b1, (hb.block _ h.b2.lt).trans h.b2, (hb.block _ h.b3.lt).trans h.b3, (hb.block _ h.b4.lt).trans h.b4, h.bel.trans (hb.mono h.bel.size)⟩
theorem GoM.set1 (h : GoM w W E st a n) (a' : Int) : GoM w (W.setCell ⟨w.heap.size + 1, 0, none⟩ (.int .i64 a')) E st a' n :=
  ⟨h.b0.other (by omega) _, h.b1.set _, h.b2.other (by omega) _, h.b3.other (by omega) _, h.b4.other (by omega) _, h.bel.setCell (p := ⟨w.heap.size + 1, 0, none⟩) (by simp) _⟩
theorem GoM.set3 (h : GoM w W E st a n) (n' : Int) : GoM w (W.setCell ⟨w.heap.size + 1 + 1 + 1, 0, none⟩ (.int .i64 n')) E st a n' :=
  ⟨h.b0.other (by omega) _, h.b1.other (by omega) _, h.b2.other (by omega) _, h.b3.set _, h.b4.other (by omega) _, h.bel.setCell (p := ⟨w.heap.size + 1 + 1 + 1, 0, none⟩) (by simp; omega) _⟩
theorem GoM.round {b0 be : Nat} {W1 : World} (h : GoM w W E st a n) (hb : Below W.heap.size W W1) (hbe : be < w.heap.size) (a' n' : Int) :
    KeepsFrom b0 W ((W1.setCell ⟨w.heap.size + 1, 0, none⟩ (.int .i64 a')).setCell ⟨w.heap.size + 1 + 1 + 1, 0, none⟩ (.int .i64 n')) ∧
    KpE be w.heap.size W ((W1.setCell ⟨w.heap.size + 1, 0, none⟩ (.int .i64 a')).setCell ⟨w.heap.size + 1 + 1 + 1, 0, none⟩ (.int .i64 n')) ∧
    GoM w ((W1.setCell ⟨w.heap.size + 1, 0, none⟩ (.int .i64 a')).setCell ⟨w.heap.size + 1 + 1 + 1, 0, none⟩ (.int .i64 n')) E st a' n' := by
  have hz := h.bel.size
  have k1 : KeepsOthers W W1 := ⟨hb.size, fun k o hk _ => (hb.block k (Array.getElem?_eq_some_iff.1 hk).1).trans hk⟩
  refine ⟨((k1.trans (KeepsOthers.setCell _ _ _)).trans (KeepsOthers.setCell _ _ _)).from _, ⟨?_, ?_⟩, ((h.kept hb).set1 a').set3 n'⟩
  · rw [Below.heap_setCell _ _ _ be (show be ≠ w.heap.size + 1 + 1 + 1 by omega), Below.heap_setCell _ _ _ be (show be ≠ w.heap.size + 1 by omega)]
    exact hb.block be (by omega)
  · exact ((hb.mono hz).setCell (p := ⟨w.heap.size + 1, 0, none⟩) (by simp) _).setCell (p := ⟨w.heap.size + 1 + 1 + 1, 0, none⟩) (by simp; omega) _
end
/-- The invariant, and what the loop is left with. -/
def GoI (w : World) (E : Value) (at1 stop : Nat) (pre : List EsV) (W : World) : Prop := pre.length ≤ stop ∧ GoM w W E stop ((at1 + pre.length : Nat) : Int) (pre.length : Int)
def GoX (w : World) (E : Value) (at0 at1 stop : Nat) (c : Code) (_ : List EsV) (W : World) : Prop := c = .exit 0 ∧ at0 + stop < 65536 ∧ GoM w W E stop ((at1 + stop : Nat) : Int) (stop : Int)
theorem GoI.from {w : World} {E : Value} {at1 stop : Nat} (m : Nat) (hm : w.heap.size ≤ m) : OwnFrom m (GoI w E at1 stop) := by
  rintro pre X Y row ⟨h1, h⟩ hg hr
  exact ⟨h1, h.bare hg fun r e => ⟨Nat.le_trans hm (hr r e).1, (hr r e).2⟩⟩
theorem GoX.from {w : World} {E : Value} {at0 at1 stop : Nat} (m : Nat) (hm : w.heap.size ≤ m) (c : Code) : OwnFrom m (GoX w E at0 at1 stop c) := by
  rintro pre X Y row ⟨hc, h2, h⟩ hg hr
  exact ⟨hc, h2, h.bare hg fun r e => ⟨Nat.le_trans hm (hr r e).1, (hr r e).2⟩⟩
/-- The boxes ahead of the loop. -/
theorem goes_laid (w : World) (E : Value) (st a : Int) : ∃ W0, W0 = ((((w.alloc (.cells #[E] 27)).alloc (.cells #[.int .i64 a] 3)).alloc (.cells #[.int .i64 st] 3)).alloc (.cells #[.int .i64 0] 3)).alloc (.cells #[.bool true] 4) ∧ GoM w W0 E st a 0 ∧ Below w.heap.size w W0 ∧ W0.heap.size = w.heap.size + 1 + 1 + 1 + 1 + 1 := by
  have k0 := Boxed.new w 27 E
  have k1 := Boxed.new (w.alloc (.cells #[E] 27)) 3 (.int .i64 a)
  have k2 := Boxed.new ((w.alloc (.cells #[E] 27)).alloc (.cells #[.int .i64 a] 3)) 3 (.int .i64 st)
  have k3 := Boxed.new (((w.alloc (.cells #[E] 27)).alloc (.cells #[.int .i64 a] 3)).alloc (.cells #[.int .i64 st] 3)) 3 (.int .i64 0)
  have k4 := Boxed.new ((((w.alloc (.cells #[E] 27)).alloc (.cells #[.int .i64 a] 3)).alloc (.cells #[.int .i64 st] 3)).alloc (.cells #[.int .i64 0] 3)) 4 (.bool true)
  simp only [World.size_alloc] at k1 k2 k3 k4
  have hb : Below w.heap.size w (((((w.alloc (.cells #[E] 27)).alloc (.cells #[.int .i64 a] 3)).alloc (.cells #[.int .i64 st] 3)).alloc (.cells #[.int .i64 0] 3)).alloc (.cells #[.bool true] 4)) := (((((Below.refl _ w).alloc (Nat.le_refl _) _).alloc (by simp) _).alloc (by simp; omega) _).alloc (by simp; omega) _).alloc (by simp; omega) _
  exact ⟨_, rfl, ⟨(((k0.alloc _).alloc _).alloc _).alloc _, ((k1.alloc _).alloc _).alloc _, (k2.alloc _).alloc _, k3.alloc _, k4, hb⟩, hb, by simp⟩

section
open Go.Shelf
attribute [local go_sem] Oper.semAt_some

set_option maxRecDepth 1000000 in
set_option maxHeartbeats 8000000 in
theorem goes_any {w : World} {B g k s h l p sd size : Nat} {vm : Value} {V M : List (List Nat)} (hE : EncAt w B g k s h l p sd size vm V M) (hT : DgTab w) (f : Int) (at0 : Nat) (hf : max f 0 = (at0 : Int)) (hat : at0 ≤ 9223372036854775807) (be bf : Nat)
    (hbe : Boxed w be 27 (.pointer (some ⟨g, 0, none⟩))) (hbf : Boxed w bf 3 (.int .i64 f)) (stop : Nat) (hs : stop < 20) (at1 : Nat) (hat1 : at1 = min at0 65536) :
    Calls Tryz.prog 22 #[.pointer (some ⟨g, 0, none⟩), .func (.func 39) #[] #[.pointer (some ⟨bf, 0, none⟩), .pointer (some ⟨be, 0, none⟩)], .int .i64 (at0 : Int), .int .i64 (stop : Int)] w fun e w' => e = .returned (.tuple #[.int .i64 ((at1 + min stop (65536 - at1) : Nat) : Int), .bool true]) ∧ Below w.heap.size w w' := by
  have h1 : (1 : Nat) ≤ 3 := by omega
  have HE := Lib.hid hE
  have HT := Lib.hid hT
  have HBE := Lib.hid hbe
  have HBF := Lib.hid hbf
  have hbel := hbe.lt
  have HBEL := Lib.hid hbel
  clear hE hT hbe hbf hbel
  obtain ⟨W0, hW0, hM0, hb0, hz⟩ := goes_laid w (.pointer (some ⟨g, 0, none⟩)) stop at0
  have HW0 := Lib.hid hW0
  have HM0 := Lib.hid hM0
  have HB0 := Lib.hid hb0
  have c1 := hM0.b1.cell
  have f1 := hM0.b1.frozen
  clear hW0 hM0 hb0
  refine (callsIn_wide (n := 3)).1 ?_
  refine callsIn_of_wp_marks Tryz.func22 rfl trivial ?_ rfl
  simp only [Tryz.ntmps22, List.size_toArray, List.length_cons, List.length_nil, Nat.reduceAdd, Nat.reduceSub, Array.replicate_succ, Array.replicate_zero, List.push_toArray, List.append_toArray, List.nil_append, List.cons_append]
  gi_upto_region 3 with fail
  rw [← HW0.out]
  by_cases hbig : 65535 < at0
  · have d3 : decide ((65535 : Int) < (at0 : Int)) = true := decide_eq_true (by omega)
    obtain rfl : at1 = 65536 := by omega
    obtain ⟨W1, hW1⟩ : ∃ W1, W1 = W0.setCell ⟨w.heap.size + 1, 0, none⟩ (.int .i64 65536) := ⟨_, rfl⟩
    have HW1 := Lib.hid hW1
    have HM1 : Hid (GoM w W1 (.pointer (some ⟨g, 0, none⟩)) stop ((65536 + ([] : List EsV).length : Nat) : Int) (([] : List EsV).length : Int)) := Lib.hid (by rw [hW1]; exact HM0.out.set1 65536)
    have HB1 : Hid (Below w.heap.size w W1) := Lib.hid HM1.out.bel
    have HZ1 : Hid (W1.heap.size = w.heap.size + 1 + 1 + 1 + 1 + 1) := Lib.hid (by rw [hW1, World.size_setCell]; exact hz)
    clear hW1
    clear hat1
    gi_wp2_with fail
    rw [← HW1.out]
    have hz1 : W1.heap.size = w.heap.size + 1 + 1 + 1 + 1 + 1 := HZ1.out
    have HI0 : Hid (GoI w (.pointer (some ⟨g, 0, none⟩)) 65536 stop [] W1) := Lib.hid ⟨Nat.zero_le _, HM1.out⟩
    clear HW1 HZ1
    clear c1 f1
    refine wpIn_range_pre (F := Fence.wide) rfl h1 (gf := 39) (lb := #[.pointer (some ⟨bf, 0, none⟩), .pointer (some ⟨be, 0, none⟩)]) rfl trivial (enters_of Tryz.func39 (by kernel_rfl) rfl)
      (each_pre (3 - 1) (by omega) be bf HE.out HT.out f at0 hf hat ((HB1.out.block _ HBE.out.lt).trans HBE.out) ((HB1.out.block _ HBF.out.lt).trans HBF.out) HB1.out) (fun h k => KpE.trans h k) (KpE.book (by have := HBEL.out; omega) (by omega)) (Below.refl _ _) (fun _ => rfl)
      (GoI w (.pointer (some ⟨g, 0, none⟩)) 65536 stop) (GoX w (.pointer (some ⟨g, 0, none⟩)) at0 65536 stop) (GoI.from _ (by omega)) (fun c => GoX.from _ (by omega) c) (fun pre x => PrE.from at0 W1.heap.size l p sd size V pre x _) HI0.out
      (fun x => { tmps := #[.pointer (some ⟨g, 0, none⟩), .func (.func 39) #[] #[.pointer (some ⟨bf, 0, none⟩), .pointer (some ⟨be, 0, none⟩)], .int .i64 (at0 : Int), .int .i64 (stop : Int), .pointer (some ⟨w.heap.size, 0, none⟩), undef, .pointer (some ⟨w.heap.size + 1, 0, none⟩), .pointer (some ⟨w.heap.size + 1 + 1, 0, none⟩), .int .i64 0, .bool false, .pointer (some ⟨w.heap.size + 1 + 1 + 1, 0, none⟩), .pointer (some ⟨w.heap.size + 1 + 1 + 1 + 1, 0, none⟩), .int .i64 (x.1 : Int), x.2, undef, undef, .int .i64 (at0 : Int), .bool true, .func (.func 39) #[] #[.pointer (some ⟨bf, 0, none⟩), .pointer (some ⟨be, 0, none⟩)], .int .i64 (x.1 : Int), x.2, undef, undef, undef, undef, undef, undef, undef, undef, undef, undef, undef, undef, undef, undef, undef, undef, undef, undef, undef, undef, undef, undef, undef, undef, undef, undef, undef, undef, undef], defers := [] }) ?assign ?body ?done ?stop
    case assign =>
      rintro lq ⟨x1, x2⟩ W K hK
      dsimp only [encE] at hK ⊢
      gi_wp2
      exact hK
    case body =>
      rintro lq pre ⟨x1, x2⟩ W _ ⟨hx1, hx2, -⟩
      dsimp only at hx1 hx2
      omega
    case done =>
      rintro D xs W hD ⟨he1, he2⟩ ⟨hq, hm⟩ hK2
      have hmin : 65536 + min stop (65536 - 65536) = 65536 + xs.length := by
        rcases he2 with h | h
        · have h0 : xs.length = 0 := by rw [h]; rfl
          omega
        · omega
      obtain ⟨r, hr⟩ : ∃ r, 65536 + xs.length = r := ⟨_, rfl⟩
      rw [hr] at hmin hm
      have HMIN := Lib.hid hmin
      have c1 := hm.b1.cell
      have c4 := hm.b4.cell
      have HM := Lib.hid hm
      have hK3 : W.drew.heap[D]? = some (.deferred (some [])) := hK2
      have HK := Lib.hid hK3
      clear hm hK2 hK3 hmin he1 he2 hq hr
      gi_wp2_with fail
      gi_region
      all_goals gi_wp2
      all_goals refine ⟨by simp, .inl ⟨_, _, rfl, run_takeDeferred HK.out, ?_⟩⟩
      all_goals exact ⟨_, results_tmp2 rfl _ _ _, by rw [HMIN.out]; rfl, HM.out.bel.drew.trans (belowK_b (w := W1) (n₀ := w.heap.size) (by omega) W.drew D _ _ hD HK.out rfl rfl)⟩
    case stop =>
      rintro D c pre W hD hpos ⟨-, hat2, -⟩ hK2
      omega
  · have d3 : decide ((65535 : Int) < (at1 : Int)) = false := decide_eq_false (by omega)
    obtain rfl : at1 = at0 := by omega
    obtain ⟨W1, hW1⟩ : ∃ W1, W1 = W0 := ⟨_, rfl⟩
    have HW1 := Lib.hid hW1
    have HM1 : Hid (GoM w W1 (.pointer (some ⟨g, 0, none⟩)) stop ((at1 + ([] : List EsV).length : Nat) : Int) (([] : List EsV).length : Int)) := Lib.hid (by rw [hW1]; exact HM0.out)
    have HB1 : Hid (Below w.heap.size w W1) := Lib.hid HM1.out.bel
    have HZ1 : Hid (W1.heap.size = w.heap.size + 1 + 1 + 1 + 1 + 1) := Lib.hid (by rw [hW1]; exact hz)
    clear hW1
    clear hat1
    gi_wp2_with fail
    rw [← HW1.out]
    have hz1 : W1.heap.size = w.heap.size + 1 + 1 + 1 + 1 + 1 := HZ1.out
    have HI0 : Hid (GoI w (.pointer (some ⟨g, 0, none⟩)) at1 stop [] W1) := Lib.hid ⟨Nat.zero_le _, HM1.out⟩
    clear HW1 HZ1
    clear c1 f1
    refine wpIn_range_pre (F := Fence.wide) rfl h1 (gf := 39) (lb := #[.pointer (some ⟨bf, 0, none⟩), .pointer (some ⟨be, 0, none⟩)]) rfl trivial (enters_of Tryz.func39 (by kernel_rfl) rfl)
      (each_pre (3 - 1) (by omega) be bf HE.out HT.out f at1 hf hat ((HB1.out.block _ HBE.out.lt).trans HBE.out) ((HB1.out.block _ HBF.out.lt).trans HBF.out) HB1.out) (fun h k => KpE.trans h k) (KpE.book (by have := HBEL.out; omega) (by omega)) (Below.refl _ _) (fun _ => rfl)
      (GoI w (.pointer (some ⟨g, 0, none⟩)) at1 stop) (GoX w (.pointer (some ⟨g, 0, none⟩)) at1 at1 stop) (GoI.from _ (by omega)) (fun c => GoX.from _ (by omega) c) (fun pre x => PrE.from at1 W1.heap.size l p sd size V pre x _) HI0.out
      (fun x => { tmps := #[.pointer (some ⟨g, 0, none⟩), .func (.func 39) #[] #[.pointer (some ⟨bf, 0, none⟩), .pointer (some ⟨be, 0, none⟩)], .int .i64 (at1 : Int), .int .i64 (stop : Int), .pointer (some ⟨w.heap.size, 0, none⟩), undef, .pointer (some ⟨w.heap.size + 1, 0, none⟩), .pointer (some ⟨w.heap.size + 1 + 1, 0, none⟩), .int .i64 0, .bool false, .pointer (some ⟨w.heap.size + 1 + 1 + 1, 0, none⟩), .pointer (some ⟨w.heap.size + 1 + 1 + 1 + 1, 0, none⟩), .int .i64 (x.1 : Int), x.2, undef, undef, .int .i64 (at1 : Int), .bool false, .func (.func 39) #[] #[.pointer (some ⟨bf, 0, none⟩), .pointer (some ⟨be, 0, none⟩)], .int .i64 (x.1 : Int), x.2, undef, undef, undef, undef, undef, undef, undef, undef, undef, undef, undef, undef, undef, undef, undef, undef, undef, undef, undef, undef, undef, undef, undef, undef, undef, undef, undef, undef, undef], defers := [] }) ?assign ?body ?done ?stop
    case assign =>
      rintro lq ⟨x1, x2⟩ W K hK
      dsimp only [encE] at hK ⊢
      gi_wp2
      exact hK
    case body =>
      rintro lq pre ⟨x1, x2⟩ W ⟨hq, hm⟩ ⟨hx1, hx2, hx3⟩
      dsimp only at hx1 hx2 hx3 ⊢
      obtain ⟨q, hql⟩ : ∃ q, pre.length = q := ⟨_, rfl⟩
      rw [hql] at hq hx1 hm
      obtain ⟨rfl, hx1'⟩ : x1 = at1 + q ∧ at1 = at1 := ⟨by omega, by omega⟩
      obtain ⟨aq, haq⟩ : ∃ aq, at1 + q = aq := ⟨_, rfl⟩
      rw [haq] at hx1 hx2 hx3 hm ⊢
      have HQ := Lib.hid hql
      have HAQ := Lib.hid haq
      have HX1 := Lib.hid hx1
      have HX1' := Lib.hid hx1'
      have HM := Lib.hid hm
      have HX3 := Lib.hid hx3
      have c2 := hm.b2.cell
      have c3 := hm.b3.cell
      obtain ⟨ax, cx, rfl, -, -⟩ := own_open hx3
      by_cases hqs : q = stop
      · have hqb : ((q : Int) == (stop : Int)) = true := by rw [beq_iff_eq]; omega
        have HQS := Lib.hid hqs
        clear hqs hql haq hx1 hx1' hm hx3 hq
        gi_wp2
        exact ⟨KeepsFrom.refl _ _, rfl, by have := HQS.out; have := HAQ.out; have := HX1'.out; omega, by rw [← HQS.out, HAQ.out]; have := HM.out; rwa [← HQS.out] at this⟩
      · have hqb : ((q : Int) == (stop : Int)) = false := by rw [beq_eq_false_iff_ne]; omega
        have HQS := Lib.hid (show q + 1 ≤ stop by omega)
        have HSY := Lib.hid (EnSym_ok (HE.out.mono hm.bel) aq hx2 (PairsAt.mono HT.out hm.bel))
        have c0 := hm.b0.cell
        have hnn : ((aq : Int) != (aq : Int)) = false := by simp
        have hw1 : IntKind.i64.wrap ((aq : Int) + 1) = (aq : Int) + 1 := IntWalk.i64_in _ (by omega)
        have hw3 : IntKind.i64.wrap ((q : Int) + 1) = (q : Int) + 1 := IntWalk.i64_in _ (by omega)
        clear hqs hql haq hx1 hx1' hm hx3 hq
        gi_wp2_with fail
        refine ⟨trivial, ?_⟩
        gi_at_call 14
        refine (CallsIn.inRound lq (callsIn_wide.2 HSY.out)).mono ?_
        rintro e w2 ⟨v2, rfl, ho2, hb2⟩
        have HM2 := HM.out.kept hb2
        have hl1 := ListAt.of_owns (n := (symE l p sd size V aq).length) (f := byteV) (l := symE l p sd size V aq) (by rw [symE_length]; exact owns_kept HX3.out hb2)
        have hl2 := ListAt.of_owns (n := (symE l p sd size V aq).length) (f := byteV) (l := symE l p sd size V aq) (by rw [symE_length]; exact ho2)
        obtain ⟨a2, cc2, rfl, -, -⟩ := own_open ho2
        have hk1 := hl1.str
        have hk2 := hl2.str
        have HND := Lib.hid (HM.out.round (b0 := W1.heap.size) hb2 HBEL.out ((aq : Int) + 1) ((q : Int) + 1))
        have c1 := HM2.b1.cell
        have f1 := HM2.b1.frozen
        have c3' := (HM2.set1 ((aq : Int) + 1)).b3.cell
        have f3' := (HM2.set1 ((aq : Int) + 1)).b3.frozen
        clear ho2 hb2 hl1 hl2 HM2 c0 c2 c3
        generalize strN (symE l p sd size V aq) = str at *
        gi_wp2
        have hfin : GoI w (.pointer (some ⟨g, 0, none⟩)) at1 stop (pre ++ [(aq, Value.slice ax size cx)]) ((w2.setCell ⟨w.heap.size + 1, 0, none⟩ (.int .i64 ((aq : Int) + 1))).setCell ⟨w.heap.size + 1 + 1 + 1, 0, none⟩ (.int .i64 ((q : Int) + 1))) := by
          have h3 := HND.out.2.2
          have e1 : ((at1 + (pre ++ [(aq, Value.slice ax size cx)]).length : Nat) : Int) = (aq : Int) + 1 := by
            rw [List.length_append, HQ.out, List.length_singleton]
            have := HAQ.out
            omega
          have e2 : (((pre ++ [(aq, Value.slice ax size cx)]).length : Nat) : Int) = (q : Int) + 1 := by
            rw [List.length_append, HQ.out, List.length_singleton]
            omega
          refine ⟨by rw [List.length_append, HQ.out]; exact HQS.out, ?_⟩
          rw [e1, e2]
          exact h3
        exact ⟨HND.out.1, HND.out.2.1, hfin⟩
    case done =>
      rintro D xs W hD ⟨he1, he2⟩ ⟨hq, hm⟩ hK2
      have hmin : at1 + min stop (65536 - at1) = at1 + xs.length := by
        rcases he2 with h | h
        · have h0 : xs.length = 0 := by rw [h]; rfl
          omega
        · omega
      obtain ⟨r, hr⟩ : ∃ r, at1 + xs.length = r := ⟨_, rfl⟩
      rw [hr] at hmin hm
      have HMIN := Lib.hid hmin
      have c1 := hm.b1.cell
      have c4 := hm.b4.cell
      have HM := Lib.hid hm
      have hK3 : W.drew.heap[D]? = some (.deferred (some [])) := hK2
      have HK := Lib.hid hK3
      clear hm hK2 hK3 hmin he1 he2 hq hr
      gi_wp2_with fail
      gi_region
      all_goals gi_wp2
      all_goals refine ⟨by simp, .inl ⟨_, _, rfl, run_takeDeferred HK.out, ?_⟩⟩
      all_goals exact ⟨_, results_tmp2 rfl _ _ _, by rw [HMIN.out]; rfl, HM.out.bel.drew.trans (belowK_b (w := W1) (n₀ := w.heap.size) (by omega) W.drew D _ _ hD HK.out rfl rfl)⟩
    case stop =>
      rintro D c pre W hD hpos ⟨rfl, hat2, hm⟩ hK2
      have hmin : at1 + min stop (65536 - at1) = at1 + stop := by omega
      obtain ⟨r, hr⟩ : ∃ r, at1 + stop = r := ⟨_, rfl⟩
      rw [hr] at hmin hm
      have HMIN := Lib.hid hmin
      have c1 := hm.b1.cell
      have c4 := hm.b4.cell
      have HM := Lib.hid hm
      have hK3 : W.drew.heap[D]? = some (.deferred (some [])) := hK2
      have HK := Lib.hid hK3
      clear hm hK2 hK3 hmin hr
      gi_wp2_with fail
      gi_region
      all_goals gi_wp2
      all_goals refine ⟨by simp, .inl ⟨_, _, rfl, run_takeDeferred HK.out, ?_⟩⟩
      all_goals exact ⟨_, results_tmp2 rfl _ _ _, by rw [HMIN.out]; rfl, HM.out.bel.drew.trans (belowK_b (w := W1) (n₀ := w.heap.size) (by omega) W.drew D _ _ hD HK.out rfl rfl)⟩
end
end Go.Proofs.YtfibolkgpffjkaaGreatDoor
end
