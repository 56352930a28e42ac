import Derived.Test.YtfibolkgpffjkaaGreatDoorG39
import Derived.Test.YtfibolkgpffjkaaGreatDoorG28
import Derived.Maps.AppendAt
import Derived.StillTactics
import Derived.Test.YtfibolkgpffjkaaGreatDoorG32
import Derived.Test.YtfibolkgpffjkaaGreatDoorG49

section
/- Package encode: Some. -/
namespace Go.Proofs.YtfibolkgpffjkaaGreatDoor
open Go.RowKit Go.Extern.Stop Go.Stop Go.Extern

/-- The encoding symbols from a number on. -/
noncomputable def symsE (l p sd size : Nat) (V : List (List Nat)) (at0 q : Nat) : List (List Nat) := (List.range q).map fun i => symE l p sd size V (at0 + i)
theorem symsE_length (l p sd size : Nat) (V : List (List Nat)) (at0 q : Nat) : (symsE l p sd size V at0 q).length = q := by simp [symsE]
theorem symsE_succ (l p sd size : Nat) (V : List (List Nat)) (at0 q : Nat) : symsE l p sd size V at0 (q + 1) = symsE l p sd size V at0 q ++ [symE l p sd size V (at0 + q)] := by
  unfold symsE
  rw [List.range_succ, List.map_append]
  rfl
theorem symsE_getD {l p sd size : Nat} {V : List (List Nat)} {at0 q i : Nat} (h : i < q) : (symsE l p sd size V at0 q).getD i [] = symE l p sd size V (at0 + i) := by
  unfold symsE
  rw [range_getD, if_pos h]

/-- What holds cells is left alone. -/
def CellsSame (X Y : World) : Prop := ∀ (x : Nat) (o : Obj), X.heap[x]? = some o → o.isCells = true → Y.heap[x]? = X.heap[x]?
theorem cells_same {X Y : World} {row : Option Nat} (hg : X.grownBy Y row) (hr : ∀ r, row = some r → ∃ o : Obj, X.heap[r]? = some o ∧ o.isCells = false) : CellsSame X Y :=
  fun x o hx hc => hg.block x (Array.getElem?_eq_some_iff.1 hx).1 (fun e => by
    obtain ⟨o', ho, hc'⟩ := hr x e.symm
    rw [hx] at ho
    cases ho
    rw [hc] at hc'
    cases hc')
theorem ListAt.bare {α : Type} {f : α → Value} {w w' : World} {v : Value} {l : List α} (h : ListAt f w v l) (hs : CellsSame w w') : ListAt f w' v l := by
  obtain ⟨a, cap, rfl, h1, h2, h3⟩ := h
  refine ⟨a, cap, rfl, h1, h2, fun hp => ?_⟩
  obtain ⟨b, off, rfl, hc⟩ := h3 hp
  refine ⟨b, off, rfl, fun j hj => ?_⟩
  have hx := hc j hj
  obtain ⟨o, ho, hco⟩ := cells_of_cell hx
  rw [World.cell?_of_block (w := w) (a := ⟨b, off + j, none⟩) (hs b o ho hco)]
  exact hx
theorem ElAt.bare {α : Type} {f : α → Value} {te : TypeId} {base : Nat} {w w' : World} {x : Value} {r : List α} (h : ElAt f te base w x r) (hs : CellsSame w w') : ElAt f te base w' x r := by
  refine ⟨h.1.bare hs, fun hp b hb => ?_⟩
  rcases h.2 hp b hb with h1 | ⟨cur, h1⟩
  · exact .inl h1
  · exact .inr ⟨cur, (hs b _ h1 rfl).trans h1⟩
theorem MatFresh.bare {α : Type} {f : α → Value} {te e : TypeId} {base : Nat} {w w' : World} {v : Value} {L : List (List α)} (h : MatFresh f te base e w v L) (hs : CellsSame w w') : MatFresh f te base e w' v L := by
  obtain ⟨vs, h1, h2, h3⟩ := h
  refine ⟨vs, ⟨h1.1, ?_⟩, fun i => (h2 i).bare hs, h3⟩
  rcases h1.2 with h4 | ⟨g, cap, cur, h4, h5, h6, h7⟩
  · exact .inl h4
  · exact .inr ⟨g, cap, cur, h4, h5, (hs g _ h6 rfl).trans h6, h7⟩

/-- Some's memory: the box of n, that of the list, the iterator's; the list so far. -/
structure SoM (w W : World) (B1 n : Nat) (E v : Value) (L : List (List Nat)) : Prop where
  b0 : Boxed W w.heap.size 3 (.int .i64 (n : Int))
  b1 : Boxed W (w.heap.size + 1) 22 v
  b2 : Boxed W (w.heap.size + 1 + 1) 27 E
  mat : MatFresh byteV 5 B1 38 W v L
  bel : Below w.heap.size w W
  hi : B1 ≤ W.heap.size
section
variable {w W W' : World} {B1 n : Nat} {E v : Value} {L : List (List Nat)}
theorem SoM.bare (h : SoM w W B1 n E v L) {row : Option Nat} (hg : W.grownBy W' row) (hr : ∀ r, row = some r → w.heap.size ≤ r ∧ ∃ o : Obj, W.heap[r]? = some o ∧ o.isCells = false) : SoM w W' B1 n E v L :=
  have hr' := fun r e => (hr r e).2
  ⟨boxed_bare h.b0 hg hr', boxed_bare h.b1 hg hr', boxed_bare h.b2 hg hr', h.mat.bare (cells_same hg hr'), h.bel.grown hg h.bel.size (fun r e => (hr r e).1), Nat.le_trans h.hi hg.size⟩
/-- One symbol more, behind the append and the store. -/
theorem SoM.more {B : Nat} {w1 : World} {x v' : Value} {r : List Nat} {o : Obj} {vs : List Value} (hB : w.heap.size + 1 + 1 + 1 ≤ B1) (h0 : Boxed W w.heap.size 3 (.int .i64 (n : Int))) (h1 : Boxed W (w.heap.size + 1) 22 v) (h2 : Boxed W (w.heap.size + 1 + 1) 27 E)
    (hown : W.ownsRow B1 38 1 v L.length vs) (hel : ∀ i, ElAt byteV 5 B1 W (vs.getD i nilS) (L.getD i [])) (hfr : ∀ x ∈ vs, ∀ b, x.ownBlock = some b → B1 ≤ b) (hbel : Below w.heap.size w W) (hhi : B1 ≤ W.heap.size)
    (hx : W.ownsRow B1 5 1 x r.length (r.map byteV)) (hown' : w1.ownsRow B1 38 1 v' (L.length + 1) (vs ++ [x])) (hg : (W.alloc o).grownBy w1 v.ownBlock) :
    (KeepsFrom B W (w1.setCell ⟨w.heap.size + 1, 0, none⟩ v') ∧ KpE (w.heap.size + 1 + 1) w.heap.size W (w1.setCell ⟨w.heap.size + 1, 0, none⟩ v') ∧ SoM w (w1.setCell ⟨w.heap.size + 1, 0, none⟩ v') B1 n E v' (L ++ [r])) ∧ Boxed w1 (w.heap.size + 1) 22 v := by
  obtain ⟨a1, a2, a3, a4, a5⟩ := h1.appended (n₀ := w.heap.size) (by decide) (ownsRow_base hown (by omega)) hbel.size (by omega) (ownsRow_base hown' (by omega)) hg
  have hne : ∀ b, b < w.heap.size + 1 + 1 + 1 → some b ≠ v.ownBlock := fun b hb e => by
    have := (hown.lt b e.symm).1
    omega
  have key : ∀ {b : Nat} {t : TypeId} {u : Value}, b < w.heap.size + 1 + 1 + 1 → b ≠ w.heap.size + 1 → Boxed W b t u → Boxed (w1.setCell ⟨w.heap.size + 1, 0, none⟩ v') b t u := fun {b t u} hb hb1 h =>
    (Below.heap_setCell _ _ _ b hb1).trans ((h.alloc o).kept hg (hne b hb))
  have k2 := key (by omega) (by omega) h2
  have hm : MatFresh byteV 5 B1 38 w1 v' (L ++ [r]) := MatFresh.app hfr (fun b hb => (hx.lt b hb).1) (by decide) hown hel (ElAt.own hx) hown' hg
  refine ⟨⟨a4.from B, ⟨(show _ = _ from k2).trans (show W.heap[_]? = _ from h2).symm, a5⟩, key (by omega) (by omega) h0, a2, k2, ?_, hbel.trans a5, ?_⟩, a1⟩
  · exact hm.far fun g hgB _ => Below.heap_setCell _ _ _ _ (show g ≠ w.heap.size + 1 by omega)
  · have h3 := hg.size
    rw [World.size_alloc] at h3
    rw [World.size_setCell]
    omega
end
/-- Some's invariant, and what it leaves the loop with. -/
def SoI (w : World) (B1 n l p sd size : Nat) (V : List (List Nat)) (at0 : Nat) (E : Value) (pre : List EsV) (W : World) : Prop := ∃ v, pre.length < n ∧ SoM w W B1 n E v (symsE l p sd size V at0 pre.length)
def SoX (w : World) (B1 n l p sd size : Nat) (V : List (List Nat)) (at0 : Nat) (E : Value) (c : Code) (pre : List EsV) (W : World) : Prop := c = .exit 0 ∧ ∃ v, pre.length = n ∧ at0 + n ≤ 65536 ∧ SoM w W B1 n E v (symsE l p sd size V at0 pre.length)
theorem SoI.from {w : World} {B1 n l p sd size : Nat} {V : List (List Nat)} {at0 : Nat} {E : Value} (m : Nat) (hm : w.heap.size ≤ m) : OwnFrom m (SoI w B1 n l p sd size V at0 E) := by
  rintro pre X Y row ⟨v, h1, h⟩ hg hr
  exact ⟨v, h1, h.bare hg fun r e => ⟨Nat.le_trans hm (hr r e).1, (hr r e).2⟩⟩
theorem SoX.from {w : World} {B1 n l p sd size : Nat} {V : List (List Nat)} {at0 : Nat} {E : Value} (m : Nat) (hm : w.heap.size ≤ m) (c : Code) : OwnFrom m (SoX w B1 n l p sd size V at0 E c) := by
  rintro pre X Y row ⟨hc, v, h1, h2, h⟩ hg hr
  exact ⟨hc, v, h1, h2, h.bare hg fun r e => ⟨Nat.le_trans hm (hr r e).1, (hr r e).2⟩⟩

set_option maxRecDepth 1000000 in
/-- Of n below 1 there are none. -/
theorem Some_few {w : World} (E : Option Addr) (f n : Int) (hn : n < 1) : Calls Tryz.prog 23 #[.pointer E, .int .i64 f, .int .i64 n] w fun e w' => e = .returned nilS ∧ Below w.heap.size w w' := by
  have hb : Below w.heap.size w (w.alloc (.cells #[.int .i64 n] 3)) := (Below.refl _ _).alloc (Nat.le_refl _) _
  have HB := Lib.hid hb
  clear hb
  go_enter Tryz.func23, Tryz.ntmps23
  go_wp2
  go_ret
  exact ⟨rfl, HB.out⟩

section
open Go.Shelf
attribute [local go_sem] Oper.semAt_some

set_option maxRecDepth 1000000 in
set_option maxHeartbeats 4000000 in
theorem Some_any {w : World} {B g k s h l p sd size : Nat} {vm : Value} {V M : List (List Nat)} (hE : EncAt w B g k s h l p sd size vm V M) (hT : DgTab w) (f : Int) (at0 : Nat) (hf : max f 0 = (at0 : Int)) (hat : at0 ≤ 9223372036854775807) (n : Nat) (hn1 : 1 ≤ n) (hn : n ≤ 100000) :
    Calls Tryz.prog 23 #[.pointer (some ⟨g, 0, none⟩), .int .i64 f, .int .i64 (n : Int)] w fun e w' => ∃ v B1, e = .returned v ∧ MatFresh byteV 5 B1 38 w' v (symsE l p sd size V at0 (min n (65536 - at0))) ∧ w.heap.size ≤ B1 ∧ Below w.heap.size w w' := by
  obtain ⟨i0, hi, hz0, hz1, hz2⟩ := info_parts info_sym
  have h1 : (1 : Nat) ≤ 3 := by omega
  have HE := Lib.hid hE
  have HT := Lib.hid hT
  clear hE hT
  have d0 : decide ((n : Int) < 1) = false := decide_eq_false (by omega)
  refine (callsIn_wide (n := 3)).1 ?_
  refine callsIn_of_wp_marks Tryz.func23 rfl trivial ?_ rfl
  simp only [Tryz.ntmps23, List.size_toArray, List.length_cons, List.length_nil, Nat.reduceAdd, Nat.reduceSub, Array.replicate_succ, Array.replicate_zero, List.push_toArray, List.append_toArray, List.nil_append, List.cons_append]
  gi_wp2_with (refine ⟨trivial, ?_⟩; gi_at_call 21; refine (each_in _ _ _ _).mono ?_; rintro e w' ⟨rfl, rfl⟩)
  obtain ⟨W0, hW0⟩ : ∃ W0, W0 = (((w.alloc (.cells #[.int .i64 (n : Int)] 3)).alloc (.cells #[nilS] 22)).alloc (.cells #[.pointer (some ⟨g, 0, none⟩)] 27)).alloc (.cells #[.int .i64 f] 3) := ⟨_, rfl⟩
  obtain ⟨b1, b2, b3, b4, hb0, hz⟩ : Boxed W0 w.heap.size 3 (.int .i64 (n : Int)) ∧ Boxed W0 (w.heap.size + 1) 22 nilS ∧ Boxed W0 (w.heap.size + 1 + 1) 27 (.pointer (some ⟨g, 0, none⟩)) ∧ Boxed W0 (w.heap.size + 1 + 1 + 1) 3 (.int .i64 f) ∧ Below w.heap.size w W0 ∧ W0.heap.size = w.heap.size + 1 + 1 + 1 + 1 := by
    have k1 := Boxed.new w 3 (.int .i64 (n : Int))
    have k2 := Boxed.new (w.alloc (.cells #[.int .i64 (n : Int)] 3)) 22 nilS
    have k3 := Boxed.new ((w.alloc (.cells #[.int .i64 (n : Int)] 3)).alloc (.cells #[nilS] 22)) 27 (.pointer (some ⟨g, 0, none⟩))
    have k4 := Boxed.new (((w.alloc (.cells #[.int .i64 (n : Int)] 3)).alloc (.cells #[nilS] 22)).alloc (.cells #[.pointer (some ⟨g, 0, none⟩)] 27)) 3 (.int .i64 f)
    simp only [World.size_alloc] at k2 k3 k4
    rw [hW0]
    exact ⟨((k1.alloc _).alloc _).alloc _, (k2.alloc _).alloc _, k3.alloc _, k4, ((((Below.refl _ w).alloc (Nat.le_refl _) _).alloc (by simp) _).alloc (by simp; omega) _).alloc (by simp; omega) _, by simp⟩
  rw [← hW0]
  clear hW0
  have hI0 : SoI w W0.heap.size n l p sd size V at0 (.pointer (some ⟨g, 0, none⟩)) [] W0 := ⟨nilS, hn1, b1, b2, b3, MatFresh.empty W0, hb0, Nat.le_refl _⟩
  refine wpIn_range_pre (F := Fence.wide) rfl h1 (gf := 39) (lb := #[.pointer (some ⟨w.heap.size + 1 + 1 + 1, 0, none⟩), .pointer (some ⟨w.heap.size + 1 + 1, 0, none⟩)]) rfl trivial (enters_of Tryz.func39 (by kernel_rfl) rfl)
    (each_pre (3 - 1) (by omega) (w.heap.size + 1 + 1) (w.heap.size + 1 + 1 + 1) HE.out HT.out f at0 hf hat b3 b4 hb0) (fun h k => KpE.trans h k) (KpE.book (by omega) (by omega)) (Below.refl _ _) (fun _ => rfl)
    (SoI w W0.heap.size n l p sd size V at0 (.pointer (some ⟨g, 0, none⟩))) (SoX w W0.heap.size n l p sd size V at0 (.pointer (some ⟨g, 0, none⟩))) (SoI.from _ (by omega)) (fun c => SoX.from _ (by omega) c) (fun pre x => PrE.from at0 W0.heap.size l p sd size V pre x _) hI0
    (fun x => { tmps := #[.pointer (some ⟨g, 0, none⟩), .int .i64 f, .int .i64 (n : Int), undef, undef, .pointer (some ⟨w.heap.size, 0, none⟩), .slice none 0 0, .pointer (some ⟨w.heap.size + 1, 0, none⟩), undef, x.2, .int .i64 (n : Int), .bool false, .pointer (some ⟨g, 0, none⟩), .int .i64 f, .func (.func 39) #[] #[.pointer (some ⟨w.heap.size + 1 + 1 + 1, 0, none⟩), .pointer (some ⟨w.heap.size + 1 + 1, 0, none⟩)], .int .i64 (x.1 : Int), x.2, undef, undef, undef, undef, undef, undef, undef, undef, undef], defers := [] }) ?assign ?body ?done ?stop
  case assign =>
    rintro lq ⟨x1, x2⟩ W K hK
    dsimp only [encE] at hK ⊢
    gi_wp2
    exact hK
  case body =>
    rintro lq pre ⟨x1, x2⟩ W hI ⟨hx1, hx2, hx3⟩
    dsimp only at hx1 hx2 hx3 ⊢
    obtain ⟨v, hq, h0, h2, h3, ⟨vs, hown, hel, hfr⟩, hbel, hhi⟩ := hI
    obtain ⟨q, hql⟩ : ∃ q, pre.length = q := ⟨_, rfl⟩
    rw [hql] at hq hx1 hown hel
    have hsl := symsE_length l p sd size V at0 q
    have HSU := Lib.hid (symsE_succ l p sd size V at0 q)
    have HQ := Lib.hid hql
    have HX1 := Lib.hid hx1
    have hc0 := h0.cell
    have hc2 := h2.cell
    have hel' := hel
    have hown' := hown
    rw [hsl] at hown'
    have HO := Lib.hid hown'
    obtain ⟨ao, co, rfl, -, -⟩ := own_open hown'
    obtain ⟨ax, cx, rfl, -, -⟩ := own_open hx3
    have HEND : Hid (∀ v' w1, w1.ownsRow W0.heap.size 38 1 v' (q + 1) (vs ++ [.slice ax size cx]) → (W.alloc (.cells #[.slice ax size cx] 38)).grownBy w1 (Value.slice ao q co).ownBlock →
      (KeepsFrom W0.heap.size W (w1.setCell ⟨w.heap.size + 1, 0, none⟩ v') ∧ KpE (w.heap.size + 1 + 1) w.heap.size W (w1.setCell ⟨w.heap.size + 1, 0, none⟩ v') ∧ SoM w (w1.setCell ⟨w.heap.size + 1, 0, none⟩ v') W0.heap.size n (.pointer (some ⟨g, 0, none⟩)) v' (symsE l p sd size V at0 (q + 1))) ∧ Boxed w1 (w.heap.size + 1) 22 (.slice ao q co)) := Lib.hid fun v' w1 ho hg => by
      rw [HSU.out]
      refine SoM.more (by omega) h0 h2 h3 (by rw [hsl]; exact hown') hel hfr hbel hhi ?_ (by rw [hsl]; exact ho) hg
      rw [symE_length, ← hx1]
      exact hx3
    clear h0 h2 h3 hown hown' hel hel' hfr hx3 hx1 hql hI0 b1 b2 b3 b4 hb0 hbel hsl
    by_cases hqn : q + 1 = n
    · have hqb : ((q : Int) + 1 == (n : Int)) = true := by rw [beq_iff_eq]; omega
      have HQN := Lib.hid hqn
      clear hqn
      gi_wp2_with (gi_at_builtin; refine wpListIn_append_own _ rfl _ _ 22 rfl W0.heap.size 38 i0 (.slice none 0 0) 1 24 Tryz.underlying22 hi hz0 hz1 hz2 rfl (by decide) (.slice ao q co) q vs rfl (HO.out.alloc _) ⟨W.heap.size, 0, none⟩ 1 1 [.slice ax size cx] rfl rfl (cell_one_new _ _ _) (by simp [Value.oneCell']) (by unfold maxLen; omega) (by omega) (by simp; omega) ?_; intro v' w1 hown' hgrow _; obtain ⟨g', cap', rfl⟩ := ownsRow_succ hown'; obtain ⟨hE1, hE2⟩ := HEND.out _ w1 hown' hgrow; have HE1 := Lib.hid hE1; have hc1 := hE2.cell; have hf1 := hE2.frozen; have hd0 := hE1.2.2.b0.cell; have hd1 := hE1.2.2.b1.cell; clear hE1 hE2 hown' hgrow)
      exact ⟨HE1.out.1, rfl, _, by rw [List.length_append, HQ.out]; exact HQN.out, by have := HX1.out; have := HQN.out; omega, by rw [List.length_append, HQ.out]; exact HE1.out.2.2⟩
    · have hqb : ((q : Int) + 1 == (n : Int)) = false := by rw [beq_eq_false_iff_ne]; omega
      gi_wp2_with (gi_at_builtin; refine wpListIn_append_own _ rfl _ _ 22 rfl W0.heap.size 38 i0 (.slice none 0 0) 1 24 Tryz.underlying22 hi hz0 hz1 hz2 rfl (by decide) (.slice ao q co) q vs rfl (HO.out.alloc _) ⟨W.heap.size, 0, none⟩ 1 1 [.slice ax size cx] rfl rfl (cell_one_new _ _ _) (by simp [Value.oneCell']) (by unfold maxLen; omega) (by omega) (by simp; omega) ?_; intro v' w1 hown' hgrow _; obtain ⟨g', cap', rfl⟩ := ownsRow_succ hown'; obtain ⟨hE1, hE2⟩ := HEND.out _ w1 hown' hgrow; have HE1 := Lib.hid hE1; have hc1 := hE2.cell; have hf1 := hE2.frozen; have hd0 := hE1.2.2.b0.cell; have hd1 := hE1.2.2.b1.cell; clear hE1 hE2 hown' hgrow)
      exact ⟨HE1.out.1, HE1.out.2.1, _, by rw [List.length_append, HQ.out]; show q + 1 < n; omega, by rw [List.length_append, HQ.out]; exact HE1.out.2.2⟩
  case done =>
    rintro D xs W hD ⟨he1, he2⟩ ⟨v, hq, h0, h2, h3, hm, hbel, hhi⟩ hK2
    have hmin : min n (65536 - at0) = xs.length := by
      rcases he2 with rfl | h
      · simp at he1 ⊢
        omega
      · omega
    have HMI := Lib.hid hmin
    have HM := Lib.hid hm
    have HB := Lib.hid hbel
    have hc1 := h2.cell
    obtain ⟨vs, hvs, -, -⟩ := hm
    obtain ⟨ao, co, rfl, -, -⟩ := own_open hvs
    clear h0 h2 h3 hvs hbel b1 b2 b3 b4 hI0 hmin
    gi_wp2
    refine ⟨by simp, .inl ⟨_, _, rfl, run_takeDeferred hK2, ?_⟩⟩
    have hgp := grownBy_putObj' W D (.deferred none)
    have hrp : ∀ r, some D = some r → ∃ o : Obj, W.heap[r]? = some o ∧ o.isCells = false := fun r e' => by cases e'; exact ⟨_, hK2, rfl⟩
    exact ⟨_, results_tmp rfl _ _ _, _, W0.heap.size, rfl, by rw [HMI.out]; exact HM.out.bare (cells_same hgp hrp), hb0.size, HB.out.trans (belowK_b (w := W0) (n₀ := w.heap.size) (by omega) W D _ _ hD hK2 rfl rfl)⟩
  case stop =>
    rintro D c pre W hD hpos ⟨rfl, v, hq, hat2, h0, h2, h3, hm, hbel, hhi⟩ hK2
    have hmin : min n (65536 - at0) = pre.length := by omega
    have HMI := Lib.hid hmin
    have HM := Lib.hid hm
    have HB := Lib.hid hbel
    have hc1 := h2.cell
    obtain ⟨vs, hvs, -, -⟩ := hm
    obtain ⟨ao, co, rfl, -, -⟩ := own_open hvs
    clear h0 h2 h3 hvs hbel b1 b2 b3 b4 hI0 hmin hq
    gi_wp2
    refine ⟨by simp, .inl ⟨_, _, rfl, run_takeDeferred hK2, ?_⟩⟩
    have hgp := grownBy_putObj' W D (.deferred none)
    have hrp : ∀ r, some D = some r → ∃ o : Obj, W.heap[r]? = some o ∧ o.isCells = false := fun r e' => by cases e'; exact ⟨_, hK2, rfl⟩
    exact ⟨_, results_tmp rfl _ _ _, _, W0.heap.size, rfl, by rw [HMI.out]; exact HM.out.bare (cells_same hgp hrp), hb0.size, HB.out.trans (belowK_b (w := W0) (n₀ := w.heap.size) (by omega) W D _ _ hD hK2 rfl rfl)⟩

/-- What a loop over nothing keeps. -/
def NiI (w : World) (b : Nat) (t : TypeId) (v : Value) (pre : List EsV) (W : World) : Prop := pre = [] → Boxed W b t v ∧ Below w.heap.size w W
theorem NiI.from {w : World} {b : Nat} {t : TypeId} {v : Value} (m : Nat) (hm : w.heap.size ≤ m) : OwnFrom m (NiI w b t v) := by
  rintro pre X Y row h hg hr hp
  obtain ⟨h1, h2⟩ := h hp
  exact ⟨boxed_bare h1 hg fun r e => (hr r e).2, h2.grown hg h2.size fun r e => Nat.le_trans hm (hr r e).1⟩

set_option maxRecDepth 1000000 in
set_option maxHeartbeats 4000000 in
theorem Some_nil {w : World} (f : Int) (n : Nat) (hn1 : 1 ≤ n) (hn : n ≤ 100000) :
    Calls Tryz.prog 23 #[.pointer none, .int .i64 f, .int .i64 (n : Int)] w fun e w' => e = .returned nilS ∧ Below w.heap.size w w' := by
  have h1 : (1 : Nat) ≤ 3 := by omega
  have d0 : decide ((n : Int) < 1) = false := decide_eq_false (by omega)
  refine (callsIn_wide (n := 3)).1 ?_
  refine callsIn_of_wp_marks Tryz.func23 rfl trivial ?_ rfl
  simp only [Tryz.ntmps23, List.size_toArray, List.length_cons, List.length_nil, Nat.reduceAdd, Nat.reduceSub, Array.replicate_succ, Array.replicate_zero, List.push_toArray, List.append_toArray, List.nil_append, List.cons_append]
  gi_wp2_with (refine ⟨trivial, ?_⟩; gi_at_call 21; refine (each_in _ _ _ _).mono ?_; rintro e w' ⟨rfl, rfl⟩)
  obtain ⟨W0, hW0⟩ : ∃ W0, W0 = (((w.alloc (.cells #[.int .i64 (n : Int)] 3)).alloc (.cells #[nilS] 22)).alloc (.cells #[.pointer none] 27)).alloc (.cells #[.int .i64 f] 3) := ⟨_, rfl⟩
  obtain ⟨b2, b3, b4, hb0, hz⟩ : Boxed W0 (w.heap.size + 1) 22 nilS ∧ Boxed W0 (w.heap.size + 1 + 1) 27 (.pointer none) ∧ Boxed W0 (w.heap.size + 1 + 1 + 1) 3 (.int .i64 f) ∧ Below w.heap.size w W0 ∧ W0.heap.size = w.heap.size + 1 + 1 + 1 + 1 := by
    have k2 := Boxed.new (w.alloc (.cells #[.int .i64 (n : Int)] 3)) 22 nilS
    have k3 := Boxed.new ((w.alloc (.cells #[.int .i64 (n : Int)] 3)).alloc (.cells #[nilS] 22)) 27 (.pointer none)
    have k4 := Boxed.new (((w.alloc (.cells #[.int .i64 (n : Int)] 3)).alloc (.cells #[nilS] 22)).alloc (.cells #[.pointer none] 27)) 3 (.int .i64 f)
    simp only [World.size_alloc] at k2 k3 k4
    rw [hW0]
    exact ⟨(k2.alloc _).alloc _, k3.alloc _, k4, ((((Below.refl _ w).alloc (Nat.le_refl _) _).alloc (by simp) _).alloc (by simp; omega) _).alloc (by simp; omega) _, by simp⟩
  rw [← hW0]
  clear hW0
  refine wpIn_range_pre (F := Fence.wide) rfl h1 (gf := 39) (lb := #[.pointer (some ⟨w.heap.size + 1 + 1 + 1, 0, none⟩), .pointer (some ⟨w.heap.size + 1 + 1, 0, none⟩)]) rfl trivial (enters_of Tryz.func39 (by kernel_rfl) rfl)
    (each_nil (3 - 1) (by omega) (w.heap.size + 1 + 1) (w.heap.size + 1 + 1 + 1) W0 f b3 b4) (fun _ _ => trivial) (fun _ _ _ _ _ _ _ _ => trivial) (Below.refl _ _) (fun _ => rfl)
    (NiI w (w.heap.size + 1) 22 nilS) (fun _ _ _ => False) (NiI.from _ (by omega)) (fun _ _ _ _ _ h _ _ => h) (fun _ _ _ _ _ _ h _ _ => h) (fun _ => ⟨b2, hb0⟩)
    (fun x => { tmps := #[.pointer none, .int .i64 f, .int .i64 (n : Int), undef, undef, .pointer (some ⟨w.heap.size, 0, none⟩), .slice none 0 0, .pointer (some ⟨w.heap.size + 1, 0, none⟩), undef, x.2, .int .i64 (n : Int), .bool false, .pointer none, .int .i64 f, .func (.func 39) #[] #[.pointer (some ⟨w.heap.size + 1 + 1 + 1, 0, none⟩), .pointer (some ⟨w.heap.size + 1 + 1, 0, none⟩)], .int .i64 (x.1 : Int), x.2, undef, undef, undef, undef, undef, undef, undef, undef, undef], defers := [] }) ?assign ?body ?done ?stop
  case assign =>
    rintro lq ⟨x1, x2⟩ W K hK
    dsimp only [encE] at hK ⊢
    gi_wp2
    exact hK
  case body => exact fun _ _ _ _ _ h => h.elim
  case stop => exact fun _ _ _ _ _ h => h.elim
  case done =>
    rintro D xs W hD rfl hI hK2
    obtain ⟨hb, hbel⟩ := hI rfl
    have HB := Lib.hid hbel
    have hc1 := hb.cell
    clear hb hI hbel b2 b3 b4
    gi_wp2
    refine ⟨by simp, .inl ⟨_, _, rfl, run_takeDeferred hK2, ?_⟩⟩
    exact ⟨_, results_tmp rfl _ _ _, rfl, HB.out.trans (belowK_b (w := W0) (n₀ := w.heap.size) (by omega) W D _ _ hD hK2 rfl rfl)⟩
end
end Go.Proofs.YtfibolkgpffjkaaGreatDoor
end

section
/- The twelfth layer's laws: EncodeNil. -/
namespace Go.Proofs.YtfibolkgpffjkaaGreatDoor
open Go.RowKit Go.Extern.Stop Go.Stop Go.Extern

section
open Go.Shelf
attribute [local go_sem] Oper.semAt_some

set_option maxRecDepth 1000000 in
set_option maxHeartbeats 8000000 in
theorem nil12 {w : World} (f : Int) (hT : DgTab w) (hB : Tab w) (hg : Laid w) :
    Calls Tryz.prog 9 #[.int .i64 f] w fun e w' => e = .returned (.bool true) ∧ Below w.heap.size w w' := by
  have HAW : Hid (∀ V, Below w.heap.size w V → Calls Tryz.prog 17 #[] V fun e w' => e = .returned (.bool true) ∧ Below V.heap.size V w') := Lib.hid fun V hV => awake12 V (PairsAt.mono hT hV) (hB.mono hV)
  have HG := Lib.hid hg
  clear hT hB hg
  have h1 : (1 : Nat) ≤ 3 := by omega
  refine (callsIn_wide (n := 3)).1 ?_
  refine callsIn_of_wp_marks Tryz.func9 rfl trivial ?_ rfl
  simp only [Tryz.ntmps9, List.size_toArray, List.length_cons, List.length_nil, Nat.reduceAdd, Nat.reduceSub, Array.replicate_succ, Array.replicate_zero, List.push_toArray, List.append_toArray, List.nil_append, List.cons_append]
  gi_wp2_with fail
  refine ⟨trivial, ?_⟩
  gi_at_call 14
  refine (callsIn_wide.2 (EnSym_nil f)).mono ?_
  rintro e w1 ⟨E, rfl, hea, hb1⟩
  have HEA := Lib.hid hea
  have HB1 := Lib.hid hb1
  obtain ⟨u, x, rfl⟩ := hea.some (by decide)
  clear hea hb1
  gi_wp2_with (refine ⟨trivial, ?_⟩; gi_at_call 21; refine (each_in _ _ _ _).mono ?_; rintro e w' ⟨rfl, rfl⟩)
  rw [eql_seq_nil]
  obtain ⟨W0, hW0⟩ : ∃ W0, W0 = ((w1.alloc (.cells #[.int .i64 0] 3)).alloc (.cells #[.pointer none] 27)).alloc (.cells #[.int .i64 f] 3) := ⟨_, rfl⟩
  obtain ⟨b2, b3, b4, hb0, hz⟩ : Boxed W0 w1.heap.size 3 (.int .i64 0) ∧ Boxed W0 (w1.heap.size + 1) 27 (.pointer none) ∧ Boxed W0 (w1.heap.size + 1 + 1) 3 (.int .i64 f) ∧ Below w1.heap.size w1 W0 ∧ W0.heap.size = w1.heap.size + 1 + 1 + 1 := by
    have k2 := Boxed.new w1 3 (.int .i64 0)
    have k3 := Boxed.new (w1.alloc (.cells #[.int .i64 0] 3)) 27 (.pointer none)
    have k4 := Boxed.new ((w1.alloc (.cells #[.int .i64 0] 3)).alloc (.cells #[.pointer none] 27)) 3 (.int .i64 f)
    simp only [World.size_alloc] at k3 k4
    rw [hW0]
    exact ⟨(k2.alloc _).alloc _, k3.alloc _, k4, (((Below.refl _ w1).alloc (Nat.le_refl _) _).alloc (by simp) _).alloc (by simp; omega) _, by simp⟩
  rw [← hW0]
  have HWZ := Lib.hid HB1.out.size
  clear hW0
  gi_wp2_with fail
  refine wpIn_range_pre (F := Fence.wide) rfl h1 (gf := 39) (lb := #[.pointer (some ⟨w1.heap.size + 1 + 1, 0, none⟩), .pointer (some ⟨w1.heap.size + 1, 0, none⟩)]) rfl trivial (enters_of Tryz.func39 (by kernel_rfl) rfl)
    (each_nil (3 - 1) (by omega) (w1.heap.size + 1) (w1.heap.size + 1 + 1) W0 f b3 b4) (fun _ _ => trivial) (fun _ _ _ _ _ _ _ _ => trivial) (Below.refl _ _) (fun _ => rfl)
    (NiI w1 w1.heap.size 3 (.int .i64 0)) (fun _ _ _ => False) (NiI.from _ (by omega)) (fun _ _ _ _ _ h _ _ => h) (fun _ _ _ _ _ _ h _ _ => h) (fun _ => ⟨b2, hb0⟩)
    (fun y => { tmps := #[.int .i64 f, undef, .bool false, .pointer none, nilS, .iface u x, .pointer (some ⟨w1.heap.size, 0, none⟩), .func (.func 39) #[] #[.pointer (some ⟨w1.heap.size + 1 + 1, 0, none⟩), .pointer (some ⟨w1.heap.size + 1, 0, none⟩)], .tuple #[nilS, .iface u x], .pointer none, .int .i64 f, .tuple #[nilS, .iface u x], nilS, .iface u x, .pointer none, .int .i64 f, .func (.func 39) #[] #[.pointer (some ⟨w1.heap.size + 1 + 1, 0, none⟩), .pointer (some ⟨w1.heap.size + 1, 0, none⟩)], .func (.func 39) #[] #[.pointer (some ⟨w1.heap.size + 1 + 1, 0, none⟩), .pointer (some ⟨w1.heap.size + 1, 0, none⟩)], .bool false, .func (.func 39) #[] #[.pointer (some ⟨w1.heap.size + 1 + 1, 0, none⟩), .pointer (some ⟨w1.heap.size + 1, 0, none⟩)], .int .i64 (y.1 : Int), y.2, undef, undef, undef, undef, undef, undef, undef, undef, undef, undef, undef, undef, undef, undef, undef, undef, undef, undef, undef, undef, undef, undef, undef, undef, undef, undef, undef, undef], defers := [] }) ?assign ?body ?done ?stop
  case assign =>
    rintro lq ⟨x1, x2⟩ W K hK
    dsimp only [encE] at hK ⊢
    gi_wp2
    simpa using hK
  case body => exact fun _ _ _ _ _ h => h.elim
  case stop => exact fun _ _ _ _ _ h => h.elim
  case done =>
    rintro D xs W hD rfl hI hK2
    obtain ⟨hb, hbel⟩ := hI rfl
    have HBX := Lib.hid hb
    have HB := Lib.hid (HB1.out.trans (hbel.mono HWZ.out))
    have HEA2 := Lib.hid (HEA.out.mono hbel)
    have HKD := Lib.hid hK2
    have hDl := (Array.getElem?_eq_some_iff.1 hK2).1
    clear hb hI hbel b2 b3 b4 hK2
    gi_wp2_with fail
    refine ⟨trivial, ?_⟩
    gi_at_call 15
    refine (callsIn_wide.2 (tells_ans 7 nameEnSym _ HEA2.out (HG.out.mono HB.out))).mono ?_
    rintro e w3 ⟨rfl, hb3⟩
    have hc3 := (hb3.cell (p := ⟨w1.heap.size, 0, none⟩) HBX.out.lt).trans HBX.out.cell
    have HB3 := Lib.hid (HB.out.trans (hb3.mono HB.out.size))
    have HW3 := Lib.hid hb3
    clear hb3
    gi_wp2_with fail
    refine ⟨trivial, ?_⟩
    gi_at_call 12
    refine (callsIn_wide.2 EnK_nil).mono ?_
    rintro e w4 ⟨rfl, rfl⟩
    gi_wp2_with fail
    refine ⟨trivial, ?_⟩
    gi_at_call 23
    refine (callsIn_wide.2 (Some_nil f 3 (by decide) (by decide))).mono ?_
    rintro e w5 ⟨rfl, hb5⟩
    have HB5 := Lib.hid (HB3.out.trans (hb5.mono HB3.out.size))
    have HW5 := Lib.hid (HW3.out.trans (hb5.mono HW3.out.size))
    clear hb5 hc3
    gi_wp2_with fail
    refine ⟨trivial, ?_⟩
    gi_at_call 17
    refine (callsIn_wide.2 (HAW.out _ HB5.out)).mono ?_
    rintro e w6 ⟨rfl, hb6⟩
    have HB6 := Lib.hid (HB5.out.trans (hb6.mono HB5.out.size))
    have HK6 := Lib.hid (((HW5.out.trans (hb6.mono HW5.out.size)).block D hDl).trans HKD.out)
    clear hb6
    gi_wp2
    refine ⟨by simp, .inl ⟨_, _, rfl, run_takeDeferred HK6.out, ?_⟩⟩
    have hDw : w.heap.size ≤ D := by have := HWZ.out; omega
    exact ⟨_, results_tmp rfl _ _ _, rfl, HB6.out.trans (belowK_b (w := w) (n₀ := w.heap.size) (Nat.le_refl _) w6 D _ _ hDw HK6.out rfl rfl)⟩
end
end Go.Proofs.YtfibolkgpffjkaaGreatDoor
end
