import Derived.Test.YtkhdjjcflbdegaaGreatDoorG16
import Derived.Test.YtkhdjjcflbdegaaGreatDoorG17
import Derived.Test.YtkhdjjcflbdegaaGreatDoorG08
import Derived.Test.YtkhdjjcflbdegaaGreatDoorG50
import Derived.Test.YtkhdjjcflbdegaaGreatDoorG14
import Derived.Deep.AppendLies
import Derived.Deep.RegionLaw
import Derived.Deep.Cut

section
/- Package geyserref12: lines (a row's truths, and its symbol) in memory; the sum of two. -/
namespace Go.Proofs.YtkhdjjcflbdegaaGreatDoor
open Go.RowKit Go.Extern.Stop Go.Stop Go.Extern

theorem info_line : (Tryz.prog.info? 160).map (fun i => (i.zero, i.size, i.bytes)) = some (some (.agg #[.slice none 0 0, .slice none 0 0]), 2, 48) := by kernel_rfl

abbrev Ln : Type := List Bool × List Nat
def noLn : Ln := ([], [])

/-- A line in a block of its own. -/
def LnBox (W : World) (g : Nat) (r s : Value) : Prop := W.heap[g]? = some (.cells #[r, s] 160 (0, 0))
theorem LnBox.lt {W : World} {g : Nat} {r s : Value} (b : LnBox W g r s) : g < W.heap.size := (Array.getElem?_eq_some_iff.1 b).1
theorem LnBox.mono {W W' : World} {g : Nat} {r s : Value} (b : LnBox W g r s) (hb : Below W.heap.size W W') : LnBox W' g r s := (hb.block g b.lt).trans b
theorem LnBox.keep {W W' : World} {g B : Nat} {r s : Value} (b : LnBox W g r s) (hb : Below B W W') (hg : g < B) : LnBox W' g r s := (hb.block g hg).trans b
theorem LnBox.cells {W : World} {g : Nat} {r s : Value} (b : LnBox W g r s) : W.cell? ⟨g, 0, none⟩ = some r ∧ W.cell? ⟨g, 1, none⟩ = some s := ⟨cell_of_heap b rfl, cell_of_heap b rfl⟩
theorem LnBox.free {W : World} {g : Nat} {r s : Value} (b : LnBox W g r s) : W.frozen? ⟨g, 0, none⟩ = false ∧ W.frozen? ⟨g, 1, none⟩ = false := ⟨frozen_of_heap b, frozen_of_heap b⟩
theorem LnBox.store {W : World} {g : Nat} {r s : Value} (b : LnBox W g r s) (r' s' : Value) : LnBox ((W.setCell ⟨g, 0, none⟩ r').setCell ⟨g, 1, none⟩ s') g r' s' :=
  heap_setCell_at (j := 1) (u := s') (heap_setCell_at (j := 0) (u := r') b)
theorem ln_laid (w : World) (ra sa rb sb : Value) : ∃ W, W = ((w.alloc (.cells #[ra, sa] 160)).alloc (.cells #[rb, sb] 160)).alloc (.cells #[nilS, nilS] 160) ∧
    Below w.heap.size w W ∧ W.heap.size = w.heap.size + 1 + 1 + 1 ∧ LnBox W w.heap.size ra sa ∧ LnBox W (w.heap.size + 1) rb sb ∧ LnBox W (w.heap.size + 1 + 1) nilS nilS := by
  have z1 : (w.alloc (.cells #[ra, sa] 160)).heap.size = w.heap.size + 1 := World.size_alloc _ _
  have z2 : ((w.alloc (.cells #[ra, sa] 160)).alloc (.cells #[rb, sb] 160)).heap.size = w.heap.size + 1 + 1 := by rw [World.size_alloc, z1]
  have a1 : LnBox (w.alloc (.cells #[ra, sa] 160)) w.heap.size ra sa := heap_alloc_new w _
  have a2 := heap_alloc_new (w.alloc (.cells #[ra, sa] 160)) (.cells #[rb, sb] 160)
  rw [z1] at a2
  have a3 := heap_alloc_new ((w.alloc (.cells #[ra, sa] 160)).alloc (.cells #[rb, sb] 160)) (.cells #[nilS, nilS] 160)
  rw [z2] at a3
  refine ⟨_, rfl, (((Below.refl _ _).alloc (Nat.le_refl _) _).alloc (by omega) _).alloc (by omega) _, by rw [World.size_alloc, z2], ?_, ?_, a3⟩
  · exact (Below.heap_alloc _ _ _ (by omega)).trans ((Below.heap_alloc _ _ _ (by omega)).trans a1)
  · exact (Below.heap_alloc _ _ _ (by omega)).trans a2

set_option maxRecDepth 1000000 in
set_option maxHeartbeats 4000000 in
theorem lnadd_any {w : World} (ra sa rb sb : Value) (A B : List Bool) (x y : List Nat) (n size : Nat) (h1 : ListAt boolV w ra A) (h2 : ListAt boolV w rb B) (h3 : ListAt byteV w sa x) (h4 : ListAt byteV w sb y) (hA : A.length = n) (hB : B.length = n) (hx : x.length = size ∧ Octets x) (hy : y.length = size ∧ Octets y) (hn : n ≤ 4096) (hz : size ≤ 1000) :
    Calls Tryz.prog 93 #[.agg #[ra, sa], .agg #[rb, sb]] w fun e w' => ∃ r' s', e = .returned (.agg #[r', s']) ∧ w'.ownsRow w.heap.size 4 1 r' n ((sumB A B).map boolV) ∧ w'.ownsRow w.heap.size 5 1 s' size ((xorW x y).map byteV) ∧ Below w.heap.size w w' := by
  obtain ⟨i0, hi, hz0, hz1, hz2⟩ := info_parts info_bool
  obtain ⟨a3, c3, e3, -, -, -⟩ := id h3
  obtain ⟨a4, c4, e4, -, -, -⟩ := id h4
  rw [hx.1] at e3
  rw [hy.1] at e4
  subst e3 e4
  obtain ⟨a1, c1, rfl, -, -, hcell1⟩ := h1
  obtain ⟨a2, c2, rfl, -, -, hcell2⟩ := h2
  rw [hA]
  rw [hB]
  obtain ⟨w0, hw0, hb0, hs0, hy0, hy1, hy2⟩ := ln_laid w (.slice a1 n c1) (.slice a3 size c3) (.slice a2 n c2) (.slice a4 size c4)
  have HW0 := Lib.hid hw0
  have HB0 := Lib.hid hb0
  have HS0 := Lib.hid hs0
  have HY0 := Lib.hid hy0
  have HY1 := Lib.hid hy1
  have HY2 := Lib.hid hy2
  have HC1 : Hid (0 < n → ∃ b off, a1 = some ⟨b, off, none⟩ ∧ ∀ j, j < n → w.cell? ⟨b, off + j, none⟩ = some (.bool (bitB A j))) := Lib.hid fun hp => by
    obtain ⟨b, off, e, h⟩ := hcell1 (by omega)
    refine ⟨b, off, e, fun j hj => ?_⟩
    have : j < A.length := by omega
    rw [h j this]; simp [boolV, bitB, this]
  have HC2 : Hid (0 < n → ∃ b off, a2 = some ⟨b, off, none⟩ ∧ ∀ j, j < n → w.cell? ⟨b, off + j, none⟩ = some (.bool (bitB B j))) := Lib.hid fun hp => by
    obtain ⟨b, off, e, h⟩ := hcell2 (by omega)
    refine ⟨b, off, e, fun j hj => ?_⟩
    have : j < B.length := by omega
    rw [h j this]; simp [boolV, bitB, this]
  have HS : Hid (sumB A B = (List.range n).map fun c => (bitB A c != bitB B c)) := Lib.hid (by unfold sumB; rw [hA])
  have HAD : Hid (∀ V, Below w.heap.size w V → Calls Tryz.prog 90 #[.slice a3 size c3, .slice a4 size c4] V fun e w' => ∃ v', e = .returned v' ∧ w'.ownsRow V.heap.size 5 1 v' size ((xorW x y).map byteV) ∧ Below V.heap.size V w') :=
    Lib.hid fun V hV => sAdd_any _ _ x y size (h3.mono hV) (h4.mono hV) hx.2 hy.2 hx.1 hy.1 (by omega)
  have HSG : Hid (∀ t, ((List.range (t + 1)).map fun c => (bitB A c != bitB B c)).map boolV = ((List.range t).map fun c => (bitB A c != bitB B c)).map boolV ++ [boolV (bitB A t != bitB B t)]) := Lib.hid fun t => by rw [List.range_succ, List.map_append, List.map_append]; rfl
  generalize sumB A B = S at *
  clear hcell1 hcell2 hw0 hb0 hs0 hy0 hy1 hy2 h3 h4 hx hy hA hB
  go_enter Tryz.func93, Tryz.ntmps93
  go_upto_region 1 with fail
  rw [← HW0.out]
  go_wp2
  go_loopw [5, 6] (fun o i wr => ∃ t : Nat, t ≤ n ∧ i = .int .i64 t ∧ wr.ownsRow w0.heap.size 4 1 o t (((List.range t).map fun c => (bitB A c != bitB B c)).map boolV) ∧ Below w0.heap.size w0 wr) (fun _ i _ => n - (intOf i).toNat)
  case atStart => exact ⟨0, Nat.zero_le _, rfl, World.ownsRow_made (base := w0.heap.size) (e := 4) (size := 1) w0 #[] 0 (Nat.le_refl _) (by decide) rfl, (Below.refl _ _).alloc (Nat.le_refl _) _⟩
  case round =>
    obtain ⟨t, ht, rfl, hown, hbel⟩ := hrel
    have HO := Lib.hid hown
    have HB := Lib.hid hbel
    obtain ⟨ao, co, rfl, -, -⟩ := own_open hown
    obtain ⟨y0, y1⟩ := (HY0.out.mono hbel).cells
    obtain ⟨x0, x1⟩ := (HY1.out.mono hbel).cells
    by_cases htn : t < n
    · obtain ⟨b1, off1, rfl, hc1⟩ := HC1.out (by omega)
      obtain ⟨b2, off2, rfl, hc2⟩ := HC2.out (by omega)
      have hbd := hbel.drew
      have hbw := HB0.out.trans (hbd.mono (by have := HS0.out; omega))
      have hx1 : wr.drew.cell? ⟨b1, off1 + t, none⟩ = some (.bool (bitB A t)) := (hbw.cell (p := ⟨b1, off1 + t, none⟩) (World.block_lt_of_cell? w _ (hc1 t htn))).trans (hc1 t htn)
      have hx2 : wr.drew.cell? ⟨b2, off2 + t, none⟩ = some (.bool (bitB B t)) := (hbw.cell (p := ⟨b2, off2 + t, none⟩) (World.block_lt_of_cell? w _ (hc2 t htn))).trans (hc2 t htn)
      have y0d : wr.drew.cell? ⟨w.heap.size, 0, none⟩ = some (.slice (some ⟨b1, off1, none⟩) n c1) := y0
      have x0d : wr.drew.cell? ⟨w.heap.size + 1, 0, none⟩ = some (.slice (some ⟨b2, off2, none⟩) n c2) := x0
      have HXS := Lib.hid (HSG.out t)
      have HOD := Lib.hid (owns_kept hown ((Below.refl wr.heap.size wr).drew))
      have HBD := Lib.hid hbd
      have hszd : w0.heap.size ≤ wr.heap.size := hbd.size
      clear hown hbel hc1 hc2 hbd hbw
      have hN := neqBool (bitB A t) (bitB B t) _ rfl
      generalize hbe : (bitB A t != bitB B t) = bt at *
      generalize bitB A t = p1 at hN hx1
      generalize bitB B t = p2 at hN hx2
      clear hbe
      go_wp2_with fail
      go_region_law (refine step_append_lies _ rfl (.tmp 15) (.tmp 27) 138 rfl w0.heap.size 4 i0 (.bool false) 1 1 Tryz.underlying138 hi hz0 hz1 hz2 rfl (by decide) (.slice ao t co) t _ (by simp [Act.eval]) (HOD.out.alloc _) ⟨wr.heap.size, 0, none⟩ 1 1 [.bool bt] (by simp [Act.eval]) rfl (cell_one_new _ _ _) (fun x hx => by simp at hx; subst hx; rfl) (by decide) (by unfold maxLen; omega) (by omega) (by simp; omega) _ rfl ?_; intro g2 q2 w6 hown1 hgrow1 _ _; have HB6 := Lib.hid ((HBD.out.alloc hszd _).grown hgrow1 (by simp; omega) (fun k hk => (HOD.out.lt k hk).1)); have HO6 := Lib.hid hown1; clear hown1 hgrow1)
      all_goals go_wp2
      all_goals exact ⟨⟨t + 1, by omega, by go_num, by rw [HXS.out]; exact HO6.out, HB6.out⟩, by simp [intOf]; omega⟩
    · obtain rfl : t = n := by omega
      have hbw := HB0.out.trans (hbel.mono (by have := HS0.out; omega))
      have HBW := Lib.hid hbw
      have HADD := Lib.hid (HAD.out wr hbw)
      clear hown hbel hbw
      go_wp2_with fail
      refine HADD.out.mono ?_
      rintro e w3 ⟨v3, rfl, ho3, hb3⟩
      have HO3 := Lib.hid ho3
      have HB3 := Lib.hid (HB.out.trans (hb3.mono HB.out.size))
      have HR3 := Lib.hid (owns_kept HO.out hb3)
      have hsz : w0.heap.size ≤ wr.heap.size := HB.out.size
      obtain ⟨as3, cs3, rfl, -, -⟩ := own_open ho3
      have HY3 := Lib.hid (HY2.out.mono HB3.out)
      obtain ⟨z0, z1⟩ := HY3.out.cells
      obtain ⟨f0, f1⟩ := HY3.out.free
      have hl3 := HY3.out.lt
      clear ho3 hb3 y0 y1 x0 x1
      go_wp2
      have hb2 : w.heap.size + 1 + 1 < w0.heap.size := by have := HS0.out; omega
      refine bodyPost_ret (results_row1 rfl _ _ (w.heap.size + 1 + 1) 160 _ (0, 0) _ rfl (HY3.out.store _ _) Tryz.underlying160 rfl (by kernel_rfl)) rfl ?_
      have hst := own_set (own_set HR3.out (show w3.heap[w.heap.size + 1 + 1]? = some (.cells _ _ (0, 0)) from HY3.out) (by decide) 0 (.slice ao t co)) (heap_setCell_at (j := 0) (u := .slice ao t co) (show w3.heap[w.heap.size + 1 + 1]? = some (.cells _ _ (0, 0)) from HY3.out)) (by decide) 1 (.slice as3 size cs3)
      have hss := own_set (own_set HO3.out (show w3.heap[w.heap.size + 1 + 1]? = some (.cells _ _ (0, 0)) from HY3.out) (by decide) 0 (.slice ao t co)) (heap_setCell_at (j := 0) (u := .slice ao t co) (show w3.heap[w.heap.size + 1 + 1]? = some (.cells _ _ (0, 0)) from HY3.out)) (by decide) 1 (.slice as3 size cs3)
      have hsw : w.heap.size ≤ w0.heap.size := HB0.out.size
      exact ⟨_, _, rfl, by rw [HS.out]; exact ownsRow_base hst hsw, ownsRow_base hss (by omega), ((HB0.out.trans (HB3.out.mono hsw)).setCell (p := ⟨w.heap.size + 1 + 1, 0, none⟩) (show w.heap.size ≤ w.heap.size + 1 + 1 by omega) _).setCell (p := ⟨w.heap.size + 1 + 1, 1, none⟩) (show w.heap.size ≤ w.heap.size + 1 + 1 by omega) _⟩
end Go.Proofs.YtkhdjjcflbdegaaGreatDoor
end

section
/- Package geyserref12: lists of lines (two cells an element): as they are read (LnsAt), as a call makes them (LnsOwn): append of such a list, of one more, a store; lines. -/
namespace Go.Proofs.YtkhdjjcflbdegaaGreatDoor
open Go.RowKit Go.Extern.Stop Go.Stop Go.Extern

/-- A slice of lines that reads as a list. -/
def LnsAt (w : World) (v : Value) (L : List Ln) : Prop :=
  ∃ a cap, ∃ cs : List Value, v = .slice a L.length cap ∧ L.length ≤ cap ∧ cap ≤ maxLen ∧ cs.length = L.length * 2 ∧
    (0 < L.length → ∃ b off, a = some ⟨b, off, none⟩ ∧ ∀ j u, cs[j]? = some u → w.cell? ⟨b, off + j, none⟩ = some u) ∧
    ∀ j, j < L.length → ∃ r s, cs[j * 2]? = some r ∧ cs[j * 2 + 1]? = some s ∧ ListAt boolV w r (L.getD j noLn).1 ∧ ListAt byteV w s (L.getD j noLn).2
section
variable {w w' : World} {v : Value} {L : List Ln}
theorem LnsAt.mono (h : LnsAt w v L) (hb : Below w.heap.size w w') : LnsAt w' v L := by
  obtain ⟨a, cap, cs, rfl, h1, h2, h3, h4, h5⟩ := h
  refine ⟨a, cap, cs, rfl, h1, h2, h3, fun hp => ?_, fun j hj => ?_⟩
  · obtain ⟨b, off, rfl, hc⟩ := h4 hp
    refine ⟨b, off, rfl, fun j u hu => ?_⟩
    have hx := hc j u hu
    rw [hb.cell (p := ⟨b, off + j, none⟩) (World.block_lt_of_cell? w _ hx)]
    exact hx
  · obtain ⟨r, s, c1, c2, l1, l2⟩ := h5 j hj
    exact ⟨r, s, c1, c2, l1.mono hb, l2.mono hb⟩
theorem LnsAt.opens (h : LnsAt w v L) : ∃ a cap, v = .slice a L.length cap ∧ L.length ≤ cap ∧ cap ≤ maxLen ∧ (0 < L.length → ∃ b off, a = some ⟨b, off, none⟩ ∧ ∀ j, j < L.length →
    ∃ r s, w.cell? ⟨b, off + j * 2, none⟩ = some r ∧ w.cell? ⟨b, off + j * 2 + 1, none⟩ = some s ∧ ListAt boolV w r (L.getD j noLn).1 ∧ ListAt byteV w s (L.getD j noLn).2) := by
  obtain ⟨a, cap, cs, rfl, h1, h2, h3, h4, h5⟩ := h
  refine ⟨a, cap, rfl, h1, h2, fun hp => ?_⟩
  obtain ⟨b, off, rfl, hc⟩ := h4 hp
  refine ⟨b, off, rfl, fun j hj => ?_⟩
  obtain ⟨r, s, c1, c2, l1, l2⟩ := h5 j hj
  exact ⟨r, s, hc _ _ c1, by rw [Nat.add_assoc]; exact hc _ _ c2, l1, l2⟩
end

/-- What an element keeps where nothing turns that it may lie in. -/
theorem ElAt.keep {α : Type} {f : α → Value} {te : TypeId} {base : Nat} {w w' : World} {x : Value} {r : List α} (h : ElAt f te base w x r) (hs : ∀ b, b < w.heap.size → (b < base ∨ ∃ cur, w.heap[b]? = some (.cells cur te (0, 0))) → w'.heap[b]? = w.heap[b]?) : ElAt f te base w' x r := by
  by_cases hp : 0 < r.length
  · have hnb : ∀ b, x.ownBlock = some b → w'.heap[b]? = w.heap[b]? := fun b hx => hs b (h.1.block hp b hx) (h.2 hp b hx)
    obtain ⟨⟨a, cap, rfl, h1, h2, h3⟩, h4⟩ := h
    obtain ⟨b, off, rfl, hc⟩ := h3 hp
    have hnb' := hnb b rfl
    refine ⟨⟨_, cap, rfl, h1, h2, fun _ => ⟨b, off, rfl, fun j hj => ?_⟩⟩, fun _ b' hb' => ?_⟩
    · rw [World.cell?_of_block (w := w) (a := ⟨b, off + j, none⟩) hnb']; exact hc j hj
    · have : b = b' := by simpa [Value.ownBlock] using hb'
      subst this
      rw [hnb']
      exact h4 hp b rfl
  · obtain ⟨⟨a, cap, rfl, h1, h2, _⟩, _⟩ := h
    exact ⟨⟨a, cap, rfl, h1, h2, fun hp' => absurd hp' hp⟩, fun hp' => absurd hp' hp⟩

/-- What a list of cells says: two slices a line. -/
def LnsEl (base : Nat) (w : World) (cs : List Value) (L : List Ln) : Prop :=
  ∀ j, j < L.length → ∃ r s, cs[j * 2]? = some r ∧ cs[j * 2 + 1]? = some s ∧ ElAt boolV 4 base w r (L.getD j noLn).1 ∧ ElAt byteV 5 base w s (L.getD j noLn).2
/-- A list of lines of a call's own. -/
def LnsOwn (base : Nat) (w : World) (v : Value) (L : List Ln) : Prop :=
  ∃ cs : List Value, w.ownsRow base 160 2 v L.length cs ∧ LnsEl base w cs L
section
variable {base : Nat} {w w' : World} {v v' r s : Value} {L : List Ln} {q : Ln} {cs : List Value}
theorem LnsOwn.mono (h : LnsOwn base w v L) (hb : Below w.heap.size w w') : LnsOwn base w' v L := by
  obtain ⟨cs, h1, h2⟩ := h
  refine ⟨cs, owns_kept h1 hb, fun j hj => ?_⟩
  obtain ⟨r, s, c1, c2, e1, e2⟩ := h2 j hj
  exact ⟨r, s, c1, c2, e1.mono hb, e2.mono hb⟩
theorem LnsOwn.at (h : LnsOwn base w v L) : LnsAt w v L := by
  obtain ⟨cs, h1, h2⟩ := h
  have hl := h1.1
  have hel : ∀ j, j < L.length → ∃ r s, cs[j * 2]? = some r ∧ cs[j * 2 + 1]? = some s ∧ ListAt boolV w r (L.getD j noLn).1 ∧ ListAt byteV w s (L.getD j noLn).2 := fun j hj => by
    obtain ⟨r, s, c1, c2, e1, e2⟩ := h2 j hj
    exact ⟨r, s, c1, c2, e1.1, e2.1⟩
  rcases h1.2 with ⟨rfl, h0⟩ | ⟨g, cap, cur, rfl, hbg, hh, hc, hm, hs, htk⟩
  · exact ⟨none, 0, cs, by rw [h0], by omega, Nat.zero_le _, hl, fun hp => by omega, hel⟩
  · refine ⟨_, _, cs, rfl, hc, hm, hl, fun hp => ⟨g, 0, rfl, fun j u hu => ?_⟩, hel⟩
    have hj : j < cs.length := (List.getElem?_eq_some_iff.1 hu).1
    rw [World.ownsRow.cellAt h1 (0 + j) (by omega), Nat.zero_add]
    exact hu
theorem LnsOwn.start (w : World) (hb : base ≤ w.heap.size) : LnsOwn base (w.alloc (.cells #[] 160)) (.slice (some ⟨w.heap.size, 0, none⟩) 0 0) [] :=
  ⟨[], World.ownsRow_made (base := base) (e := 160) (size := 2) w #[] 0 hb (by decide) rfl, fun j hj => by simp at hj⟩
theorem ElAt.grown2 {α : Type} {f : α → Value} {te : TypeId} {x : Value} {l : List α} (hte : 160 ≠ te) (h : ElAt f te base w x l) (ho : w.ownsRow base 160 2 v L.length cs) (hg : w.grownBy w' v.ownBlock) : ElAt f te base w' x l :=
  h.keep fun b hb hk => hg.block b hb fun hv => by
    rcases ho.2 with ⟨rfl, _⟩ | ⟨g, cap, cur', rfl, hbg, hgg, _⟩
    · simp [Value.ownBlock] at hv
    · have : b = g := by simpa [Value.ownBlock] using hv
      subst this
      rcases hk with h1 | ⟨cur, h1⟩
      · omega
      · rw [h1] at hgg
        cases hgg
        exact hte rfl
/-- One line more. -/
theorem LnsOwn.snoc (hown : w.ownsRow base 160 2 v L.length cs) (hel : LnsEl base w cs L)
    (h1 : ElAt boolV 4 base w r q.1) (h2 : ElAt byteV 5 base w s q.2) (hown' : w'.ownsRow base 160 2 v' (L.length + 1) (cs ++ [r, s])) (hg : w.grownBy w' v.ownBlock) : LnsOwn base w' v' (L ++ [q]) := by
  have hl := hown.1
  refine ⟨cs ++ [r, s], by rw [List.length_append]; exact hown', fun j hj => ?_⟩
  rw [getD_snoc]
  by_cases h : j < L.length
  · rw [if_pos h]
    obtain ⟨r', s', c1, c2, e1, e2⟩ := hel j h
    refine ⟨r', s', ?_, ?_, e1.grown2 (by decide) hown hg, e2.grown2 (by decide) hown hg⟩
    · rw [List.getElem?_append_left (by omega)]; exact c1
    · rw [List.getElem?_append_left (by omega)]; exact c2
  · have e : j = L.length := by simp at hj; omega
    rw [if_neg h, if_pos e]
    refine ⟨r, s, ?_, ?_, h1.grown2 (by decide) hown hg, h2.grown2 (by decide) hown hg⟩
    · rw [List.getElem?_append_right (by omega), show j * 2 - cs.length = 0 by omega]; rfl
    · rw [List.getElem?_append_right (by omega), show j * 2 + 1 - cs.length = 1 by omega]; rfl
/-- One line more, laid in a block of its own first. -/
theorem LnsOwn.app {o : Obj} (hown : w.ownsRow base 160 2 v L.length cs) (hel : LnsEl base w cs L)
    (h1 : ElAt boolV 4 base w r q.1) (h2 : ElAt byteV 5 base w s q.2) (hown' : w'.ownsRow base 160 2 v' (L.length + 1) (cs ++ [r, s])) (hg : (w.alloc o).grownBy w' v.ownBlock) : LnsOwn base w' v' (L ++ [q]) := by
  have hb : Below w.heap.size w (w.alloc o) := (Below.refl _ _).alloc (Nat.le_refl _) _
  refine LnsOwn.snoc (w := w.alloc o) (owns_kept hown hb) (fun j hj => ?_) (h1.mono hb) (h2.mono hb) hown' hg
  obtain ⟨r', s', c1, c2, e1, e2⟩ := hel j hj
  exact ⟨r', s', c1, c2, e1.mono hb, e2.mono hb⟩
/-- A line of it, opened; another line stored in its place. -/
theorem LnsOwn.row (h : LnsOwn base w v L) {c : Nat} (hc : c < L.length) : ∃ g cap, v = .slice (some ⟨g, 0, none⟩) L.length cap ∧ base ≤ g ∧ (∃ r s, w.cell? ⟨g, c * 2, none⟩ = some r ∧ w.cell? ⟨g, c * 2 + 1, none⟩ = some s ∧ ElAt boolV 4 base w r (L.getD c noLn).1 ∧ ElAt byteV 5 base w s (L.getD c noLn).2) ∧
    (∀ k, w.frozen? ⟨g, k, none⟩ = false) ∧
    ∀ r s (q : Ln), ElAt boolV 4 base w r q.1 → ElAt byteV 5 base w s q.2 → LnsOwn base ((w.setCell ⟨g, c * 2, none⟩ r).setCell ⟨g, c * 2 + 1, none⟩ s) v (L.set c q) := by
  obtain ⟨cs, h1, h2⟩ := h
  have hl := h1.1
  rcases h1.2 with ⟨rfl, h0⟩ | ⟨g, cap, cur, rfl, hbg, hh, -⟩
  · omega
  refine ⟨g, cap, rfl, hbg, ?_, fun k => h1.frozenAt k, fun r s q hr hs => ?_⟩
  · obtain ⟨r, s, c1, c2, e1, e2⟩ := h2 c hc
    exact ⟨r, s, (h1.cellAt (c * 2) (by omega)).trans c1, (h1.cellAt (c * 2 + 1) (by omega)).trans c2, e1, e2⟩
  · have g1 := (h1.stored (c * 2) r).1
    have g2 := (g1.stored (c * 2 + 1) s).1
    have key : ∀ {α : Type} {f : α → Value} {te : TypeId} {x : Value} {l : List α}, 160 ≠ te → ElAt f te base w x l → ElAt f te base ((w.setCell ⟨g, c * 2, none⟩ r).setCell ⟨g, c * 2 + 1, none⟩ s) x l := fun {α f te x l} hte he =>
      he.keep fun b hb hk => by
        have hne : b ≠ g := fun e => by
          subst e
          rcases hk with h3 | ⟨cur', h3⟩
          · omega
          · rw [h3] at hh
            cases hh
            exact hte rfl
        exact (Below.heap_setCell _ ⟨g, c * 2 + 1, none⟩ _ b hne).trans (Below.heap_setCell _ ⟨g, c * 2, none⟩ _ b hne)
    refine ⟨(cs.set (c * 2) r).set (c * 2 + 1) s, by rw [List.length_set]; exact g2, fun j hj => ?_⟩
    rw [List.length_set] at hj
    rw [getD_set _ _ _ _ _ hc]
    by_cases e : j = c
    · subst e
      rw [if_pos rfl]
      refine ⟨r, s, ?_, ?_, key (by decide) hr, key (by decide) hs⟩
      · rw [List.getElem?_set_ne (by omega), List.getElem?_set_self (by omega)]
      · rw [List.getElem?_set_self (by rw [List.length_set]; omega)]
    · rw [if_neg e]
      obtain ⟨r', s', c1, c2, e1, e2⟩ := h2 j hj
      refine ⟨r', s', ?_, ?_, key (by decide) e1, key (by decide) e2⟩
      · rw [List.getElem?_set_ne (by omega), List.getElem?_set_ne (by omega)]; exact c1
      · rw [List.getElem?_set_ne (by omega), List.getElem?_set_ne (by omega)]; exact c2
end

/-- append of such a list onto an empty one of the call's own. -/
theorem wpList_append_lns {P : Program} (w : World) {ops : Array Oper} {rest : List Oper} {o : Oper} {a : Act} {Q : Exit → Act → World → Prop} (hgd : o.guard = none) (s x : Operand) (t : TypeId)
    (ho : o.op = .call { callee := .builtin .append, args := #[s, x], argTypes := #[t, t] })
    (ob : Nat) (i : TypeInfo) (z : Value) (bytes : Nat) (ht : P.underlying t = some (.slice 160)) (hi : P.info? 160 = some i) (hz : i.zero = some z)
    (hsize : i.size = 2) (hby : i.bytes = bytes) (hzs : z.cells.size = 2)
    (v : Value) (hs : a.eval s = v) (hown : w.ownsRow ob 160 2 v 0 [])
    (src : Value) (L : List Ln) (hx : a.eval x = src) (w0 : World) (hb0 : Below w0.heap.size w0 w) (hob : ob = w0.heap.size) (hl : LnsAt w0 src L)
    (h63 : 0 + L.length ≤ maxLen) (hbytes : (0 + L.length) * bytes ≤ 140737488355328)
    (h : ∀ v' w', LnsOwn ob w' v' L → w.grownBy w' v.ownBlock → wpList P ops Q rest (a.put o.dst v') w') : wpList P ops Q (o :: rest) a w := by
  subst hob
  have hbase : w0.heap.size ≤ w.heap.size := hb0.size
  obtain ⟨ad, cap, cs, rfl, h1, h2, h3, h4, h5⟩ := hl
  have fin : ∀ v' w', w'.ownsRow w0.heap.size 160 2 v' (0 + L.length) ([] ++ cs) → w.grownBy w' v.ownBlock → LnsOwn w0.heap.size w' v' L := fun v' w' k2 k3 => by
    rw [Nat.zero_add, List.nil_append] at k2
    refine ⟨cs, k2, fun j hj => ?_⟩
    obtain ⟨r, s, d1, d2, l1, l2⟩ := h5 j hj
    exact ⟨r, s, d1, d2, (ElAt.old l1 hb0).grown2 (L := []) (by decide) hown k3, (ElAt.old l2 hb0).grown2 (L := []) (by decide) hown k3⟩
  by_cases hp : 0 < L.length
  · obtain ⟨b, off, rfl, hc⟩ := h4 hp
    refine wpList_append_own w hgd s x t ho w0.heap.size _ i z 2 bytes ht hi hz hsize hby hzs (by decide) v 0 [] hs hown ⟨b, off, none⟩ L.length cap cs hx (by omega) (fun j u hu => ?_) (fun u hu => ?_) h63 hbytes hbase fun v' w' k2 k3 _ => h v' w' (fin v' w' k2 k3) k3
    · have hx := hc j u hu
      rw [Go.WideShapes.add_plain, hb0.cell (p := ⟨b, off + j, none⟩) (World.block_lt_of_cell? w0 _ hx)]
      exact hx
    · obtain ⟨i, hi, rfl⟩ := List.getElem_of_mem hu
      obtain ⟨r, s, d1, d2, l1, l2⟩ := h5 (i / 2) (by omega)
      rcases Nat.mod_two_eq_zero_or_one i with e | e
      · rw [show i / 2 * 2 = i by omega, List.getElem?_eq_getElem hi] at d1
        obtain ⟨_, _, rfl, _⟩ := l1
        rw [Option.some.inj d1]; rfl
      · rw [show i / 2 * 2 + 1 = i by omega, List.getElem?_eq_getElem hi] at d2
        obtain ⟨_, _, rfl, _⟩ := l2
        rw [Option.some.inj d2]; rfl
  · have hl0 : L = [] := List.eq_nil_of_length_eq_zero (by omega)
    subst hl0
    obtain rfl : cs = [] := List.eq_nil_of_length_eq_zero (by simpa using h3)
    cases ad with
    | none =>
      refine wpList_plain hgd fun K hK => ?_
      have hrun := run_append_none_cap (P := P) (w := w) w0.heap.size t o.type _ i 2 ht hi v 0 cap [] hown
      unfold Oper.wp
      simp [execOp, ho, resolve, invoke, builtin, hs, hx, hrun, Result.andThen]
      exact hK _ _ (h v w (fin v w (by simpa using hown) (World.grownBy.refl _ _)) (World.grownBy.refl _ _))
    | some ad =>
      exact wpList_append_own w hgd s x t ho w0.heap.size _ i z 2 bytes ht hi hz hsize hby hzs (by decide) v 0 [] hs hown ad 0 cap [] hx (by simp) (fun j u hu => by simp at hu) (fun u hu => by simp at hu) h63 hbytes hbase fun v' w' k2 k3 _ => h v' w' (fin v' w' k2 k3) k3
end Go.Proofs.YtkhdjjcflbdegaaGreatDoor
end
