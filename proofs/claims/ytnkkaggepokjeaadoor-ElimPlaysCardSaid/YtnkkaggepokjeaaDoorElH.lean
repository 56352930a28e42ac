/- Package elim: (*System).All, where there is nothing to tell; (*System).Clone of nil. -/
import Derived.Test.YtnkkaggepokjeaaDoorElG
namespace Go.Proofs.YtnkkaggepokjeaaDoor
open Go.RowKit Go.Extern.Stop Go.Stop Go.Extern

def nameElAll : ByteArray := ⟨#[101, 108, 105, 109, 46, 65, 108, 108]⟩

theorem results_cell2 {P : Program} {fn : Func} {p q : Tmp} {ty uy : TypeId} (h : fn.results = #[.cell p ty, .cell q uy]) (tmps : Array Value) (w : World) (a b : Addr) (v x : Value) (hp : tmps.getD p undef = .pointer (some a)) (hq : tmps.getD q undef = .pointer (some b))
    (h1 : (isAgg ty).run P w = .ok false w) (h2 : (isAgg uy).run P w = .ok false w) (hv : w.cell? a = some v) (hx : w.cell? b = some x) : (results fn tmps).run P w = .ok (.tuple #[v, x]) w := by
  have hp' : tmps[p]?.getD undef = .pointer (some a) := by simpa using hp
  have hq' : tmps[q]?.getD undef = .pointer (some b) := by simpa using hq
  simp [results, h, hp', hq', asAddr, loadVar, h1, h2, hv, hx]

theorem agg_syms {w : World} : (isAgg 52).run Tryd.prog w = .ok false w := by simp [isAgg, run_underlying Tryd.underlying52]
theorem agg_error {w : World} : (isAgg 29).run Tryd.prog w = .ok false w := by simp [isAgg, run_underlying Tryd.underlying29]

/-- The boxes of All: its system, its results. -/
structure AllBox (w w0 : World) (p : Value) : Prop where
  bel : Below w.heap.size w w0
  lt : w.heap.size + 1 + 1 < w0.heap.size
  h0 : w0.heap[w.heap.size]? = some (.cells #[p] 27 (0, 0))
  h1 : w0.heap[w.heap.size + 1]? = some (.cells #[nilS] 52 (0, 0))
  h2 : w0.heap[w.heap.size + 1 + 1]? = some (.cells #[.nilIface] 29 (0, 0))
theorem all_laid (w : World) (p : Value) : ∃ w0, w0 = ((w.alloc (.cells #[p] 27)).alloc (.cells #[nilS] 52)).alloc (.cells #[.nilIface] 29) ∧ AllBox w w0 p := by
  have z1 : (w.alloc (.cells #[p] 27)).heap.size = w.heap.size + 1 := World.size_alloc _ _
  have z2 : ((w.alloc (.cells #[p] 27)).alloc (.cells #[nilS] 52)).heap.size = w.heap.size + 1 + 1 := by rw [World.size_alloc, z1]
  have a1 : (w.alloc (.cells #[p] 27)).heap[w.heap.size]? = some (.cells #[p] 27 (0, 0)) := heap_alloc_new w _
  have a2 := heap_alloc_new (w.alloc (.cells #[p] 27)) (.cells #[nilS] 52)
  rw [z1] at a2
  have a3 := heap_alloc_new ((w.alloc (.cells #[p] 27)).alloc (.cells #[nilS] 52)) (.cells #[.nilIface] 29)
  rw [z2] at a3
  refine ⟨_, rfl, (((Below.refl _ _).alloc (Nat.le_refl _) _).alloc (by omega) _).alloc (by omega) _, by rw [World.size_alloc, z2]; omega, ?_, ?_, a3⟩
  · rw [Below.heap_alloc _ _ _ (by omega), Below.heap_alloc _ _ _ (by omega)]; exact a1
  · rw [Below.heap_alloc _ _ _ (by omega)]; exact a2
theorem AllBox.mono {w w0 w1 : World} {p : Value} (h : AllBox w w0 p) (hb : Below w0.heap.size w0 w1) : AllBox w w1 p := by
  have hl := h.lt
  exact ⟨h.bel.trans (hb.mono (by omega)), Nat.lt_of_lt_of_le hl hb.size, (hb.block _ (by omega)).trans h.h0, (hb.block _ (by omega)).trans h.h1, (hb.block _ hl).trans h.h2⟩
/-- Its results, stored. -/
theorem AllBox.done {w w0 : World} {p v e : Value} (h : AllBox w w0 p) : ((w0.setCell ⟨w.heap.size + 1, 0, none⟩ v).setCell ⟨w.heap.size + 1 + 1, 0, none⟩ e).cell? ⟨w.heap.size + 1, 0, none⟩ = some v ∧
    ((w0.setCell ⟨w.heap.size + 1, 0, none⟩ v).setCell ⟨w.heap.size + 1 + 1, 0, none⟩ e).cell? ⟨w.heap.size + 1 + 1, 0, none⟩ = some e ∧ Below w.heap.size w ((w0.setCell ⟨w.heap.size + 1, 0, none⟩ v).setCell ⟨w.heap.size + 1 + 1, 0, none⟩ e) := by
  refine ⟨?_, ?_, (h.bel.setCell (p := ⟨w.heap.size + 1, 0, none⟩) (show w.heap.size ≤ w.heap.size + 1 by omega) _).setCell (p := ⟨w.heap.size + 1 + 1, 0, none⟩) (show w.heap.size ≤ w.heap.size + 1 + 1 by omega) _⟩
  · rw [World.cell?_setCell_other (h := addr_ne (.inl (by omega)))]
    exact World.cell?_setCell_same _ _ _ (cell_of_heap h.h1 rfl)
  · refine World.cell?_setCell_same _ _ _ (u := .nilIface) ?_
    rw [World.cell?_setCell_other (h := addr_ne (.inl (by omega)))]
    exact cell_of_heap h.h2 rfl
theorem Chain.kept2 {k : Int} {l : List ByteArray} {w w' : World} {E : Value} (h : Chain w k l E) (hs : ∀ b s, w.cell? ⟨b, 0, none⟩ = some (.string s) → w'.heap[b]? = w.heap[b]?) : Chain w' k l E := by
  induction h with
  | leaf => exact .leaf
  | wrap b c E1 l1 hc he _ ih => exact .wrap b c E1 l1 ((World.cell?_of_block (w := w) (a := ⟨b, 0, none⟩) (hs _ _ hc)).trans hc) ((World.cell?_of_block (w := w) (a := ⟨b, 1, none⟩) (hs _ _ hc)).trans he) ih
theorem errAns_kept2 {k : Int} {c : ByteArray} {w w' : World} {E : Value} (h : ErrAns k c w E) (hs : ∀ b s, w.cell? ⟨b, 0, none⟩ = some (.string s) → w'.heap[b]? = w.heap[b]?) : ErrAns k c w' E := by
  rcases h with h | ⟨h1, ls, h2⟩
  · exact .inl h
  · exact .inr ⟨h1, ls, h2.kept2 hs⟩
/-- What an error is outlives the storing of the results. -/
theorem AllBox.err {w w0 : World} {p v e E : Value} {k : Int} {c : ByteArray} (h : AllBox w w0 p) (he : ErrAns k c w0 E) : ErrAns k c ((w0.setCell ⟨w.heap.size + 1, 0, none⟩ v).setCell ⟨w.heap.size + 1 + 1, 0, none⟩ e) E :=
  errAns_kept2 he fun b s hc => by
    have n1 : b ≠ w.heap.size + 1 := by
      rintro rfl
      rw [cell_of_heap (j := 0) (u := nilS) h.h1 rfl] at hc
      cases hc
    have n2 : b ≠ w.heap.size + 1 + 1 := by
      rintro rfl
      rw [cell_of_heap (j := 0) (u := .nilIface) h.h2 rfl] at hc
      cases hc
    rw [Below.heap_setCell _ _ _ _ n2, Below.heap_setCell _ _ _ _ n1]

theorem elAll_nil {w : World} : Calls Tryd.prog 23 #[nilP] w fun e w' => ∃ E, e = .returned (.tuple #[nilS, E]) ∧ ErrAns 7 nameElAll w' E ∧ Below w.heap.size w w' := by
  obtain ⟨w0, hw0, hbx⟩ := all_laid w nilP
  have HBX := Lib.hid hbx
  have HW0 := Lib.hid hw0
  have hc0 := cell_of_heap (j := 0) (u := nilP) hbx.h0 rfl
  clear hw0 hbx
  go_enter Tryd.func23, Tryd.ntmps23
  go_wp2_with fail
  rw [← HW0.out]
  refine over_nil.mono ?_
  rintro e w1 ⟨rfl, rfl⟩
  go_wp2_with fail
  refine (New_ans nameElAll 7 (by decide) _).mono ?_
  rintro e w1 ⟨E1, rfl, he1, hb1⟩
  have HBX1 := Lib.hid (HBX.out.mono hb1)
  have HE1 := Lib.hid he1
  have hc1 := cell_of_heap (j := 0) (u := nilS) HBX1.out.h1 rfl
  have hc2 := cell_of_heap (j := 0) (u := .nilIface) HBX1.out.h2 rfl
  have hf1 := frozen_of_heap (j := 0) HBX1.out.h1
  have hf2 := frozen_of_heap (j := 0) HBX1.out.h2
  obtain ⟨u, x, rfl⟩ := he1.some (by decide)
  clear he1 hb1
  go_wp2
  obtain ⟨d1, d2, d3⟩ := HBX1.out.done (v := nilS) (e := .iface u x)
  refine bodyPost_ret (results_cell2 rfl _ _ _ _ _ _ rfl rfl agg_syms agg_error d1 d2) rfl ?_
  exact ⟨_, rfl, HBX1.out.err HE1.out, d3⟩
theorem elAll_over {w : World} (b : Nat) (h : w.cell? ⟨b, 4, none⟩ = some (.bool true)) : Calls Tryd.prog 23 #[sysP b] w fun e w' => ∃ E, e = .returned (.tuple #[nilS, E]) ∧ ErrAns 7 nameElAll w' E ∧ Below w.heap.size w w' := by
  obtain ⟨w0, hw0, hbx⟩ := all_laid w (sysP b)
  have HBX := Lib.hid hbx
  have HW0 := Lib.hid hw0
  have HC := Lib.hid ((hbx.bel.cell (p := ⟨b, 4, none⟩) (World.block_lt_of_cell? w _ h)).trans h)
  have hc0 := cell_of_heap (j := 0) (u := sysP b) hbx.h0 rfl
  clear hw0 hbx h
  go_enter Tryd.func23, Tryd.ntmps23
  go_wp2_with fail
  rw [← HW0.out]
  refine (over_any b true HC.out).mono ?_
  rintro e w1 ⟨rfl, rfl⟩
  go_wp2_with fail
  refine (New_ans nameElAll 7 (by decide) _).mono ?_
  rintro e w1 ⟨E1, rfl, he1, hb1⟩
  have HBX1 := Lib.hid (HBX.out.mono hb1)
  have HE1 := Lib.hid he1
  have hc1 := cell_of_heap (j := 0) (u := nilS) HBX1.out.h1 rfl
  have hc2 := cell_of_heap (j := 0) (u := .nilIface) HBX1.out.h2 rfl
  have hf1 := frozen_of_heap (j := 0) HBX1.out.h1
  have hf2 := frozen_of_heap (j := 0) HBX1.out.h2
  obtain ⟨u, x, rfl⟩ := he1.some (by decide)
  clear he1 hb1
  go_wp2
  obtain ⟨d1, d2, d3⟩ := HBX1.out.done (v := nilS) (e := .iface u x)
  refine bodyPost_ret (results_cell2 rfl _ _ _ _ _ _ rfl rfl agg_syms agg_error d1 d2) rfl ?_
  exact ⟨_, rfl, HBX1.out.err HE1.out, d3⟩
theorem elAll_none {w : World} (b n r : Nat) (h0 : w.cell? ⟨b, 0, none⟩ = some (.int .i64 (n : Int))) (h3 : w.cell? ⟨b, 3, none⟩ = some (.int .i64 (r : Int))) (h4 : w.cell? ⟨b, 4, none⟩ = some (.bool false)) (hr : r ≠ n) :
    Calls Tryd.prog 23 #[sysP b] w fun e w' => ∃ E, e = .returned (.tuple #[nilS, E]) ∧ ErrAns 4 nameElAll w' E ∧ Below w.heap.size w w' := by
  obtain ⟨w0, hw0, hbx⟩ := all_laid w (sysP b)
  have HBX := Lib.hid hbx
  have HW0 := Lib.hid hw0
  have hlt := World.block_lt_of_cell? w _ h0
  have HC0 := Lib.hid ((hbx.bel.cell (p := ⟨b, 0, none⟩) hlt).trans h0)
  have HC3 := Lib.hid ((hbx.bel.cell (p := ⟨b, 3, none⟩) hlt).trans h3)
  have HC := Lib.hid ((hbx.bel.cell (p := ⟨b, 4, none⟩) hlt).trans h4)
  have hc0 := cell_of_heap (j := 0) (u := sysP b) hbx.h0 rfl
  have HR := Lib.hid hr
  clear hw0 hbx h0 h3 h4 hr
  go_enter Tryd.func23, Tryd.ntmps23
  go_wp2_with fail
  rw [← HW0.out]
  refine (over_any b false HC.out).mono ?_
  rintro e w1 ⟨rfl, rfl⟩
  go_wp2_with fail
  refine (elWhole_any b n r false HC0.out HC3.out HC.out).mono ?_
  rintro e w1 ⟨rfl, hb1⟩
  have HBX1 := Lib.hid (HBX.out.mono hb1)
  rw [decide_eq_false HR.out]
  clear hb1 hc0 HBX
  simp only [Bool.not_false, Bool.and_false]
  go_wp2_with fail
  refine (New_ans nameElAll 4 (by decide) _).mono ?_
  rintro e w2 ⟨E1, rfl, he1, hb1⟩
  have HBX2 := Lib.hid (HBX1.out.mono hb1)
  have HE1 := Lib.hid he1
  have hc1 := cell_of_heap (j := 0) (u := nilS) HBX2.out.h1 rfl
  have hc2 := cell_of_heap (j := 0) (u := .nilIface) HBX2.out.h2 rfl
  have hf1 := frozen_of_heap (j := 0) HBX2.out.h1
  have hf2 := frozen_of_heap (j := 0) HBX2.out.h2
  obtain ⟨u, x, rfl⟩ := he1.some (by decide)
  clear he1 hb1
  go_wp2
  obtain ⟨d1, d2, d3⟩ := HBX2.out.done (v := nilS) (e := .iface u x)
  refine bodyPost_ret (results_cell2 rfl _ _ _ _ _ _ rfl rfl agg_syms agg_error d1 d2) rfl ?_
  exact ⟨_, rfl, HBX2.out.err HE1.out, d3⟩
theorem elClone_nil {w : World} : Calls Tryd.prog 14 #[nilP] w fun e w' => e = .returned nilP ∧ w = w' := by
  go_enter Tryd.func14, Tryd.ntmps14
  go_wp2
  go_ret
  exact ⟨rfl, rfl⟩
end Go.Proofs.YtnkkaggepokjeaaDoor
