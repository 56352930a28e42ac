import Derived.Test.YticoaioeeppapaaGreatDoorG37
import Derived.Test.YticoaioeeppapaaGreatDoorG27

section
/- Package elim: New; (*System).Value. -/
namespace Go.Proofs.YticoaioeeppapaaGreatDoor
open Go.RowKit Go.Extern.Stop Go.Stop Go.Extern

def nameElNew : ByteArray := ⟨#[101, 108, 105, 109, 46, 78, 101, 119]⟩
def nameElValue : ByteArray := ⟨#[101, 108, 105, 109, 46, 86, 97, 108, 117, 101]⟩

theorem info_eqn : (Tryz.prog.info? 132).map (fun i => (i.zero, i.size, i.bytes)) = some (some (.agg #[.slice none 0 0, .slice none 0 0]), 2, 48) := by kernel_rfl

theorem made_pair (z : Value) (m j : Nat) (h : j < m) : (madeCells #[z, z] m).toList[j]? = some z := by
  unfold madeCells
  simp [h]
  rcases Nat.mod_two_eq_zero_or_one j with e | e <;> rw [e] <;> rfl

theorem elNew_bad {w : World} (n size : Int) (h : n < 1 ∨ 4096 < n ∨ size < 1 ∨ 64 < size) :
    Calls Tryz.prog 73 #[.int .i64 n, .int .i64 size] w fun e w' => ∃ E, e = .returned (.tuple #[nilP, E]) ∧ ErrAns 1 nameElNew w' E ∧ Below w.heap.size w w' := by
  by_cases h1 : n < 1
  · clear h
    go_enter Tryz.func73, Tryz.ntmps73
    go_wp2_with fail
    refine (New_ans nameElNew 1 (by decide) _).mono ?_
    rintro e w1 ⟨E1, rfl, he1, hb1⟩
    have HE1 := Lib.hid he1
    have HB1 := Lib.hid hb1
    obtain ⟨u, x, rfl⟩ := he1.some (by decide)
    clear he1 hb1
    go_wp2
    go_ret2
    exact ⟨_, rfl, HE1.out, HB1.out⟩
  by_cases h2 : 4096 < n
  · clear h
    go_enter Tryz.func73, Tryz.ntmps73
    go_wp2_with fail
    refine (New_ans nameElNew 1 (by decide) _).mono ?_
    rintro e w1 ⟨E1, rfl, he1, hb1⟩
    have HE1 := Lib.hid he1
    have HB1 := Lib.hid hb1
    obtain ⟨u, x, rfl⟩ := he1.some (by decide)
    clear he1 hb1
    go_wp2
    go_ret2
    exact ⟨_, rfl, HE1.out, HB1.out⟩
  by_cases h3 : size < 1
  · clear h
    go_enter Tryz.func73, Tryz.ntmps73
    go_wp2_with fail
    refine (New_ans nameElNew 1 (by decide) _).mono ?_
    rintro e w1 ⟨E1, rfl, he1, hb1⟩
    have HE1 := Lib.hid he1
    have HB1 := Lib.hid hb1
    obtain ⟨u, x, rfl⟩ := he1.some (by decide)
    clear he1 hb1
    go_wp2
    go_ret2
    exact ⟨_, rfl, HE1.out, HB1.out⟩
  · have h4 : 64 < size := by omega
    clear h
    go_enter Tryz.func73, Tryz.ntmps73
    go_wp2_with fail
    refine (New_ans nameElNew 1 (by decide) _).mono ?_
    rintro e w1 ⟨E1, rfl, he1, hb1⟩
    have HE1 := Lib.hid he1
    have HB1 := Lib.hid hb1
    obtain ⟨u, x, rfl⟩ := he1.some (by decide)
    clear he1 hb1
    go_wp2
    go_ret2
    exact ⟨_, rfl, HE1.out, HB1.out⟩

set_option maxRecDepth 1000000 in
theorem elNew_any {w : World} (n size : Nat) (hn1 : 1 ≤ n) (hn2 : n ≤ 4096) (hs1 : 1 ≤ size) (hs2 : size ≤ 64) :
    Calls Tryz.prog 73 #[.int .i64 (n : Int), .int .i64 (size : Int)] w fun e w' => ∃ b kb, e = .returned (.tuple #[sysP b, .nilIface]) ∧ SysM w' b kb n size (fun _ => none) (fun _ => nilS) (fun _ => nilS) false ∧
      w.heap.size ≤ b ∧ w.heap.size ≤ kb ∧ Below w.heap.size w w' := by
  obtain ⟨i0, hi, hz0, hz1, hz2⟩ := info_parts info_eqn
  have h1 : (1 : Int) ≤ (n : Int) := by omega
  have h2 : (n : Int) ≤ 4096 := by omega
  have h3 : (1 : Int) ≤ (size : Int) := by omega
  have h4 : (size : Int) ≤ 64 := by omega
  go_enter Tryz.func73, Tryz.ntmps73
  go_wp2_with (at_make; refine wpList_make_full _ rfl _ _ 128 rfl w.heap.size 132 i0 (.agg #[.slice none 0 0, .slice none 0 0]) 2 Tryz.underlying128 hi hz0 hz1 .i64 .i64 _ _ n rfl rfl rfl rfl (by rw [hz2]; omega) (by unfold maxLen; omega) (Nat.le_refl _) ?_; intro w0 hown0 hgrow0; have hb0 := Lib.hid ((Below.refl w.heap.size w).grown hgrow0 (Nat.le_refl _) (fun k hk => by cases hk)); have ho0 := Lib.hid hown0; clear hown0 hgrow0)
  go_ret2
  have hk : ∃ cur, w0.heap[w.heap.size]? = some (.cells cur 132 (0, 0)) := by
    rcases ho0.out.2 with ⟨e1, _⟩ | ⟨g, cap, cur, e1, _, h3, _⟩
    · cases e1
    · have : w.heap.size = g := by simpa [Value.ownBlock] using congrArg Value.ownBlock e1
      rw [this]; exact ⟨cur, h3⟩
  obtain ⟨cur, hk⟩ := hk
  have hklt : w.heap.size < w0.heap.size := (Array.getElem?_eq_some_iff.1 hk).1
  have hk' := (Below.heap_alloc w0 (.cells (sysCells n size w.heap.size 0 false) 130) _ hklt).trans hk
  refine ⟨w0.heap.size, w.heap.size, rfl, ⟨?_, ⟨cur, hk'⟩, fun c hc => ?_, fun c hc => ⟨rfl, rfl⟩, hn1, hn2, hs1, hs2⟩, by omega, Nat.le_refl _, hb0.out.alloc (by omega) _⟩
  · rw [cntF_none]
    exact heap_alloc_new w0 _
  · have hx : ∀ j, j < n * 2 → w0.cell? ⟨w.heap.size, j, none⟩ = some nilS := fun j hj => by
      rw [ho0.out.cellAt j hj]
      exact made_pair _ _ _ hj
    have hbd : Below w0.heap.size w0 (w0.alloc (.cells (sysCells n size w.heap.size 0 false) 130)) := (Below.refl _ _).alloc (Nat.le_refl _) _
    exact ⟨(hbd.cell (p := ⟨w.heap.size, c * 2, none⟩) hklt).trans (hx _ (by omega)), (hbd.cell (p := ⟨w.heap.size, c * 2 + 1, none⟩) hklt).trans (hx _ (by omega))⟩
end Go.Proofs.YticoaioeeppapaaGreatDoor
end

section
/- Package elim: (*System).Value. -/
namespace Go.Proofs.YticoaioeeppapaaGreatDoor
open Go.RowKit Go.Extern.Stop Go.Stop Go.Extern

/-- A literal of one number. -/
theorem lit_one (w : World) (c : Int) : ∃ w0, w0 = w.alloc (.cells #[.int .i64 c] 3) ∧ Below w.heap.size w w0 ∧ ListAt intV w0 (.slice (some ⟨w.heap.size, 0, none⟩) 1 1) [c] :=
  ⟨_, rfl, (Below.refl _ _).alloc (Nat.le_refl _) _, _, 1, rfl, Nat.le_refl _, by unfold maxLen; omega, fun _ => ⟨w.heap.size, 0, rfl, fun j hj => by
    obtain rfl : j = 0 := by simpa using hj
    exact World.cell?_alloc_new _ _ _ _⟩⟩

theorem packs_unit {ws : List Nat} {c n : Nat} (hc : c < n) (h : Packs ws (kOf n) (inP [(c : Int)])) : bitW ws = unitV c ∧ ws.length = kOf n ∧ Word ws := by
  obtain ⟨h1, h2, h3⟩ := h
  refine ⟨?_, h1, h2⟩
  funext d
  by_cases hd : d < 64 * kOf n
  · rw [h3 d hd]
    unfold inP unitV
    simp
    omega
  · rw [bitW_out _ _ (by rw [h1]; omega)]
    have : d ≠ c := by unfold kOf at hd; omega
    simp [unitV, this]

end Go.Proofs.YticoaioeeppapaaGreatDoor
end

section
/- Package elim: (*System).All, where there is nothing to tell; (*System).Clone of nil. -/
namespace Go.Proofs.YticoaioeeppapaaGreatDoor
open Go.RowKit Go.Extern.Stop Go.Stop Go.Extern

def nameElAll : ByteArray := ⟨#[101, 108, 105, 109, 46, 65, 108, 108]⟩

theorem results_cell2 {P : Program} {fn : Func} {p q : Tmp} {ty uy : TypeId} (h : fn.results = #[.cell p ty, .cell q uy]) (tmps : Array Value) (w : World) (a b : Addr) (v x : Value) (hp : tmps.getD p undef = .pointer (some a)) (hq : tmps.getD q undef = .pointer (some b))
    (h1 : (isAgg ty).run P w = .ok false w) (h2 : (isAgg uy).run P w = .ok false w) (hv : w.cell? a = some v) (hx : w.cell? b = some x) : (results fn tmps).run P w = .ok (.tuple #[v, x]) w := by
  have hp' : tmps[p]?.getD undef = .pointer (some a) := by simpa using hp
  have hq' : tmps[q]?.getD undef = .pointer (some b) := by simpa using hq
  simp [results, h, hp', hq', asAddr, loadVar, h1, h2, hv, hx]

theorem agg_syms {w : World} : (isAgg 44).run Tryz.prog w = .ok false w := by simp [isAgg, run_underlying Tryz.underlying44]
theorem agg_error {w : World} : (isAgg 28).run Tryz.prog w = .ok false w := by simp [isAgg, run_underlying Tryz.underlying28]

/-- The boxes of All: its system, its results. -/
structure AllBox (w w0 : World) (p : Value) : Prop where
  bel : Below w.heap.size w w0
  lt : w.heap.size + 1 + 1 < w0.heap.size
  h0 : w0.heap[w.heap.size]? = some (.cells #[p] 83 (0, 0))
  h1 : w0.heap[w.heap.size + 1]? = some (.cells #[nilS] 44 (0, 0))
  h2 : w0.heap[w.heap.size + 1 + 1]? = some (.cells #[.nilIface] 28 (0, 0))
theorem all_laid (w : World) (p : Value) : ∃ w0, w0 = ((w.alloc (.cells #[p] 83)).alloc (.cells #[nilS] 44)).alloc (.cells #[.nilIface] 28) ∧ AllBox w w0 p := by
  have z1 : (w.alloc (.cells #[p] 83)).heap.size = w.heap.size + 1 := World.size_alloc _ _
  have z2 : ((w.alloc (.cells #[p] 83)).alloc (.cells #[nilS] 44)).heap.size = w.heap.size + 1 + 1 := by rw [World.size_alloc, z1]
  have a1 : (w.alloc (.cells #[p] 83)).heap[w.heap.size]? = some (.cells #[p] 83 (0, 0)) := heap_alloc_new w _
  have a2 := heap_alloc_new (w.alloc (.cells #[p] 83)) (.cells #[nilS] 44)
  rw [z1] at a2
  have a3 := heap_alloc_new ((w.alloc (.cells #[p] 83)).alloc (.cells #[nilS] 44)) (.cells #[.nilIface] 28)
  rw [z2] at a3
  refine ⟨_, rfl, (((Below.refl _ _).alloc (Nat.le_refl _) _).alloc (by omega) _).alloc (by omega) _, by rw [World.size_alloc, z2]; omega, ?_, ?_, a3⟩
  · rw [Below.heap_alloc _ _ _ (by omega), Below.heap_alloc _ _ _ (by omega)]; exact a1
  · rw [Below.heap_alloc _ _ _ (by omega)]; exact a2
theorem AllBox.mono {w w0 w1 : World} {p : Value} (h : AllBox w w0 p) (hb : Below w0.heap.size w0 w1) : AllBox w w1 p := by
  have hl := h.lt
  exact ⟨h.bel.trans (hb.mono (by omega)), Nat.lt_of_lt_of_le hl hb.size, (hb.block _ (by omega)).trans h.h0, (hb.block _ (by omega)).trans h.h1, (hb.block _ hl).trans h.h2⟩
/-- Its results, stored. -/
theorem AllBox.done {w w0 : World} {p v e : Value} (h : AllBox w w0 p) : ((w0.setCell ⟨w.heap.size + 1, 0, none⟩ v).setCell ⟨w.heap.size + 1 + 1, 0, none⟩ e).cell? ⟨w.heap.size + 1, 0, none⟩ = some v ∧
    ((w0.setCell ⟨w.heap.size + 1, 0, none⟩ v).setCell ⟨w.heap.size + 1 + 1, 0, none⟩ e).cell? ⟨w.heap.size + 1 + 1, 0, none⟩ = some e ∧ Below w.heap.size w ((w0.setCell ⟨w.heap.size + 1, 0, none⟩ v).setCell ⟨w.heap.size + 1 + 1, 0, none⟩ e) := by
  refine ⟨?_, ?_, (h.bel.setCell (p := ⟨w.heap.size + 1, 0, none⟩) (show w.heap.size ≤ w.heap.size + 1 by omega) _).setCell (p := ⟨w.heap.size + 1 + 1, 0, none⟩) (show w.heap.size ≤ w.heap.size + 1 + 1 by omega) _⟩
  · rw [World.cell?_setCell_other (h := addr_ne (.inl (by omega)))]
    exact World.cell?_setCell_same _ _ _ (cell_of_heap h.h1 rfl)
  · refine World.cell?_setCell_same _ _ _ (u := .nilIface) ?_
    rw [World.cell?_setCell_other (h := addr_ne (.inl (by omega)))]
    exact cell_of_heap h.h2 rfl
/-- What an error is outlives the storing of the results. -/
theorem AllBox.err {w w0 : World} {p v e E : Value} {k : Int} {c : ByteArray} (h : AllBox w w0 p) (he : ErrAns k c w0 E) : ErrAns k c ((w0.setCell ⟨w.heap.size + 1, 0, none⟩ v).setCell ⟨w.heap.size + 1 + 1, 0, none⟩ e) E :=
  errAns_kept2 he fun b s hc => by
    have n1 : b ≠ w.heap.size + 1 := by
      rintro rfl
      rw [cell_of_heap (j := 0) (u := nilS) h.h1 rfl] at hc
      cases hc
    have n2 : b ≠ w.heap.size + 1 + 1 := by
      rintro rfl
      rw [cell_of_heap (j := 0) (u := .nilIface) h.h2 rfl] at hc
      cases hc
    rw [Below.heap_setCell _ _ _ _ n2, Below.heap_setCell _ _ _ _ n1]

theorem elAll_nil {w : World} : Calls Tryz.prog 51 #[nilP] w fun e w' => ∃ E, e = .returned (.tuple #[nilS, E]) ∧ ErrAns 7 nameElAll w' E ∧ Below w.heap.size w w' := by
  obtain ⟨w0, hw0, hbx⟩ := all_laid w nilP
  have HBX := Lib.hid hbx
  have HW0 := Lib.hid hw0
  have hc0 := cell_of_heap (j := 0) (u := nilP) hbx.h0 rfl
  clear hw0 hbx
  go_enter Tryz.func51, Tryz.ntmps51
  go_wp2_with fail
  rw [← HW0.out]
  refine over_nil.mono ?_
  rintro e w1 ⟨rfl, rfl⟩
  go_wp2_with fail
  refine (New_ans nameElAll 7 (by decide) _).mono ?_
  rintro e w1 ⟨E1, rfl, he1, hb1⟩
  have HBX1 := Lib.hid (HBX.out.mono hb1)
  have HE1 := Lib.hid he1
  have hc1 := cell_of_heap (j := 0) (u := nilS) HBX1.out.h1 rfl
  have hc2 := cell_of_heap (j := 0) (u := .nilIface) HBX1.out.h2 rfl
  have hf1 := frozen_of_heap (j := 0) HBX1.out.h1
  have hf2 := frozen_of_heap (j := 0) HBX1.out.h2
  obtain ⟨u, x, rfl⟩ := he1.some (by decide)
  clear he1 hb1
  go_wp2
  obtain ⟨d1, d2, d3⟩ := HBX1.out.done (v := nilS) (e := .iface u x)
  refine bodyPost_ret (results_cell2 rfl _ _ _ _ _ _ rfl rfl agg_syms agg_error d1 d2) rfl ?_
  exact ⟨_, rfl, HBX1.out.err HE1.out, d3⟩
theorem elAll_over {w : World} (b : Nat) (h : w.cell? ⟨b, 4, none⟩ = some (.bool true)) : Calls Tryz.prog 51 #[sysP b] w fun e w' => ∃ E, e = .returned (.tuple #[nilS, E]) ∧ ErrAns 7 nameElAll w' E ∧ Below w.heap.size w w' := by
  obtain ⟨w0, hw0, hbx⟩ := all_laid w (sysP b)
  have HBX := Lib.hid hbx
  have HW0 := Lib.hid hw0
  have HC := Lib.hid ((hbx.bel.cell (p := ⟨b, 4, none⟩) (World.block_lt_of_cell? w _ h)).trans h)
  have hc0 := cell_of_heap (j := 0) (u := sysP b) hbx.h0 rfl
  clear hw0 hbx h
  go_enter Tryz.func51, Tryz.ntmps51
  go_wp2_with fail
  rw [← HW0.out]
  refine (over_any b true HC.out).mono ?_
  rintro e w1 ⟨rfl, rfl⟩
  go_wp2_with fail
  refine (New_ans nameElAll 7 (by decide) _).mono ?_
  rintro e w1 ⟨E1, rfl, he1, hb1⟩
  have HBX1 := Lib.hid (HBX.out.mono hb1)
  have HE1 := Lib.hid he1
  have hc1 := cell_of_heap (j := 0) (u := nilS) HBX1.out.h1 rfl
  have hc2 := cell_of_heap (j := 0) (u := .nilIface) HBX1.out.h2 rfl
  have hf1 := frozen_of_heap (j := 0) HBX1.out.h1
  have hf2 := frozen_of_heap (j := 0) HBX1.out.h2
  obtain ⟨u, x, rfl⟩ := he1.some (by decide)
  clear he1 hb1
  go_wp2
  obtain ⟨d1, d2, d3⟩ := HBX1.out.done (v := nilS) (e := .iface u x)
  refine bodyPost_ret (results_cell2 rfl _ _ _ _ _ _ rfl rfl agg_syms agg_error d1 d2) rfl ?_
  exact ⟨_, rfl, HBX1.out.err HE1.out, d3⟩
theorem elAll_none {w : World} (b n r : Nat) (h0 : w.cell? ⟨b, 0, none⟩ = some (.int .i64 (n : Int))) (h3 : w.cell? ⟨b, 3, none⟩ = some (.int .i64 (r : Int))) (h4 : w.cell? ⟨b, 4, none⟩ = some (.bool false)) (hr : r ≠ n) :
    Calls Tryz.prog 51 #[sysP b] w fun e w' => ∃ E, e = .returned (.tuple #[nilS, E]) ∧ ErrAns 4 nameElAll w' E ∧ Below w.heap.size w w' := by
  obtain ⟨w0, hw0, hbx⟩ := all_laid w (sysP b)
  have HBX := Lib.hid hbx
  have HW0 := Lib.hid hw0
  have hlt := World.block_lt_of_cell? w _ h0
  have HC0 := Lib.hid ((hbx.bel.cell (p := ⟨b, 0, none⟩) hlt).trans h0)
  have HC3 := Lib.hid ((hbx.bel.cell (p := ⟨b, 3, none⟩) hlt).trans h3)
  have HC := Lib.hid ((hbx.bel.cell (p := ⟨b, 4, none⟩) hlt).trans h4)
  have hc0 := cell_of_heap (j := 0) (u := sysP b) hbx.h0 rfl
  have HR := Lib.hid hr
  clear hw0 hbx h0 h3 h4 hr
  go_enter Tryz.func51, Tryz.ntmps51
  go_wp2_with fail
  rw [← HW0.out]
  refine (over_any b false HC.out).mono ?_
  rintro e w1 ⟨rfl, rfl⟩
  go_wp2_with fail
  refine (elWhole_any b n r false HC0.out HC3.out HC.out).mono ?_
  rintro e w1 ⟨rfl, hb1⟩
  have HBX1 := Lib.hid (HBX.out.mono hb1)
  rw [decide_eq_false HR.out]
  clear hb1 hc0 HBX
  simp only [Bool.not_false, Bool.and_false]
  go_wp2_with fail
  refine (New_ans nameElAll 4 (by decide) _).mono ?_
  rintro e w2 ⟨E1, rfl, he1, hb1⟩
  have HBX2 := Lib.hid (HBX1.out.mono hb1)
  have HE1 := Lib.hid he1
  have hc1 := cell_of_heap (j := 0) (u := nilS) HBX2.out.h1 rfl
  have hc2 := cell_of_heap (j := 0) (u := .nilIface) HBX2.out.h2 rfl
  have hf1 := frozen_of_heap (j := 0) HBX2.out.h1
  have hf2 := frozen_of_heap (j := 0) HBX2.out.h2
  obtain ⟨u, x, rfl⟩ := he1.some (by decide)
  clear he1 hb1
  go_wp2
  obtain ⟨d1, d2, d3⟩ := HBX2.out.done (v := nilS) (e := .iface u x)
  refine bodyPost_ret (results_cell2 rfl _ _ _ _ _ _ rfl rfl agg_syms agg_error d1 d2) rfl ?_
  exact ⟨_, rfl, HBX2.out.err HE1.out, d3⟩
theorem elClone_nil {w : World} : Calls Tryz.prog 44 #[nilP] w fun e w' => e = .returned nilP ∧ w = w' := by
  go_enter Tryz.func44, Tryz.ntmps44
  go_wp2
  go_ret
  exact ⟨rfl, rfl⟩
end Go.Proofs.YticoaioeeppapaaGreatDoor
end
