/- Package ltrow: draw. -/
import Derived.Test.YtedadhoaegjhfaaDoorLtA
import Derived.Test.YtedadhoaegjhfaaDoorMiB
import Derived.Test.YtedadhoaegjhfaaDoorDgA
import Derived.Deep.LoopGhost
namespace Go.Proofs.YtedadhoaegjhfaaDoor
open Go.RowKit Go.Extern.Stop Go.Stop Go.Extern

/-- Degree, step and beginning of the trip that a mixed number gives. -/
def trD (l y : Nat) : Nat := min (dgOf ((mixN y 0 % 1048576 : Nat) : Int)).toNat l
def trS (p y : Nat) : Nat := 1 + mixN y 1 % (p - 1)
def trA (p y : Nat) : Nat := mixN y 2 % p
theorem dgOf_bd (v : Int) : 1 ≤ dgOf v ∧ dgOf v ≤ 40 := by
  unfold dgOf
  repeat' split
  all_goals omega
theorem trD_bd {l y : Nat} (h : 1 ≤ l) : 1 ≤ trD l y ∧ trD l y ≤ l := by
  have := dgOf_bd ((mixN y 0 % 1048576 : Nat) : Int)
  unfold trD
  omega
theorem trS_bd {p y : Nat} (h : 2 ≤ p) : 1 ≤ trS p y ∧ trS p y < p := by
  have := Nat.mod_lt (mixN y 1) (show p - 1 > 0 by omega)
  unfold trS
  omega
theorem trA_bd {p y : Nat} (h : 2 ≤ p) : trA p y < p := Nat.mod_lt _ (by omega)

/-- Three numbers in a block of their own. -/
def TrioBox (W : World) (g : Nat) (x y z : Int) : Prop := W.heap[g]? = some (.cells #[.int .i64 x, .int .i64 y, .int .i64 z] 69 (0, 0))
theorem TrioBox.lt {W : World} {g : Nat} {x y z : Int} (b : TrioBox W g x y z) : g < W.heap.size := (Array.getElem?_eq_some_iff.1 b).1
theorem TrioBox.cells {W : World} {g : Nat} {x y z : Int} (b : TrioBox W g x y z) :
    W.cell? ⟨g, 0, none⟩ = some (.int .i64 x) ∧ W.cell? ⟨g, 1, none⟩ = some (.int .i64 y) ∧ W.cell? ⟨g, 2, none⟩ = some (.int .i64 z) :=
  ⟨cell_of_heap b rfl, cell_of_heap b rfl, cell_of_heap b rfl⟩
theorem TrioBox.free {W : World} {g : Nat} {x y z : Int} (b : TrioBox W g x y z) :
    W.frozen? ⟨g, 0, none⟩ = false ∧ W.frozen? ⟨g, 1, none⟩ = false ∧ W.frozen? ⟨g, 2, none⟩ = false :=
  ⟨frozen_of_heap b, frozen_of_heap b, frozen_of_heap b⟩
theorem TrioBox.set0 {W : World} {g : Nat} {x y z : Int} (b : TrioBox W g x y z) (u : Int) : TrioBox (W.setCell ⟨g, 0, none⟩ (.int .i64 u)) g u y z := heap_setCell_at b
theorem TrioBox.set1 {W : World} {g : Nat} {x y z : Int} (b : TrioBox W g x y z) (u : Int) : TrioBox (W.setCell ⟨g, 1, none⟩ (.int .i64 u)) g x u z := heap_setCell_at b
theorem TrioBox.set2 {W : World} {g : Nat} {x y z : Int} (b : TrioBox W g x y z) (u : Int) : TrioBox (W.setCell ⟨g, 2, none⟩ (.int .i64 u)) g x y u := heap_setCell_at b

theorem idx3_0 (x y z : Value) (w : World) : (Instr.index 69 (.agg #[x, y, z]) (.int .i64 0)).run Tryd.prog w = .ok x w := by
  simp [Instr.index, run_underlying Tryd.underlying69, asIntOf, go_sem]
theorem idx3_1 (x y z : Value) (w : World) : (Instr.index 69 (.agg #[x, y, z]) (.int .i64 1)).run Tryd.prog w = .ok y w := by
  simp [Instr.index, run_underlying Tryd.underlying69, asIntOf, go_sem]
theorem idx3_2 (x y z : Value) (w : World) : (Instr.index 69 (.agg #[x, y, z]) (.int .i64 2)).run Tryd.prog w = .ok z w := by
  simp [Instr.index, run_underlying Tryd.underlying69, asIntOf, go_sem]

set_option maxRecDepth 1000000 in
set_option maxHeartbeats 4000000 in
theorem draw_ok {w : World} (k s h l p y : Nat) (hl1 : 1 ≤ l) (hl2 : l ≤ 400) (hp1 : 2 ≤ p) (hp2 : p ≤ 1000) (hT : DgTab w) :
    Calls Tryd.prog 24 #[parV k s h l p, .int .u32 (y : Int)] w fun e w' => e = .returned (.tuple #[tripV (trD l y : Nat) (trS p y : Nat) (trA p y : Nat), .nilIface]) ∧ Below w.heap.size w w' := by
  obtain ⟨w0, hw0, hb0, hbx⟩ := par_laid w k s h l p
  obtain ⟨w1, hw1, hb1, hbt⟩ := trip_laid w0 0 0 0
  obtain ⟨w2, hw2⟩ : ∃ w2, w2 = w1.alloc (.cells #[.int .i64 0, .int .i64 0, .int .i64 0] 69) := ⟨_, rfl⟩
  have hbq : TrioBox w2 w1.heap.size 0 0 0 := by rw [hw2]; exact heap_alloc_new w1 _
  have hs0 : w0.heap.size = w.heap.size + 1 := by rw [hw0]; simp
  have hs1 : w1.heap.size = w.heap.size + 2 := by rw [hw1]; simp; omega
  have hb2 : Below w.heap.size w w2 := by rw [hw2]; exact (hb0.trans (hb1.mono hb0.size)).alloc (by omega) _
  have hb12 : Below w1.heap.size w1 w2 := by rw [hw2]; exact (Below.refl _ _).alloc (Nat.le_refl _) _
  have HW0 := Lib.hid hw0
  have HW1 := Lib.hid hw1
  have HW2 := Lib.hid hw2
  have HB2 := Lib.hid hb2
  have HT := Lib.hid hT
  have hbx2 := (hbx.mono hb1).mono hb12
  have hbt2 := hbt.mono hb12
  rw [hs0] at hbt2
  rw [hs1] at hbq
  obtain ⟨c0, c1, c2, c3, c4⟩ := hbx2.cells
  have HBX := Lib.hid hbx2
  have HBT := Lib.hid hbt2
  have HBQ := Lib.hid hbq
  have HS0 := Lib.hid hs0
  have HS1 := Lib.hid hs1
  clear hw0 hw1 hw2 hb0 hb1 hb2 hb12 hbx hbt hbx2 hbt2 hbq hs0 hs1 hT
  unfold parV parC
  have HB1 : Hid (∀ V, Calls Tryd.prog 39 #[.int .u32 (y : Int), .int .u32 1, .int .i64 ((p : Int) - 1)] V fun e w' => e = .returned (.tuple #[.int .i64 ((mixN y 1 % (p - 1) : Nat) : Int), .nilIface]) ∧ V = w') := Lib.hid fun V => by
    have := Below_in (w := V) y 1 (p - 1) (by omega) (by omega)
    rwa [show ((p - 1 : Nat) : Int) = (p : Int) - 1 by omega] at this
  go_enter Tryd.func24, Tryd.ntmps24
  go_upto_region 2 with fail
  rw [← HW0.out, ← HW1.out, ← HW2.out]
  go_wp2_with fail
  have I0 := idx3_0 (.int .i64 1048576) (.int .i64 ((p : Int) - 1)) (.int .i64 (p : Int))
  have I1 := idx3_1 (.int .i64 1048576) (.int .i64 ((p : Int) - 1)) (.int .i64 (p : Int))
  have I2 := idx3_2 (.int .i64 1048576) (.int .i64 ((p : Int) - 1)) (.int .i64 (p : Int))
  go_loopw [5, 19] (fun E i wr => E = .nilIface ∧ ∃ j : Nat, (j = 0 ∧ i = .int .i64 0 ∨ j = 1 ∧ i = .int .i64 1 ∨ j = 2 ∧ i = .int .i64 2 ∨ j = 3 ∧ i = .int .i64 3) ∧ Below w.heap.size w wr ∧ ParBox wr w.heap.size k s h l p ∧ TripBox wr (w.heap.size + 1) 0 0 0 ∧ ∃ a b c : Nat, TrioBox wr (w.heap.size + 1 + 1) a b c ∧ (0 < j → a = mixN y 0 % 1048576) ∧ (1 < j → b = mixN y 1 % (p - 1)) ∧ (2 < j → c = mixN y 2 % p)) (fun _ i _ => 3 - (intOf i).toNat)
  case atStart => exact ⟨rfl, 0, .inl ⟨rfl, rfl⟩, HB2.out, HBX.out, HBT.out, 0, 0, 0, HBQ.out, fun h => absurd h (by omega), fun h => absurd h (by omega), fun h => absurd h (by omega)⟩
  case round =>
    obtain ⟨rfl, j, hj, hbel, hx, ht, a, b, c, hq, ha, hb, hc⟩ := hrel
    have HB := Lib.hid hbel
    have HX := Lib.hid hx
    have HTB := Lib.hid ht
    have HQ := Lib.hid hq
    have HA := Lib.hid ha
    have HBB := Lib.hid hb
    have HC := Lib.hid hc
    obtain ⟨q0, q1, q2⟩ := hq.cells
    obtain ⟨z0, z1, z2⟩ := hq.free
    clear hbel hx ht hq ha hb hc c0 c1 c2 c3 c4
    rcases hj with ⟨rfl, rfl⟩ | ⟨rfl, rfl⟩ | ⟨rfl, rfl⟩ | ⟨rfl, rfl⟩
    · go_wp2_with fail
      refine (Below_in y 0 1048576 (by decide) (by decide)).mono ?_
      rintro e w3 ⟨rfl, rfl⟩
      go_wp2
      go_roundw
      case rel =>
        refine ⟨rfl, 1, .inr (.inl ⟨rfl, rfl⟩), HB.out.setCell (p := ⟨w.heap.size + 1 + 1, 0, none⟩) (by show _ ≤ w.heap.size + 1 + 1; omega) _, HX.out.set (by omega), HTB.out.set (by omega), _, b, c, HQ.out.set0 _, fun _ => rfl, fun h => absurd h (by omega), fun h => absurd h (by omega)⟩
      case measure => simp [intOf]
    · go_wp2_with fail
      refine (HB1.out _).mono ?_
      rintro e w3 ⟨rfl, rfl⟩
      go_wp2
      go_roundw
      case rel =>
        refine ⟨rfl, 2, .inr (.inr (.inl ⟨rfl, rfl⟩)), HB.out.setCell (p := ⟨w.heap.size + 1 + 1, 1, none⟩) (by show _ ≤ w.heap.size + 1 + 1; omega) _, HX.out.set (by omega), HTB.out.set (by omega), a, _, c, HQ.out.set1 _, fun _ => HA.out (by omega), fun _ => rfl, fun h => absurd h (by omega)⟩
      case measure => simp [intOf]
    · go_wp2_with fail
      refine (Below_in y 2 p (by omega) (by omega)).mono ?_
      rintro e w3 ⟨rfl, rfl⟩
      go_wp2
      go_roundw
      case rel =>
        refine ⟨rfl, 3, .inr (.inr (.inr ⟨rfl, rfl⟩)), HB.out.setCell (p := ⟨w.heap.size + 1 + 1, 2, none⟩) (by show _ ≤ w.heap.size + 1 + 1; omega) _, HX.out.set (by omega), HTB.out.set (by omega), a, b, _, HQ.out.set2 _, fun _ => HA.out (by omega), fun _ => HBB.out (by omega), fun _ => rfl⟩
      case measure => simp [intOf]
    · have ha : a < 1048576 := by rw [HA.out (by omega)]; exact Nat.mod_lt _ (by decide)
      have hb : b < 1000 := by rw [HBB.out (by omega)]; exact Nat.lt_of_lt_of_le (Nat.mod_lt _ (by omega)) (by omega)
      have hc : c < 1000 := by rw [HC.out (by omega)]; exact Nat.lt_of_lt_of_le (Nat.mod_lt _ (by omega)) (by omega)
      obtain ⟨d0, d1⟩ := dgOf_bd (a : Int)
      obtain ⟨D, hD⟩ : ∃ D : Nat, dgOf (a : Int) = D := ⟨(dgOf (a : Int)).toNat, by omega⟩
      have hres : tripV (trD l y : Nat) (trS p y : Nat) (trA p y : Nat) = tripV (min D l : Nat) ((1 + b : Nat) : Int) (c : Int) := by
        unfold trD trS trA
        rw [← HA.out (by omega), ← HBB.out (by omega), ← HC.out (by omega), hD]
        rfl
      have HRES := Lib.hid hres
      have HD := Lib.hid hD
      have HTT := Lib.hid (PairsAt.mono HT.out HB.out)
      rw [hD] at d0 d1
      obtain ⟨c0, c1, c2, c3, c4⟩ := HX.out.cells
      obtain ⟨t0, t1, t2⟩ := HTB.out.cells
      obtain ⟨y0, y1, y2⟩ := HTB.out.free
      clear hres hD
      go_wp2_with fail
      refine (DgOf_in _ (by omega) (by omega) HTT.out).mono ?_
      rintro e w3 ⟨rfl, rfl⟩
      rw [HD.out]
      rcases Nat.le_total D l with hm | hm
      · have hmi : (D : Int) ≤ (l : Int) := by omega
        go_wp2
        refine bodyPost_ret (results_row2 rfl _ _ (w.heap.size + 1) 25 _ (0, 0) _ rfl (HTB.out.done _ _ _) Tryd.underlying25 rfl (by kernel_rfl)) rfl ?_
        refine ⟨?_, TripBox.below HB.out (by omega) _ _ _⟩
        rw [HRES.out, Nat.min_eq_left hm]
        rfl
      · rcases Nat.lt_or_ge l D with hlt | hge
        · have hmi : ¬ (D : Int) ≤ (l : Int) := by omega
          have hmj : ¬ D ≤ l := by omega
          go_wp2
          refine bodyPost_ret (results_row2 rfl _ _ (w.heap.size + 1) 25 _ (0, 0) _ rfl (HTB.out.done _ _ _) Tryd.underlying25 rfl (by kernel_rfl)) rfl ?_
          refine ⟨?_, TripBox.below HB.out (by omega) _ _ _⟩
          rw [HRES.out, Nat.min_eq_right hm]
          rfl
        · obtain rfl : D = l := by omega
          go_wp2
          refine bodyPost_ret (results_row2 rfl _ _ (w.heap.size + 1) 25 _ (0, 0) _ rfl (HTB.out.done _ _ _) Tryd.underlying25 rfl (by kernel_rfl)) rfl ?_
          refine ⟨?_, TripBox.below HB.out (by omega) _ _ _⟩
          rw [HRES.out, Nat.min_self]
          rfl
end Go.Proofs.YtedadhoaegjhfaaDoor
