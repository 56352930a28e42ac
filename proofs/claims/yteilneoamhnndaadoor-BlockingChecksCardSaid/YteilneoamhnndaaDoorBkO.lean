/- Package blocking: Of. -/
import Derived.Test.YteilneoamhnndaaDoorBkB
namespace Go.Proofs.YteilneoamhnndaaDoor
open Go.RowKit Go.Extern.Stop Go.Stop Go.Extern

/-- What keeps Of from a plan that has numbers out of range. -/
def OutOf (s b m : Int) : Prop := s < 0 ∨ b < 1 ∨ 64 < b ∨ m < 1 ∨ 128 < m

set_option maxRecDepth 1000000 in
set_option maxHeartbeats 4000000 in
theorem bkOf_range {w : World} (s b m : Int) (h : OutOf s b m) : Calls Tryd.prog 7 #[.int .i64 s, .int .i64 b, .int .i64 m] w fun e w' => ∃ E, e = .returned (.tuple #[plV 0 0 0 0 0, E]) ∧ ErrAns 1 nameBkOf w' E ∧ Below w.heap.size w w' := by
  obtain ⟨w0, hw0, hb0, hbx⟩ := pl_laid w 0 0 0 0 0
  have HW0 := Lib.hid hw0
  have HB0 := Lib.hid hb0
  have HBX := Lib.hid hbx
  clear hw0 hb0 hbx
  unfold OutOf at h
  go_enter Tryd.func7, Tryd.ntmps7
  go_wp2_with fail
  all_goals first | (exfalso; omega) | skip
  all_goals
    rw [← HW0.out]
    refine (New_ans nameBkOf 1 (by decide) _).mono ?_
    rintro e w1 ⟨E1, rfl, hc1, hb1⟩
    have hbx := HBX.out.mono hb1
    have c0 := cell_of_heap (j := 0) (u := .int .i64 0) hbx rfl
    have c1 := cell_of_heap (j := 1) (u := .int .i64 0) hbx rfl
    have c2 := cell_of_heap (j := 2) (u := .int .i64 0) hbx rfl
    have c3 := cell_of_heap (j := 3) (u := .int .i64 0) hbx rfl
    have c4 := cell_of_heap (j := 4) (u := .int .i64 0) hbx rfl
    have f0 := frozen_of_heap (j := 0) hbx
    have f1 := frozen_of_heap (j := 1) hbx
    have f2 := frozen_of_heap (j := 2) hbx
    have f3 := frozen_of_heap (j := 3) hbx
    have f4 := frozen_of_heap (j := 4) hbx
    have HBX1 := Lib.hid hbx
    have HC1 := Lib.hid hc1
    have HB1 := Lib.hid (HB0.out.trans (hb1.mono HB0.out.size))
    obtain ⟨u, x, rfl⟩ := hc1.some (by decide)
    clear hc1 hb1 hbx
    go_wp2
    refine bodyPost_ret (bk_row2 rfl _ _ w.heap.size 23 _ (0, 0) _ rfl (HBX1.out.done _ _ _ _ _) Tryd.underlying23 rfl (by kernel_rfl)) rfl ?_
    exact ⟨_, rfl, HBX1.out.err HC1.out _ _ _ _ _, PlBox.below HB1.out (Nat.le_refl _) _ _ _ _ _⟩

set_option maxRecDepth 1000000 in
set_option maxHeartbeats 4000000 in
theorem bkOf_long {w : World} (s b m : Nat) (hs : s ≤ 9223372036854775807) (b1 : 1 ≤ b) (b2 : b ≤ 64) (m1 : 1 ≤ m) (m2 : m ≤ 128) (hl : 16 < upN m (symT s b)) :
    Calls Tryd.prog 7 #[.int .i64 (s : Int), .int .i64 (b : Int), .int .i64 (m : Int)] w fun e w' => ∃ E, e = .returned (.tuple #[plV 0 0 0 0 0, E]) ∧ ErrAns 3 nameBkOf w' E ∧ Below w.heap.size w w' := by
  obtain ⟨w0, hw0, hb0, hbx⟩ := pl_laid w 0 0 0 0 0
  have HW0 := Lib.hid hw0
  have HB0 := Lib.hid hb0
  have HBX := Lib.hid hbx
  have HSY : Hid (∀ V : World, Calls Tryd.prog 22 #[.int .i64 (s : Int), .int .i64 (b : Int)] V fun e w' => e = .returned (.int .i64 ((symT s b : Nat) : Int)) ∧ Below V.heap.size V w') := Lib.hid fun V => bkSymbols_any s b b1 hs
  have hT : symT s b ≤ 9223372036854775807 := by have := symT_le (s := s) b1; omega
  have d1 : decide ((s : Int) < 0) = false := decide_eq_false (by omega)
  have d2 : decide ((b : Int) < 1) = false := decide_eq_false (by omega)
  have d3 : decide (64 < (b : Int)) = false := decide_eq_false (by omega)
  have d4 : decide ((m : Int) < 1) = false := decide_eq_false (by omega)
  have d5 : decide (128 < (m : Int)) = false := decide_eq_false (by omega)
  have d6 : decide (16 < ((upN m (symT s b) : Nat) : Int)) = true := decide_eq_true (by omega)
  have HOV : Hid (∀ (V : World) (bx : Nat), V.cell? ⟨bx, 0, none⟩ = some (.int .i64 (m : Int)) → Calls Tryd.prog 38 #[.int .i64 ((symT s b : Nat) : Int), .pointer (some ⟨bx, 0, none⟩)] V fun e w' => e = .returned (.int .i64 ((upN m (symT s b) : Nat) : Int)) ∧ V = w') := Lib.hid fun V bx hc => bkOver1_any bx m (symT s b) m1 hT hc
  generalize upN m (symT s b) = n at *
  generalize symT s b = T at *
  clear hw0 hb0 hbx hl
  go_enter Tryd.func7, Tryd.ntmps7
  go_wp2_with fail
  rw [← HW0.out]
  refine (HSY.out w0).mono ?_
  rintro e w1 ⟨rfl, hb1⟩
  have HB1 := Lib.hid (HB0.out.trans (hb1.mono HB0.out.size))
  have HBX1 := Lib.hid (HBX.out.mono hb1)
  clear hb1 HBX
  go_wp2_with fail
  refine (bkOver_any _).mono ?_
  rintro e w2 ⟨rfl, hw2⟩
  have hc2 : w2.cell? ⟨w1.heap.size, 0, none⟩ = some (.int .i64 (m : Int)) := by rw [hw2]; simp
  have hb2 : Below w1.heap.size w1 w2 := by rw [hw2]; exact (Below.refl _ _).alloc (Nat.le_refl _) _
  have HB2 := Lib.hid (HB1.out.trans (hb2.mono HB1.out.size))
  have HBX2 := Lib.hid (HBX1.out.mono hb2)
  have HC2 := Lib.hid hc2
  clear hb2 hw2 hc2 HBX1 HB1
  go_wp2_with fail
  refine (HOV.out w2 _ HC2.out).mono ?_
  rintro e w3 ⟨rfl, rfl⟩
  go_wp2_with fail
  refine (New_ans nameBkOf 3 (by decide) _).mono ?_
  rintro e w3 ⟨E1, rfl, hc1, hb1⟩
  have hbx := HBX2.out.mono hb1
  have c0 := cell_of_heap (j := 0) (u := .int .i64 0) hbx rfl
  have c1 := cell_of_heap (j := 1) (u := .int .i64 0) hbx rfl
  have c2 := cell_of_heap (j := 2) (u := .int .i64 0) hbx rfl
  have c3 := cell_of_heap (j := 3) (u := .int .i64 0) hbx rfl
  have c4 := cell_of_heap (j := 4) (u := .int .i64 0) hbx rfl
  have f0 := frozen_of_heap (j := 0) hbx
  have f1 := frozen_of_heap (j := 1) hbx
  have f2 := frozen_of_heap (j := 2) hbx
  have f3 := frozen_of_heap (j := 3) hbx
  have f4 := frozen_of_heap (j := 4) hbx
  have HBX1 := Lib.hid hbx
  have HC1 := Lib.hid hc1
  have HB3 := Lib.hid (HB2.out.trans (hb1.mono HB2.out.size))
  obtain ⟨u, x, rfl⟩ := hc1.some (by decide)
  clear hc1 hb1 hbx
  go_wp2
  refine bodyPost_ret (bk_row2 rfl _ _ w.heap.size 23 _ (0, 0) _ rfl (HBX1.out.done _ _ _ _ _) Tryd.underlying23 rfl (by kernel_rfl)) rfl ?_
  exact ⟨_, rfl, HBX1.out.err HC1.out _ _ _ _ _, PlBox.below HB3.out (Nat.le_refl _) _ _ _ _ _⟩

set_option maxRecDepth 1000000 in
set_option maxHeartbeats 4000000 in
theorem bkOf_ok {w : World} (s b m : Nat) (hs : s ≤ 9223372036854775807) (b1 : 1 ≤ b) (b2 : b ≤ 64) (m1 : 1 ≤ m) (m2 : m ≤ 128) (hl : upN m (symT s b) ≤ 16) :
    Calls Tryd.prog 7 #[.int .i64 (s : Int), .int .i64 (b : Int), .int .i64 (m : Int)] w fun e w' => ∃ n l q : Nat, e = .returned (.tuple #[plV s b n l q, .nilIface]) ∧ PlanOf s b m n l q ∧ n ≤ 16 ∧ Below w.heap.size w w' := by
  obtain ⟨w0, hw0, hb0, hbx⟩ := pl_laid w 0 0 0 0 0
  have HW0 := Lib.hid hw0
  have HB0 := Lib.hid hb0
  have HBX := Lib.hid hbx
  have HSY : Hid (∀ V : World, Calls Tryd.prog 22 #[.int .i64 (s : Int), .int .i64 (b : Int)] V fun e w' => e = .returned (.int .i64 ((symT s b : Nat) : Int)) ∧ Below V.heap.size V w') := Lib.hid fun V => bkSymbols_any s b b1 hs
  have hT : symT s b ≤ 9223372036854775807 := by have := symT_le (s := s) b1; omega
  have hn1 : 1 ≤ upN m (symT s b) := up_pos m1 (symT_pos s b)
  have d1 : decide ((s : Int) < 0) = false := decide_eq_false (by omega)
  have d2 : decide ((b : Int) < 1) = false := decide_eq_false (by omega)
  have d3 : decide (64 < (b : Int)) = false := decide_eq_false (by omega)
  have d4 : decide ((m : Int) < 1) = false := decide_eq_false (by omega)
  have d5 : decide (128 < (m : Int)) = false := decide_eq_false (by omega)
  have d6 : decide (16 < ((upN m (symT s b) : Nat) : Int)) = false := decide_eq_false (by omega)
  have HOV : Hid (∀ (V : World) (bx : Nat), V.cell? ⟨bx, 0, none⟩ = some (.int .i64 (m : Int)) → Calls Tryd.prog 38 #[.int .i64 ((symT s b : Nat) : Int), .pointer (some ⟨bx, 0, none⟩)] V fun e w' => e = .returned (.int .i64 ((upN m (symT s b) : Nat) : Int)) ∧ V = w') := Lib.hid fun V bx hc => bkOver1_any bx m (symT s b) m1 hT hc
  have HPL : Hid (PlanOf s b m (upN m (symT s b)) (symT s b % upN m (symT s b)) (symT s b / upN m (symT s b))) := Lib.hid ⟨b1, b2, m1, m2, rfl, rfl, rfl⟩
  generalize upN m (symT s b) = n at *
  generalize symT s b = T at *
  have hz : ¬ (n : Int) = 0 := by omega
  have hz2 : ((n : Int) == 0) = false := by simpa using hz
  have hz3 : ¬ n = 0 := by omega
  have hq2 : T / n ≤ 9223372036854775807 := Nat.le_trans (Nat.div_le_self _ _) hT
  have hr2 : T % n ≤ 9223372036854775807 := Nat.le_trans (Nat.mod_le _ _) hT
  have hq : (T : Int) / (n : Int) = ((T / n : Nat) : Int) := by simp
  have hr : (T : Int) % (n : Int) = ((T % n : Nat) : Int) := by simp
  have hq3 : (T : Int).tdiv (n : Int) = ((T / n : Nat) : Int) := rfl
  have hr3 : (T : Int).tmod (n : Int) = ((T % n : Nat) : Int) := rfl
  generalize T / n = q at *
  generalize T % n = r at *
  clear hw0 hb0 hbx
  go_enter Tryd.func7, Tryd.ntmps7
  go_wp2_with fail
  rw [← HW0.out]
  refine (HSY.out w0).mono ?_
  rintro e w1 ⟨rfl, hb1⟩
  have HB1 := Lib.hid (HB0.out.trans (hb1.mono HB0.out.size))
  have HBX1 := Lib.hid (HBX.out.mono hb1)
  clear hb1 HBX
  go_wp2_with fail
  refine (bkOver_any _).mono ?_
  rintro e w2 ⟨rfl, hw2⟩
  have hc2 : w2.cell? ⟨w1.heap.size, 0, none⟩ = some (.int .i64 (m : Int)) := by rw [hw2]; simp
  have hb2 : Below w1.heap.size w1 w2 := by rw [hw2]; exact (Below.refl _ _).alloc (Nat.le_refl _) _
  have HB2 := Lib.hid (HB1.out.trans (hb2.mono HB1.out.size))
  have HBX2 := Lib.hid (HBX1.out.mono hb2)
  have HC2 := Lib.hid hc2
  clear hb2 hw2 hc2 HBX1 HB1
  go_wp2_with fail
  refine (HOV.out w2 _ HC2.out).mono ?_
  rintro e w3 ⟨rfl, rfl⟩
  have hbx := HBX2.out
  have c0 := cell_of_heap (j := 0) (u := .int .i64 0) hbx rfl
  have c1 := cell_of_heap (j := 1) (u := .int .i64 0) hbx rfl
  have c2 := cell_of_heap (j := 2) (u := .int .i64 0) hbx rfl
  have c3 := cell_of_heap (j := 3) (u := .int .i64 0) hbx rfl
  have c4 := cell_of_heap (j := 4) (u := .int .i64 0) hbx rfl
  have f0 := frozen_of_heap (j := 0) hbx
  have f1 := frozen_of_heap (j := 1) hbx
  have f2 := frozen_of_heap (j := 2) hbx
  have f3 := frozen_of_heap (j := 3) hbx
  have f4 := frozen_of_heap (j := 4) hbx
  clear hbx
  go_upto_region 7 with fail
  go_region
  go_wp2
  refine bodyPost_ret (bk_row2 rfl _ _ w.heap.size 23 _ (0, 0) _ rfl (HBX2.out.done _ _ _ _ _) Tryd.underlying23 rfl (by kernel_rfl)) rfl ?_
  exact ⟨n, r, q, rfl, HPL.out, hl, (PlBox.below HB2.out (Nat.le_refl _) _ _ _ _ _).drew⟩

end Go.Proofs.YteilneoamhnndaaDoor
