/- The document's Of. -/
import Derived.Test.YteilneoamhnndaaDoorBkO
namespace Go.Proofs.YteilneoamhnndaaDoor
open Go.RowKit Go.Extern.Stop Go.Stop Go.Extern

set_option maxRecDepth 1000000 in
set_option maxHeartbeats 4000000 in
theorem rbOf_range {w : World} (s b m : Int) (h : OutOf s b m) : Calls Tryd.prog 8 #[.int .i64 s, .int .i64 b, .int .i64 m] w fun e w' => e = .returned (.tuple #[plV 0 0 0 0 0, .int .i64 1]) ∧ Below w.heap.size w w' := by
  obtain ⟨w0, hw0, hb0, hbx⟩ := pl_laid w 0 0 0 0 0
  have HW0 := Lib.hid hw0
  have HB2 := Lib.hid hb0
  have HBX2 := Lib.hid hbx
  have c0 := cell_of_heap (j := 0) (u := .int .i64 0) hbx rfl
  have c1 := cell_of_heap (j := 1) (u := .int .i64 0) hbx rfl
  have c2 := cell_of_heap (j := 2) (u := .int .i64 0) hbx rfl
  have c3 := cell_of_heap (j := 3) (u := .int .i64 0) hbx rfl
  have c4 := cell_of_heap (j := 4) (u := .int .i64 0) hbx rfl
  have f0 := frozen_of_heap (j := 0) hbx
  have f1 := frozen_of_heap (j := 1) hbx
  have f2 := frozen_of_heap (j := 2) hbx
  have f3 := frozen_of_heap (j := 3) hbx
  have f4 := frozen_of_heap (j := 4) hbx
  clear hw0 hb0 hbx
  unfold OutOf at h
  go_enter Tryd.func8, Tryd.ntmps8
  go_upto_region 1 with fail
  rw [← HW0.out]
  go_wp2_with fail
  all_goals first | (exfalso; omega) | skip
  all_goals
    refine bodyPost_ret (bk_row2 rfl _ _ w.heap.size 23 _ (0, 0) _ rfl (HBX2.out.done _ _ _ _ _) Tryd.underlying23 rfl (by kernel_rfl)) rfl ?_
    exact ⟨rfl, PlBox.below HB2.out (Nat.le_refl _) _ _ _ _ _⟩

set_option maxRecDepth 1000000 in
set_option maxHeartbeats 4000000 in
theorem rbOf_any {w : World} (s b m : Nat) (hs : s ≤ 9223372036854775807) (b1 : 1 ≤ b) (b2 : b ≤ 64) (m1 : 1 ≤ m) (m2 : m ≤ 128) :
    Calls Tryd.prog 8 #[.int .i64 (s : Int), .int .i64 (b : Int), .int .i64 (m : Int)] w fun e w' =>
      (16 < upN m (symT s b) ∧ e = .returned (.tuple #[plV 0 0 0 0 0, .int .i64 3]) ∧ Below w.heap.size w w') ∨
      (upN m (symT s b) ≤ 16 ∧ e = .returned (.tuple #[plV s b (upN m (symT s b) : Nat) (symT s b % upN m (symT s b) : Nat) (symT s b / upN m (symT s b) : Nat), .int .i64 0]) ∧ Below w.heap.size w w') := by
  obtain ⟨w0, hw0, hb0, hbx⟩ := pl_laid w 0 0 0 0 0
  have HW0 := Lib.hid hw0
  have HB0 := Lib.hid hb0
  have HBX2 := Lib.hid hbx
  have HSY : Hid (∀ V : World, Calls Tryd.prog 24 #[.int .i64 (s : Int), .int .i64 (b : Int)] V fun e w' => e = .returned (.int .i64 ((symT s b : Nat) : Int)) ∧ V = w') := Lib.hid fun V => rbSymbols_any s b b1 hs
  have hT : symT s b ≤ 9223372036854775807 := by have := symT_le (s := s) b1; omega
  have hn1 : 1 ≤ upN m (symT s b) := up_pos m1 (symT_pos s b)
  have d1 : decide ((s : Int) < 0) = false := decide_eq_false (by omega)
  have d2 : decide ((b : Int) < 1) = false := decide_eq_false (by omega)
  have d3 : decide (64 < (b : Int)) = false := decide_eq_false (by omega)
  have d4 : decide ((m : Int) < 1) = false := decide_eq_false (by omega)
  have d5 : decide (128 < (m : Int)) = false := decide_eq_false (by omega)
  have HU : Hid (∀ k, upN m (symT s b) ≤ k ↔ symT s b ≤ k * m) := Lib.hid fun k => upN_le m1
  generalize upN m (symT s b) = n at *
  generalize symT s b = T at *
  have hz3 : ¬ n = 0 := by omega
  have HQ : Hid ((T : Int) / (n : Int) = ((T / n : Nat) : Int) ∧ (T : Int) % (n : Int) = ((T % n : Nat) : Int) ∧ (T : Int).tdiv (n : Int) = ((T / n : Nat) : Int) ∧ (T : Int).tmod (n : Int) = ((T % n : Nat) : Int)) := Lib.hid ⟨by simp, by simp, rfl, rfl⟩
  have hq2 : T / n ≤ 9223372036854775807 := Nat.le_trans (Nat.div_le_self _ _) hT
  have hr2 : T % n ≤ 9223372036854775807 := Nat.le_trans (Nat.mod_le _ _) hT
  generalize T / n = q at *
  generalize T % n = r at *
  have c0 := cell_of_heap (j := 0) (u := .int .i64 0) hbx rfl
  have c1 := cell_of_heap (j := 1) (u := .int .i64 0) hbx rfl
  have c2 := cell_of_heap (j := 2) (u := .int .i64 0) hbx rfl
  have c3 := cell_of_heap (j := 3) (u := .int .i64 0) hbx rfl
  have c4 := cell_of_heap (j := 4) (u := .int .i64 0) hbx rfl
  have f0 := frozen_of_heap (j := 0) hbx
  have f1 := frozen_of_heap (j := 1) hbx
  have f2 := frozen_of_heap (j := 2) hbx
  have f3 := frozen_of_heap (j := 3) hbx
  have f4 := frozen_of_heap (j := 4) hbx
  clear hw0 hb0 hbx
  go_enter Tryd.func8, Tryd.ntmps8
  go_wp2_with fail
  rw [← HW0.out]
  refine (HSY.out w0).mono ?_
  rintro e w1 ⟨rfl, rfl⟩
  go_wp2_with fail
  go_loopw [9] (fun i wr => ∃ k : Nat, i = .int .i64 (k : Int) ∧ 1 ≤ k ∧ k ≤ 17 ∧ k ≤ n ∧ w0 = wr) (fun i _ => 17 - (intOf i).toNat)
  case atStart => exact ⟨1, rfl, by omega, by omega, hn1, rfl⟩
  case round =>
    obtain ⟨k, rfl, k1, k17, kn, rfl⟩ := hrel
    have hkm : k * m ≤ 17 * 128 := Nat.mul_le_mul k17 m2
    have hI : (k : Int) * (m : Int) = ((k * m : Nat) : Int) := by rw [Int.natCast_mul]
    have hk1 : (k : Int) * (m : Int) ≤ 2176 := by rw [hI]; omega
    have hk0 : 0 ≤ (k : Int) * (m : Int) := by rw [hI]; omega
    by_cases h17 : k = 17
    · subst h17
      clear hI hkm hk1 hk0
      go_wp2
      refine bodyPost_ret (bk_row2 rfl _ _ w.heap.size 23 _ (0, 0) _ rfl (HBX2.out.done _ _ _ _ _) Tryd.underlying23 rfl (by kernel_rfl)) rfl ?_
      exact .inl ⟨by omega, rfl, PlBox.below HB0.out (Nat.le_refl _) _ _ _ _ _⟩
    have hd : decide ((k : Int) ≤ 16) = true := decide_eq_true (by omega)
    by_cases ht : T ≤ k * m
    · have e1 : decide ((T : Int) ≤ (k : Int) * (m : Int)) = true := decide_eq_true (by rw [hI]; omega)
      obtain rfl : n = k := by have := (HU.out k).2 ht; omega
      have hn16 : Hid (n ≤ 16) := Lib.hid (by omega)
      have hz : ¬ (n : Int) = 0 := by omega
      have hz2 : ((n : Int) == 0) = false := by simpa using hz
      obtain ⟨hq, hr, hq3, hr3⟩ := HQ.out
      clear hI hkm ht h17 HU
      go_upto_region 8 with fail
      go_region
      go_wp2
      refine bodyPost_ret (bk_row2 rfl _ _ w.heap.size 23 _ (0, 0) _ rfl (HBX2.out.done _ _ _ _ _) Tryd.underlying23 rfl (by kernel_rfl)) rfl ?_
      exact .inr ⟨hn16.out, rfl, (PlBox.below HB0.out (Nat.le_refl _) _ _ _ _ _).drew⟩
    · have e1 : decide ((T : Int) ≤ (k : Int) * (m : Int)) = false := decide_eq_false (by rw [hI]; omega)
      have hkn : k + 1 ≤ n := by
        rcases Nat.lt_or_ge k n with h | h
        · omega
        · exact absurd ((HU.out k).1 h) ht
      clear hI hkm ht HU
      go_wp2
      go_roundw
      case rel => exact ⟨k + 1, by go_num, by omega, by omega, hkn, trivial⟩
      case measure => simp [intOf]; omega
end Go.Proofs.YteilneoamhnndaaDoor
