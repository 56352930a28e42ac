/- Package mix and the document's mixing: Below and Row. -/
import Derived.Test.YtedadhoaegjhfaaDoorMiA
import Derived.Test.YtedadhoaegjhfaaDoorSyErr
import Derived.Test.YtedadhoaegjhfaaDoorLists
namespace Go.Proofs.YtedadhoaegjhfaaDoor
open Go.RowKit Go.Extern.Stop Go.Stop Go.Extern

/-- Why there is none below a bound. -/
def boundC (m : Int) : Int := if m < 1 ∨ 1048576 < m then 1 else 0
theorem boundC_in {M : Nat} (h1 : 1 ≤ M) (h2 : M ≤ 1048576) : boundC (M : Int) = 0 := by unfold boundC; rw [if_neg (by omega)]
theorem boundC_out {m : Int} (h : m < 1 ∨ 1048576 < m) : boundC m = 1 := by unfold boundC; rw [if_pos h]

theorem bound_in {w : World} (M : Nat) (h1 : 1 ≤ M) (h2 : M ≤ 1048576) : Calls Tryd.prog 55 #[.int .i64 (M : Int)] w fun e w' => e = .returned (.bool true) ∧ w = w' := by
  have hI1 : (1 : Int) ≤ (M : Int) := by omega
  have hI2 : (M : Int) ≤ 1048576 := by omega
  go_enter Tryd.func55, Tryd.ntmps55
  go_wp2
  go_ret
  exact ⟨rfl, rfl⟩
theorem bound_out {w : World} (m : Int) (h : m < 1 ∨ 1048576 < m) : Calls Tryd.prog 55 #[.int .i64 m] w fun e w' => e = .returned (.bool false) ∧ w = w' := by
  rcases h with h | h
  · go_enter Tryd.func55, Tryd.ntmps55
    go_wp2
    go_ret
    exact ⟨rfl, rfl⟩
  · have h' : (1 : Int) ≤ m := by omega
    have hd : decide (m ≤ 1048576) = false := decide_eq_false (by omega)
    go_enter Tryd.func55, Tryd.ntmps55
    go_wp2
    go_ret
    exact ⟨rfl, rfl⟩
set_option maxRecDepth 1000000 in
set_option maxHeartbeats 1000000 in
theorem mBelow_any {w : World} (x s M : Nat) (h1 : 1 ≤ M) (h2 : M ≤ 1048576) : Calls Tryd.prog 56 #[.int .u32 (x : Int), .int .u32 (s : Int), .int .i64 (M : Int)] w fun e w' => e = .returned (.int .i64 ((mixN x s % M : Nat) : Int)) ∧ w = w' := by
  have hlt := mixN_lt x s
  have e1 : IntKind.u32.wrap (M : Int) = (M : Int) := by rw [IntKind.wrap_u32]; omega
  have e2 : ((mixN x s : Nat) : Int).tmod (M : Int) = ((mixN x s % M : Nat) : Int) := by
    rw [Int.tmod_eq_emod_of_nonneg (Int.natCast_nonneg _), Int.natCast_emod]
  have hr : mixN x s % M < 1048576 := by have := Nat.mod_lt (mixN x s) (y := M) (by omega); omega
  have e3 : wrap64 ((mixN x s % M : Nat) : Int) = ((mixN x s % M : Nat) : Int) := by unfold wrap64; omega
  have hM0 : (M : Int) ≠ 0 := by omega
  have hM1 : ((M : Int) == 0) = false := by simpa using hM0
  generalize mixN x s % M = r at *
  obtain ⟨y, hy⟩ : ∃ y, mixN x s = y := ⟨_, rfl⟩
  rw [hy] at hlt e2
  have HY := Lib.hid hy
  clear hy
  go_enter Tryd.func56, Tryd.ntmps56
  go_wp2_with fail
  refine (mixU_any x s).mono ?_
  rintro e w1 ⟨rfl, rfl⟩
  rw [HY.out]
  go_wp2
  go_ret
  exact ⟨rfl, rfl⟩

set_option maxRecDepth 1000000 in
set_option maxHeartbeats 1000000 in
theorem rBelow_any {w : World} (x s M : Nat) (hx : x < 4294967296) (hs : s < 4294967296) (h1 : 1 ≤ M) (h2 : M ≤ 1048576) : Calls Tryd.prog 30 #[.int .u32 (x : Int), .int .u32 (s : Int), .int .i64 (M : Int)] w fun e w' => e = .returned (.int .i64 ((mixN x s % M : Nat) : Int)) ∧ w = w' := by
  have hlt := mixN_lt x s
  have e1 : IntKind.u64.wrap (M : Int) = (M : Int) := by rw [IntKind.wrap_u64]; omega
  have e2 : ((mixN x s : Nat) : Int).tmod (M : Int) = ((mixN x s % M : Nat) : Int) := by
    rw [Int.tmod_eq_emod_of_nonneg (Int.natCast_nonneg _), Int.natCast_emod]
  have hr : mixN x s % M < 1048576 := by have := Nat.mod_lt (mixN x s) (y := M) (by omega); omega
  have e3 : wrap64 ((mixN x s % M : Nat) : Int) = ((mixN x s % M : Nat) : Int) := by unfold wrap64; omega
  have hM0 : (M : Int) ≠ 0 := by omega
  have hM1 : ((M : Int) == 0) = false := by simpa using hM0
  generalize mixN x s % M = r at *
  obtain ⟨y, hy⟩ : ∃ y, mixN x s = y := ⟨_, rfl⟩
  rw [hy] at hlt e2
  have HY := Lib.hid hy
  clear hy
  go_enter Tryd.func30, Tryd.ntmps30
  go_wp2_with fail
  refine (refMix_any x s hx hs).mono ?_
  rintro e w1 ⟨rfl, rfl⟩
  rw [HY.out]
  go_wp2
  go_ret
  exact ⟨rfl, rfl⟩

set_option maxRecDepth 1000000 in
set_option maxHeartbeats 1000000 in
theorem Below_in {w : World} (x s M : Nat) (h1 : 1 ≤ M) (h2 : M ≤ 1048576) : Calls Tryd.prog 39 #[.int .u32 (x : Int), .int .u32 (s : Int), .int .i64 (M : Int)] w fun e w' => e = .returned (.tuple #[.int .i64 ((mixN x s % M : Nat) : Int), .nilIface]) ∧ w = w' := by
  go_enter Tryd.func39, Tryd.ntmps39
  go_wp2_with fail
  refine (bound_in M h1 h2).mono ?_
  rintro e w1 ⟨rfl, rfl⟩
  go_wp2_with fail
  refine (mBelow_any x s M h1 h2).mono ?_
  rintro e w1 ⟨rfl, rfl⟩
  go_wp2
  go_ret2
  exact ⟨rfl, rfl⟩
theorem Below_out {w : World} (x s : Nat) (m : Int) (h : m < 1 ∨ 1048576 < m) : Calls Tryd.prog 39 #[.int .u32 (x : Int), .int .u32 (s : Int), .int .i64 m] w fun e w' => ∃ E, e = .returned (.tuple #[.int .i64 0, E]) ∧ ErrAns 1 ⟨#[109, 105, 120, 46, 66, 101, 108, 111, 119]⟩ w' E ∧ Below w.heap.size w w' := by
  go_enter Tryd.func39, Tryd.ntmps39
  go_wp2_with fail
  refine (bound_out m h).mono ?_
  rintro e w1 ⟨rfl, rfl⟩
  go_wp2_with fail
  refine (New_ans _ 1 (by decide) _).mono ?_
  rintro e w1 ⟨E1, rfl, hc1, hb1⟩
  have HC1 := Lib.hid hc1
  have HB1 := Lib.hid hb1
  obtain ⟨u, v, rfl⟩ := hc1.some (by decide)
  clear hc1 hb1
  go_wp2
  go_ret2
  exact ⟨_, rfl, HC1.out, HB1.out⟩
end Go.Proofs.YtedadhoaegjhfaaDoor
