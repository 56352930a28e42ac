/- The document's table: Of, Share, Upto; the program's All. -/
import Derived.Test.YtedadhoaegjhfaaDoorDgA
namespace Go.Proofs.YtedadhoaegjhfaaDoor
open Go.RowKit Go.Extern.Stop Go.Stop Go.Extern

set_option maxRecDepth 1000000 in
set_option maxHeartbeats 1000000 in
theorem refOf_any {w : World} (v : Int) : Calls Tryd.prog 29 #[.int .i64 v] w fun e w' => e = .returned (.int .i64 (dgOf v)) ∧ w = w' := by
  obtain ⟨D, hD⟩ : ∃ D, dgOf v = D := ⟨_, rfl⟩
  have HD := Lib.hid hD
  rw [hD]
  unfold dgOf at hD
  go_enter Tryd.func29, Tryd.ntmps29
  split at hD
  · go_wp2
    go_ret
    exact ⟨by rw [← hD]; rfl, rfl⟩
  split at hD
  · go_wp2
    go_ret
    exact ⟨by rw [← hD]; rfl, rfl⟩
  split at hD
  · go_wp2
    go_ret
    exact ⟨by rw [← hD]; rfl, rfl⟩
  split at hD
  · go_wp2
    go_ret
    exact ⟨by rw [← hD]; rfl, rfl⟩
  split at hD
  · go_wp2
    go_ret
    exact ⟨by rw [← hD]; rfl, rfl⟩
  split at hD
  · go_wp2
    go_ret
    exact ⟨by rw [← hD]; rfl, rfl⟩
  · go_wp2
    go_ret
    exact ⟨by rw [← hD]; rfl, rfl⟩

/-- The shares of the degrees 1 to n, together. -/
def dgSum : Nat → Int
  | 0 => 0
  | n + 1 => dgSum n + dgShare ((n + 1 : Nat) : Int)
theorem dgSum_end : ∀ n, n ≤ 40 → dgSum n = dgUpto (n : Int) := by decide
theorem dgUpto_over (d : Int) (h : 40 ≤ d) : dgUpto d = 1048576 := by
  show (if ((40 : Int)) ≤ d then (1048576 : Int) else _) = _
  rw [if_pos h]
theorem dgUpto_under (d : Int) (h : d ≤ 0) : dgUpto d = 0 := by
  unfold dgUpto
  have hne : ∀ k, k < 7 → ¬ (dgTab.getD k (0, 0)).2 ≤ d := fun k hk h2 => by
    have : ∀ k, k < 7 → 0 < (dgTab.getD k (0, 0)).2 := by decide
    have := this k hk
    omega
  unfold dgUp; rw [if_neg (hne 6 (by omega))]
  unfold dgUp; rw [if_neg (hne 5 (by omega))]
  unfold dgUp; rw [if_neg (hne 4 (by omega))]
  unfold dgUp; rw [if_neg (hne 3 (by omega))]
  unfold dgUp; rw [if_neg (hne 2 (by omega))]
  unfold dgUp; rw [if_neg (hne 1 (by omega))]
  unfold dgUp; rw [if_neg (hne 0 (by omega))]
  rfl
theorem dgShare_le (d : Int) : 0 ≤ dgShare d ∧ dgShare d ≤ 481341 := by unfold dgShare; repeat' split
                                                                        all_goals omega
theorem dgSum_le : ∀ n, n < 42 → 0 ≤ dgSum n ∧ dgSum n ≤ 1048576 := by decide

/-- The degrees, rising. -/
def dgAll : List Int := [1, 2, 3, 4, 10, 11, 40]
theorem dgAll_get : ∀ (k : Nat) (hk : k < 7), (dgTab[k]'hk).2 = dgAll.getD k 0 := by decide

end Go.Proofs.YtedadhoaegjhfaaDoor
