/- The document's numbers: Choose, X, H. -/
import Derived.Test.YtedadhoaegjhfaaDoorPaA
namespace Go.Proofs.YtedadhoaegjhfaaDoor
open Go.RowKit Go.Extern.Stop Go.Stop Go.Extern

theorem ch_step (m j : Nat) : ch (m + (j + 1)) (j + 1) * (j + 1) = ch (m + j) j * (m + (j + 1)) := by
  have h := ch_mul (m + j) j
  rw [show m + (j + 1) = m + j + 1 by omega, Nat.mul_comm, h, Nat.mul_comm]

set_option maxRecDepth 1000000 in
set_option maxHeartbeats 1000000 in
theorem rChoose_any {w : World} (n : Nat) (k : Int) (hn : n ≤ 60) (hk : I64 k) : Calls Tryd.prog 50 #[.int .i64 (n : Int), .int .i64 k] w fun e w' => e = .returned (.int .i64 ((chI n k : Nat) : Int)) ∧ w = w' := by
  by_cases h0 : k < 0
  · have HC := Lib.hid (chI_out n k (.inl h0))
    have d1 : decide (k < 0) = true := decide_eq_true h0
    go_enter Tryd.func50, Tryd.ntmps50
    go_wp2
    go_ret
    exact ⟨by rw [HC.out]; rfl, rfl⟩
  · by_cases h1 : (n : Int) < k
    · have HC := Lib.hid (chI_out n k (.inr h1))
      have d1 : decide (k < 0) = false := decide_eq_false h0
      have d2 : decide ((n : Int) < k) = true := decide_eq_true h1
      go_enter Tryd.func50, Tryd.ntmps50
      go_wp2
      go_ret
      exact ⟨by rw [HC.out]; rfl, rfl⟩
    · obtain ⟨a, rfl⟩ : ∃ a : Nat, k = (a : Int) := ⟨k.toNat, by omega⟩
      have han : a ≤ n := by omega
      have d1 : decide ((a : Int) < 0) = false := decide_eq_false (by omega)
      have d2 : decide ((n : Int) < (a : Int)) = false := decide_eq_false (by omega)
      have d3 : decide (n < a) = false := decide_eq_false (by omega)
      obtain ⟨K, hK1, hK2, hK3⟩ : ∃ K : Nat, (a ≤ n - a ∧ a = K ∨ n - a < a ∧ (n : Int) - a = K) ∧ K ≤ 30 ∧ K ≤ n := ⟨min a (n - a), by omega, by omega, by omega⟩
      have HC : Hid (chI n (a : Int) = ch n K) := Lib.hid (by
        rw [chI_nat]
        rcases hK1 with ⟨_, h⟩ | ⟨_, h⟩
        · rw [h]
        · rw [show K = n - a by omega]; exact (ch_symm n a han).symm)
      rcases hK1 with ⟨h, hK⟩ | ⟨h, hK⟩
      all_goals
        have HK := Lib.hid hK
        clear hK
        go_enter Tryd.func50, Tryd.ntmps50
        go_wp2_with fail
        rw [HK.out]
        go_loopw [5, 6] (fun o i wr => ∃ j t : Nat, t = j + 1 ∧ j ≤ K ∧ i = .int .i64 (t : Int) ∧ o = .int .i64 ((ch (n - K + j) j : Nat) : Int) ∧ w = wr) (fun _ i _ => K + 1 - (intOf i).toNat)
        case atStart => exact ⟨0, 1, rfl, by omega, rfl, by rw [ch_zero]; rfl, rfl⟩
        case round =>
          obtain ⟨j, t, ht, hj, rfl, rfl, rfl⟩ := hrel
          have ht1 : 1 ≤ t := by omega
          by_cases hjK : j < K
          · have hs := ch_step (n - K) j
            have hb := ch_bound (n - K + (j + 1)) (j + 1) (by omega)
            have HN : Hid (ch (n - K + t) t = ch (n - K + (j + 1)) (j + 1)) := Lib.hid (by rw [ht])
            generalize ch (n - K + j) j = O at *
            generalize ch (n - K + (j + 1)) (j + 1) = O' at *
            have hI : (O : Int) * ((n : Int) - (K : Int) + (t : Int)) = (O' : Int) * (t : Int) := by
              have e : (n : Int) - (K : Int) + (t : Int) = ((n - K + (j + 1) : Nat) : Int) := by omega
              rw [e, ← Int.natCast_mul, ← Int.natCast_mul, ← hs, ht]
            have hm : O' * t ≤ 283726776524341248 * 30 := Nat.mul_le_mul hb (by omega)
            have hmI : (O : Int) * ((n : Int) - (K : Int) + (t : Int)) ≤ 8511803295730237440 := by rw [hI, ← Int.natCast_mul]; omega
            have hm0 : 0 ≤ (O : Int) * ((n : Int) - (K : Int) + (t : Int)) := by rw [hI, ← Int.natCast_mul]; omega
            have hq : (O : Int) * ((n : Int) - (K : Int) + (t : Int)) / (t : Int) = (O' : Int) := by
              rw [hI]; exact Int.mul_ediv_cancel _ (by omega)
            have ht0 : (t : Int) ≠ 0 := by omega
            have ht2 : ((t : Int) == 0) = false := by simpa using ht0
            have HT := Lib.hid ht
            have htK : t ≤ K := by omega
            have HC2 : Hid (ch (n - K + t) t = O') := Lib.hid HN.out
            clear hI hs HN ht hm
            go_wp2
            go_roundw
            case rel => exact ⟨j + 1, t + 1, by rw [HT.out], by omega, by go_num, by rw [← HT.out, HC2.out, hq], trivial⟩
            case measure => simp [intOf]; omega
          · have HE : Hid (ch n K = ch (n - K + j) j) := Lib.hid (by rw [show j = K by omega, show n - K + K = n by omega])
            have htK : ¬ t ≤ K := by omega
            clear ht
            go_wp2
            go_ret
            exact ⟨by rw [HC.out, HE.out]; rfl, rfl⟩

set_option maxRecDepth 1000000 in
theorem rX_any {w : World} (k : Nat) (hk : k ≤ 128) : Calls Tryd.prog 35 #[.int .i64 (k : Int)] w fun e w' => ∃ x : Nat, e = .returned (.int .i64 x) ∧ LeastX k x ∧ w = w' := by
  go_enter Tryd.func35, Tryd.ntmps35
  go_wp2
  go_loopw [3] (fun i wr => ∃ x : Nat, i = .int .i64 (x : Int) ∧ 1 ≤ x ∧ x ≤ 17 ∧ (∀ y, 1 ≤ y → y < x → y * (y - 1) < 2 * k) ∧ w = wr) (fun i _ => 17 - (intOf i).toNat)
  case atStart => exact ⟨1, rfl, by omega, by omega, fun y h1 h2 => by omega, rfl⟩
  case round =>
    obtain ⟨x, rfl, h1, h17, hx, rfl⟩ := hrel
    have HX := Lib.hid hx
    clear hx
    have hI : (x : Int) * ((x : Int) - 1) = ((x * (x - 1) : Nat) : Int) := by rw [Int.natCast_mul]; congr 1; omega
    have hm : x * (x - 1) ≤ 17 * 16 := Nat.mul_le_mul h17 (by omega)
    have hm1 : (x : Int) * ((x : Int) - 1) ≤ 272 := by rw [hI]; omega
    have hm0 : 0 ≤ (x : Int) * ((x : Int) - 1) := by rw [hI]; omega
    by_cases h : x * (x - 1) < 2 * k
    · have d1 : decide ((x : Int) * ((x : Int) - 1) < 2 * (k : Int)) = true := decide_eq_true (by rw [hI]; omega)
      have hlt : x < 17 := by
        rcases Nat.lt_or_ge x 17 with h' | h'
        · exact h'
        · obtain rfl : x = 17 := by omega
          omega
      have HH := Lib.hid h
      clear hI h hm
      go_wp2
      go_roundw
      case rel => exact ⟨x + 1, by go_num, by omega, by omega, fun y h1 h2 => by
        rcases (by omega : y < x ∨ y = x) with h4 | rfl
        · exact HX.out y h1 h4
        · exact HH.out, trivial⟩
      case measure => simp [intOf]; omega
    · have d1 : decide ((x : Int) * ((x : Int) - 1) < 2 * (k : Int)) = false := decide_eq_false (by rw [hI]; omega)
      have HH := Lib.hid (Nat.le_of_not_lt h)
      clear hI h hm
      go_wp2
      go_ret
      exact ⟨x, rfl, ⟨h1, HH.out, HX.out⟩, rfl⟩

set_option maxRecDepth 1000000 in
theorem rH_any {w : World} (u : Nat) (hu : u ≤ 252) : Calls Tryd.prog 36 #[.int .i64 (u : Int)] w fun e w' => ∃ h : Nat, e = .returned (.int .i64 h) ∧ LeastH u h ∧ w = w' := by
  go_enter Tryd.func36, Tryd.ntmps36
  go_wp2
  go_loopw [3] (fun i wr => ∃ h : Nat, i = .int .i64 (h : Int) ∧ h ≤ 10 ∧ (∀ j, j < h → ch j ((j + 1) / 2) < u) ∧ w = wr) (fun i _ => 10 - (intOf i).toNat)
  case atStart => exact ⟨0, rfl, by omega, fun j h => by omega, rfl⟩
  case round =>
    obtain ⟨h, rfl, h10, hx, rfl⟩ := hrel
    have HX := Lib.hid hx
    clear hx
    have hI : (h : Int) - (h : Int) / 2 = (((h + 1) / 2 : Nat) : Int) := by omega
    have HI := Lib.hid hI
    have HC : Hid (chI h (((h + 1) / 2 : Nat) : Int) = ch h ((h + 1) / 2)) := Lib.hid (chI_nat _ _)
    clear hI
    go_wp2_with fail
    rw [HI.out]
    refine (rChoose_any h (((h + 1) / 2 : Nat) : Int) (by omega) ⟨by omega, by omega⟩).mono ?_
    rintro e w1 ⟨rfl, rfl⟩
    rw [HC.out]
    by_cases hc : ch h ((h + 1) / 2) < u
    · have hlt : h < 10 := by
        rcases Nat.lt_or_ge h 10 with h' | h'
        · exact h'
        · obtain rfl : h = 10 := by omega
          rw [show (10 + 1) / 2 = 5 from rfl, ch105] at hc
          omega
      have HH := Lib.hid hc
      obtain ⟨y, hy⟩ : ∃ y, ch h ((h + 1) / 2) = y := ⟨_, rfl⟩
      rw [hy] at hc ⊢
      have d1 : decide ((y : Int) < (u : Int)) = true := decide_eq_true (by omega)
      have d2 : decide (y < u) = true := decide_eq_true (by omega)
      clear hy hc
      go_wp2
      go_roundw
      case rel => exact ⟨h + 1, by go_num, by omega, fun j h1 => by
        rcases (by omega : j < h ∨ j = h) with h4 | rfl
        · exact HX.out j h4
        · exact HH.out, trivial⟩
      case measure => simp [intOf]; omega
    · have HH := Lib.hid (Nat.le_of_not_lt hc)
      obtain ⟨y, hy⟩ : ∃ y, ch h ((h + 1) / 2) = y := ⟨_, rfl⟩
      rw [hy] at hc ⊢
      have d1 : decide ((y : Int) < (u : Int)) = false := decide_eq_false (by omega)
      have d2 : decide (y < u) = false := decide_eq_false (by omega)
      clear hy hc
      go_wp2
      go_ret
      exact ⟨h, rfl, ⟨HH.out, HX.out⟩, rfl⟩
end Go.Proofs.YtedadhoaegjhfaaDoor
