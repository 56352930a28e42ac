/- Package params and the document's primes: prime, IsPrime, Prime. -/
import Derived.Test.YtedadhoaegjhfaaDoorPaMath
import Derived.Test.YtedadhoaegjhfaaDoorLists
import Derived.Deep.LoopGhost
import Derived.WalkMore
namespace Go.Proofs.YtedadhoaegjhfaaDoor
open Go.RowKit Go.Extern.Stop Go.Stop Go.Extern

/-- What prime tells: the least prime from n on. -/
def PrimeSays (n : Int) (w : World) (e : Ending) (w' : World) : Prop := ∃ p : Nat, e = .returned (.int .i64 p) ∧ LeastP n p ∧ w = w'

theorem sq_bound {c d : Nat} (hc : c ≤ 65537) (h : d * d ≤ c) : d ≤ 256 := by
  rcases Nat.lt_or_ge 256 d with h1 | h1
  · have := Nat.mul_le_mul h1 h1
    omega
  · exact h1
theorem sq_le {d : Nat} (h : d ≤ 257) : d * d ≤ 66049 := Nat.mul_le_mul h h

set_option maxRecDepth 1000000 in
set_option maxHeartbeats 1000000 in
theorem prime_any {w : World} (n : Int) (hn : n ≤ 65537) (hn0 : I64 n) :
    Calls Tryd.prog 51 #[.int .i64 n] w (PrimeSays n w) := by
  obtain ⟨c0, hc1, hc2, hc3, hc4, hc5⟩ : ∃ c0 : Nat, (n < 2 ∧ c0 = 2 ∨ 2 ≤ n ∧ n = (c0 : Int)) ∧ 2 ≤ c0 ∧ c0 ≤ 65537 ∧ n ≤ c0 ∧ ∀ q : Nat, n ≤ q → q < c0 → ¬ IsP q := by
    refine ⟨(max n 2).toNat, by omega, by omega, by omega, by omega, fun q h1 h2 h3 => ?_⟩
    have := h3.1
    omega
  have HQ := Lib.hid hc5
  clear hc5
  rcases hc1 with ⟨h, h2⟩ | ⟨h, h2⟩
  all_goals
    have H2 := Lib.hid h2
    clear h2
    go_enter Tryd.func51, Tryd.ntmps51
    go_wp2_with fail
    go_step3
    go_wp2_with fail
    go_step3
    go_wp2_with fail
    go_loopg [3] 65537 (fun gk i wr => ∃ c : Nat, i = .int .i64 c ∧ 2 ≤ c ∧ c ≤ 65537 ∧ n ≤ c ∧ (∀ q : Nat, n ≤ q → q < c → ¬ IsP q) ∧ 65537 - c ≤ gk ∧ w = wr)
    case atStart => exact ⟨c0, by rw [H2.out]; try rfl, hc2, hc3, hc4, HQ.out, by omega, rfl⟩
    case round =>
      clear hc2 hc3 hc4 HQ H2
      obtain ⟨c, rfl, h2, h65, hnc, hq, hg, rfl⟩ := hrel
      have HQ := Lib.hid hq
      obtain ⟨go, rfl⟩ : ∃ go, go = gk := ⟨gk, rfl⟩
      have HG := Lib.hid hg
      clear hq hg
      go_wp2_with fail
      go_loopg [3, 4] 257 (fun gd i j wr => ∃ d : Nat, i = .int .i64 c ∧ j = .int .i64 d ∧ 2 ≤ d ∧ d ≤ 257 ∧ (∀ e, 2 ≤ e → e < d → c % e ≠ 0) ∧ 257 - d ≤ gd ∧ w = wr)
      case atStart => exact ⟨2, rfl, rfl, by omega, by omega, fun e h1 h3 => by omega, by omega, rfl⟩
      case round =>
        obtain ⟨d, rfl, rfl, hd2, hd257, hdiv, hgd, rfl⟩ := hrel
        have HD := Lib.hid hdiv
        have HGD := Lib.hid hgd
        clear hdiv hgd
        have hsq := sq_le hd257
        have hsqI : (d : Int) * (d : Int) ≤ 66049 := by rw [← Int.natCast_mul]; omega
        have hsq0 : 0 ≤ (d : Int) * (d : Int) := by rw [← Int.natCast_mul]; omega
        have hd0 : (d : Int) ≠ 0 := by omega
        have hd1 : ((d : Int) == 0) = false := by simpa using hd0
        by_cases hdd : d * d ≤ c
        · have hddI : (d : Int) * (d : Int) ≤ (c : Int) := by rw [← Int.natCast_mul]; omega
          have hdec : decide ((d : Int) * (d : Int) ≤ (c : Int)) = true := decide_eq_true hddI
          have hd256 := sq_bound h65 hdd
          by_cases hm : c % d = 0
          · have hNP : Hid (¬ IsP c) := Lib.hid (not_isP hd2 (by
              have : 2 * d ≤ d * d := Nat.mul_le_mul_right d hd2
              omega) hm)
            have hmI : ((c : Int) % (d : Int)) = 0 := by rw [← Int.natCast_emod, hm]; rfl
            have hmB : ((c : Int) % (d : Int) == 0) = true := by simpa using hmI
            have hc65 : c < 65537 := by
              rcases Nat.lt_or_ge c 65537 with h' | h'
              · exact h'
              · obtain rfl : c = 65537 := by omega
                exact absurd p65537 hNP.out
            clear hm hmI hddI hdd hsq
            obtain ⟨g', rfl⟩ : ∃ g', go = g' + 1 := ⟨go - 1, by have := HG.out; omega⟩
            go_wp2_with fail
            go_roundg g'
            case measure => omega
            case rel => exact ⟨c + 1, by go_num, by omega, by omega, by omega, fun q h1 h3 => by
              rcases (by omega : q < c ∨ q = c) with h4 | rfl
              · exact HQ.out q h1 h4
              · exact hNP.out, by have := HG.out; omega, rfl⟩
          · have hmI : ((c : Int) % (d : Int)) ≠ 0 := by rw [← Int.natCast_emod]; omega
            have hmB : ((c : Int) % (d : Int) == 0) = false := by simpa using hmI
            have HM := Lib.hid hm
            obtain ⟨g', rfl⟩ : ∃ g', gk = g' + 1 := ⟨gk - 1, by have := HGD.out; omega⟩
            clear hm hmI hddI hdd hsq
            go_wp2_with fail
            go_roundg g'
            case measure => omega
            case rel => exact ⟨d + 1, rfl, by go_num, by omega, by omega, fun e h1 h3 => by
              rcases (by omega : e < d ∨ e = d) with h4 | rfl
              · exact HD.out e h1 h4
              · exact HM.out, by have := HGD.out; omega, rfl⟩
        · have hddI : ¬ (d : Int) * (d : Int) ≤ (c : Int) := by rw [← Int.natCast_mul]; omega
          have hdec : decide ((d : Int) * (d : Int) ≤ (c : Int)) = false := decide_eq_false hddI
          have HP : Hid (IsP c) := Lib.hid (isP_of_root h2 d HD.out (by omega))
          clear hddI hdd hsq
          go_wp2_with fail
          try rw [Exit.noGoto_ret]
          go_ret
          exact ⟨c, rfl, ⟨HP.out, hnc, HQ.out⟩, rfl⟩

/-- Whether n is a prime that is told of. -/
noncomputable def isPI (n : Int) : Bool := by classical exact decide (2 ≤ n ∧ n ≤ 65536 ∧ IsP n.toNat)
theorem isPI_true {n : Int} (h1 : 2 ≤ n) (h2 : n ≤ 65536) (h : IsP n.toNat) : isPI n = true := by unfold isPI; simp [h1, h2, h]
theorem isPI_false {n : Int} (h : ¬ (2 ≤ n ∧ n ≤ 65536 ∧ IsP n.toNat)) : isPI n = false := by unfold isPI; classical exact decide_eq_false h
theorem isPI_iff (n : Int) : isPI n = true ↔ 2 ≤ n ∧ n ≤ 65536 ∧ IsP n.toNat := by unfold isPI; classical exact decide_eq_true_iff

set_option maxRecDepth 1000000 in
theorem rIsPrime_any {w : World} (n : Int) : Calls Tryd.prog 49 #[.int .i64 n] w fun e w' => e = .returned (.bool (isPI n)) ∧ w = w' := by
  by_cases h1 : 2 ≤ n
  · by_cases h2 : n ≤ 65536
    · obtain ⟨c, rfl⟩ : ∃ c : Nat, n = (c : Int) := ⟨n.toNat, by omega⟩
      have HT : Hid (IsP c → isPI (c : Int) = true) := Lib.hid fun h => isPI_true h1 h2 (by simpa using h)
      have HF : Hid (¬ IsP c → isPI (c : Int) = false) := Lib.hid fun h => isPI_false (fun h' => h (by simpa using h'.2.2))
      have d1 : decide ((c : Int) < 2) = false := decide_eq_false (by omega)
      have d2 : decide ((65536 : Int) < c) = false := decide_eq_false (by omega)
      go_enter Tryd.func49, Tryd.ntmps49
      go_wp2
      go_loopw [3] (fun j wr => ∃ d : Nat, j = .int .i64 d ∧ 2 ≤ d ∧ d ≤ 257 ∧ d ≤ c ∧ (∀ e, 2 ≤ e → e < d → c % e ≠ 0) ∧ w = wr) (fun j _ => 257 - (intOf j).toNat)
      case atStart => exact ⟨2, rfl, by omega, by omega, by omega, fun e h1 h3 => by omega, rfl⟩
      case round =>
        obtain ⟨d, rfl, hd2, hd257, hdc, hdiv, rfl⟩ := hrel
        have HD := Lib.hid hdiv
        clear hdiv
        have hd0 : (d : Int) ≠ 0 := by omega
        have hd1 : ((d : Int) == 0) = false := by simpa using hd0
        by_cases h256 : d ≤ 256
        · have e1 : decide ((d : Int) ≤ 256) = true := decide_eq_true (by omega)
          by_cases hlt : d < c
          · have e2 : decide ((d : Int) < (c : Int)) = true := decide_eq_true (by omega)
            have e3 : decide (d < c) = true := decide_eq_true hlt
            by_cases hm : c % d = 0
            · have hNP := Lib.hid (HF.out (not_isP hd2 hlt hm))
              have hmI : ((c : Int) % (d : Int)) = 0 := by rw [← Int.natCast_emod, hm]; rfl
              have hmB : ((c : Int) % (d : Int) == 0) = true := by simpa using hmI
              clear hm hmI
              go_wp2
              go_ret
              exact ⟨by rw [hNP.out]; rfl, rfl⟩
            · have hmI : ((c : Int) % (d : Int)) ≠ 0 := by rw [← Int.natCast_emod]; omega
              have hmB : ((c : Int) % (d : Int) == 0) = false := by simpa using hmI
              have HM := Lib.hid hm
              clear hm hmI
              go_wp2
              go_roundw
              case rel => exact ⟨d + 1, by go_num, by omega, by omega, by omega, fun e h1 h3 => by
                rcases (by omega : e < d ∨ e = d) with h4 | rfl
                · exact HD.out e h1 h4
                · exact HM.out, trivial⟩
              case measure => simp [intOf]; omega
          · have e2 : decide ((d : Int) < (c : Int)) = false := decide_eq_false (by omega)
            have e3 : decide (d < c) = false := decide_eq_false hlt
            have hP := Lib.hid (HT.out ⟨by omega, fun e h1 h3 => HD.out e h1 (by omega)⟩)
            go_wp2
            go_ret
            exact ⟨by rw [hP.out]; rfl, rfl⟩
        · have e1 : decide ((d : Int) ≤ 256) = false := decide_eq_false (by omega)
          have hP := Lib.hid (HT.out (isP_of_root (by omega) 257 (fun e h1 h3 => HD.out e h1 (by omega)) (by omega)))
          go_wp2
          go_ret
          exact ⟨by rw [hP.out]; rfl, rfl⟩
    · have HB := Lib.hid (isPI_false (n := n) (by omega))
      have h3 : decide ((65536 : Int) < n) = true := decide_eq_true (by omega)
      have h4 : decide (n < 2) = false := decide_eq_false (by omega)
      go_enter Tryd.func49, Tryd.ntmps49
      go_wp2
      go_ret
      exact ⟨by rw [HB.out]; rfl, rfl⟩
  · have HB := Lib.hid (isPI_false (n := n) (by omega))
    have h3 : decide (n < 2) = true := decide_eq_true (by omega)
    go_enter Tryd.func49, Tryd.ntmps49
    go_wp2
    go_ret
    exact ⟨by rw [HB.out]; rfl, rfl⟩

set_option maxRecDepth 1000000 in
theorem rPrime_any {w : World} (n : Int) (hn : n ≤ 65521) (hn0 : I64 n) : Calls Tryd.prog 34 #[.int .i64 n] w (PrimeSays n w) := by
  obtain ⟨c0, hc1, hc2, hc3, hc4, hc5⟩ : ∃ c0 : Nat, (n < 2 ∧ c0 = 2 ∨ 2 ≤ n ∧ n = (c0 : Int)) ∧ 2 ≤ c0 ∧ c0 ≤ 65521 ∧ n ≤ c0 ∧ ∀ q : Nat, n ≤ q → q < c0 → ¬ IsP q := by
    refine ⟨(max n 2).toNat, by omega, by omega, by omega, by omega, fun q h1 h2 h3 => ?_⟩
    have := h3.1
    omega
  have HQ := Lib.hid hc5
  clear hc5
  rcases hc1 with ⟨h, h2⟩ | ⟨h, h2⟩
  all_goals
    have H2 := Lib.hid h2
    clear h2
    go_enter Tryd.func34, Tryd.ntmps34
    go_wp2
    go_loopw [3] (fun i wr => ∃ c : Nat, i = .int .i64 c ∧ 2 ≤ c ∧ c ≤ 65521 ∧ n ≤ c ∧ (∀ q : Nat, n ≤ q → q < c → ¬ IsP q) ∧ w = wr) (fun i _ => 65521 - (intOf i).toNat)
    case atStart => exact ⟨c0, by rw [H2.out]; try rfl, hc2, hc3, hc4, HQ.out, rfl⟩
    case round =>
      clear hc2 hc3 hc4 HQ H2
      obtain ⟨c, rfl, h2, h65, hnc, hq, rfl⟩ := hrel
      have HQ := Lib.hid hq
      clear hq
      by_cases h65' : c < 65521
      · have e1 : decide ((c : Int) < 65521) = true := decide_eq_true (by omega)
        by_cases hp : IsP c
        · have HP := Lib.hid hp
          have HB := Lib.hid (isPI_true (n := (c : Int)) (by omega) (by omega) (by simpa using hp))
          clear hp
          go_wp2_with fail
          refine (rIsPrime_any (c : Int)).mono ?_
          rintro e w1 ⟨rfl, rfl⟩
          rw [HB.out]
          go_wp2
          go_ret
          exact ⟨c, rfl, ⟨HP.out, hnc, HQ.out⟩, rfl⟩
        · have HP := Lib.hid hp
          have HB := Lib.hid (isPI_false (n := (c : Int)) (fun h => hp (by simpa using h.2.2)))
          clear hp
          go_wp2_with fail
          refine (rIsPrime_any (c : Int)).mono ?_
          rintro e w1 ⟨rfl, rfl⟩
          rw [HB.out]
          go_wp2
          go_roundw
          case rel => exact ⟨c + 1, by go_num, by omega, by omega, by omega, fun q h1 h3 => by
            rcases (by omega : q < c ∨ q = c) with h4 | rfl
            · exact HQ.out q h1 h4
            · exact HP.out, trivial⟩
          case measure => simp [intOf]; omega
      · have e1 : decide ((c : Int) < 65521) = false := decide_eq_false (by omega)
        have HC : Hid (c = 65521) := Lib.hid (by omega)
        go_wp2
        go_ret
        exact ⟨c, rfl, ⟨by rw [HC.out]; exact p65521, hnc, HQ.out⟩, rfl⟩
end Go.Proofs.YtedadhoaegjhfaaDoor
