/- The eighth layer's laws ParamsPrimes, ParamsChooses: the walks. -/
import Derived.Test.YtkapgbkppbpgcaaDoorLaw08
import Derived.Test.YtkapgbkppbpgcaaDoorLaw08T
namespace Go.Proofs.YtkapgbkppbpgcaaDoor
open Go.RowKit Go.Extern.Stop Go.Stop Go.Extern

set_option maxRecDepth 1000000 in
set_option maxHeartbeats 1000000 in
theorem primes8 {w : World} (n : Int) (hn : I64 n) (hg : Laid w) : Calls Tryd.prog 3 #[.int .i64 n] w fun e w' => e = .returned (.bool true) ∧ Below w.heap.size w w' := by
  have HG := Lib.hid hg
  have HN := Lib.hid hn
  clear hg hn
  by_cases h : n ≤ 65521
  · have d1 : decide ((65521 : Int) < n) = false := decide_eq_false (by omega)
    go_enter Tryd.func3, Tryd.ntmps3
    go_wp2_with fail
    refine (Prime_in n h HN.out).mono ?_
    rintro e w1 ⟨p, rfl, hp, rfl⟩
    have HP := Lib.hid hp
    clear hp
    go_wp2_with fail
    refine (IsPrime_any n HN.out).mono ?_
    rintro e w1 ⟨rfl, rfl⟩
    go_wp2_with fail
    refine (rIsPrime_any n).mono ?_
    rintro e w1 ⟨rfl, rfl⟩
    generalize isPI n = b
    have hb : (b != b) = false := by simp
    go_wp2_with fail
    refine (rPrime_any n h HN.out).mono ?_
    rintro e w1 ⟨p', rfl, hp', rfl⟩
    obtain rfl := hp'.unique HP.out
    clear hp'
    go_wp2_with fail
    refine (awake8 _).mono ?_
    rintro e w1 ⟨rfl, hb1⟩
    have HB1 := Lib.hid hb1
    clear hb1
    go_wp2
    go_ret
    exact ⟨rfl, HB1.out⟩
  · have d1 : decide ((65521 : Int) < n) = true := decide_eq_true (by omega)
    go_enter Tryd.func3, Tryd.ntmps3
    go_wp2_with fail
    refine (Prime_out n (by omega)).mono ?_
    rintro e w1 ⟨E1, rfl, hc1, hb1⟩
    have HC1 := Lib.hid hc1
    have HB1 := Lib.hid hb1
    obtain ⟨u, x, rfl⟩ := hc1.some (by decide)
    clear hc1 hb1
    go_wp2_with fail
    refine (IsPrime_any n HN.out).mono ?_
    rintro e w2 ⟨rfl, rfl⟩
    go_wp2_with fail
    refine (rIsPrime_any n).mono ?_
    rintro e w2 ⟨rfl, rfl⟩
    generalize isPI n = b
    have hb : (b != b) = false := by simp
    go_wp2_with fail
    refine (tells_ans 1 _ _ HC1.out (HG.out.mono HB1.out)).mono ?_
    rintro e w2 ⟨rfl, hb2⟩
    have HB2 := Lib.hid (HB1.out.trans (hb2.mono HB1.out.size))
    clear hb2
    go_wp2_with fail
    refine (awake8 _).mono ?_
    rintro e w3 ⟨rfl, hb3⟩
    have HB3 := Lib.hid (HB2.out.trans (hb3.mono HB2.out.size))
    clear hb3
    go_wp2
    go_ret
    exact ⟨rfl, HB3.out⟩

set_option maxRecDepth 1000000 in
set_option maxHeartbeats 1000000 in
theorem chooses8 {w : World} (n k : Int) (hk : I64 k) (hg : Laid w) : Calls Tryd.prog 4 #[.int .i64 n, .int .i64 k] w fun e w' => e = .returned (.bool true) ∧ Below w.heap.size w w' := by
  have HG := Lib.hid hg
  have HK := Lib.hid hk
  clear hg hk
  by_cases h : n < 0 ∨ 60 < n
  · have HO := Lib.hid h
    have HE : Hid (decide (n < 0) = true ∨ decide (n < 0) = false ∧ decide ((60 : Int) < n) = true) := Lib.hid (by
      rcases h with h | h
      · exact .inl (decide_eq_true h)
      · by_cases h' : n < 0
        · exact .inl (decide_eq_true h')
        · exact .inr ⟨decide_eq_false h', decide_eq_true h⟩)
    clear h
    rcases HE.out with d1 | ⟨d1, d2⟩
    all_goals
      go_enter Tryd.func4, Tryd.ntmps4
      go_wp2_with fail
      refine (Choose_out n k HO.out).mono ?_
      rintro e w1 ⟨E1, rfl, hc1, hb1⟩
      have HC1 := Lib.hid hc1
      have HB1 := Lib.hid hb1
      obtain ⟨u, x, rfl⟩ := hc1.some (by decide)
      clear hc1 hb1
      go_wp2_with fail
      refine (tells_ans 1 _ _ HC1.out (HG.out.mono HB1.out)).mono ?_
      rintro e w2 ⟨rfl, hb2⟩
      have HB2 := Lib.hid (HB1.out.trans (hb2.mono HB1.out.size))
      clear hb2
      go_wp2_with fail
      refine (awake8 _).mono ?_
      rintro e w3 ⟨rfl, hb3⟩
      have HB3 := Lib.hid (HB2.out.trans (hb3.mono HB2.out.size))
      clear hb3
      go_wp2
      go_ret
      exact ⟨rfl, HB3.out⟩
  · obtain ⟨m, rfl⟩ : ∃ m : Nat, n = (m : Int) := ⟨n.toNat, by omega⟩
    have hm : m ≤ 60 := by omega
    have d1 : decide ((m : Int) < 0) = false := decide_eq_false (by omega)
    have d2 : decide ((60 : Int) < (m : Int)) = false := decide_eq_false (by omega)
    have d3 : decide (60 < m) = false := decide_eq_false (by omega)
    clear h
    obtain ⟨y, hy⟩ : ∃ y, chI m k = y := ⟨_, rfl⟩
    have HY := Lib.hid hy
    clear hy
    go_enter Tryd.func4, Tryd.ntmps4
    go_wp2_with fail
    refine (Choose_in m k hm HK.out).mono ?_
    rintro e w1 ⟨rfl, hb1⟩
    rw [HY.out]
    have HB1 := Lib.hid hb1
    clear hb1
    go_wp2_with fail
    refine (rChoose_any m k hm HK.out).mono ?_
    rintro e w2 ⟨rfl, rfl⟩
    rw [HY.out]
    go_wp2_with fail
    refine (awake8 _).mono ?_
    rintro e w3 ⟨rfl, hb3⟩
    have HB3 := Lib.hid (HB1.out.trans (hb3.mono HB1.out.size))
    clear hb3
    go_wp2
    go_ret
    exact ⟨rfl, HB3.out⟩
end Go.Proofs.YtkapgbkppbpgcaaDoor
