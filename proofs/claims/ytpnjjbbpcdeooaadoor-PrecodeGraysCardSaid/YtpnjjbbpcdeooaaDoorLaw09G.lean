/- The ninth layer's law PrecodeGrays: the walk. -/
import Derived.Test.YtpnjjbbpcdeooaaDoorLaw09
import Derived.Test.YtpnjjbbpcdeooaaDoorLaw09T
import Derived.Test.YtpnjjbbpcdeooaaDoorPcH
namespace Go.Proofs.YtpnjjbbpcdeooaaDoor
open Go.RowKit Go.Extern.Stop Go.Stop Go.Extern

set_option maxRecDepth 1000000 in
set_option maxHeartbeats 4000000 in
theorem grays9 {w : World} (wt n : Int) (hg : Laid w) : Calls Tryd.prog 5 #[.int .i64 wt, .int .i64 n] w fun e w' => e = .returned (.bool true) ∧ Below w.heap.size w w' := by
  have HG := Lib.hid hg
  clear hg
  by_cases hA : 300 < n ∧ n ≤ 4096
  · have d1 : decide ((300 : Int) < n) = true := decide_eq_true hA.1
    have d2 : decide (n ≤ (4096 : Int)) = true := decide_eq_true hA.2
    go_enter Tryd.func5, Tryd.ntmps5
    go_wp2_with fail
    refine (awake9 _).mono ?_
    rintro e w1 ⟨rfl, hb1⟩
    have HB1 := Lib.hid hb1
    clear hb1
    go_wp2
    go_ret
    exact ⟨rfl, HB1.out⟩
  by_cases hB : wt < 1 ∨ 16 < wt ∨ n < 0 ∨ 4096 < n
  · have HO := Lib.hid hB
    have HD : Hid ((decide ((300 : Int) < n) = false ∧ (decide (wt < 1) = true ∨ (decide (wt < 1) = false ∧ decide ((16 : Int) < wt) = true) ∨ (decide (wt < 1) = false ∧ decide ((16 : Int) < wt) = false ∧ decide (n < 0) = true))) ∨
        ((decide ((300 : Int) < n) = true ∧ decide (n ≤ (4096 : Int)) = false) ∧ (decide (wt < 1) = true ∨ (decide (wt < 1) = false ∧ decide ((16 : Int) < wt) = true) ∨ (decide (wt < 1) = false ∧ decide ((16 : Int) < wt) = false ∧ decide (n < 0) = false ∧ decide ((4096 : Int) < n) = true)))) := Lib.hid (by
      simp only [decide_eq_true_eq, decide_eq_false_iff_not]
      omega)
    clear hA hB
    rcases HD.out with ⟨d0, d1 | ⟨d1, d2⟩ | ⟨d1, d2, d3⟩⟩ | ⟨⟨d0, d9⟩, d1 | ⟨d1, d2⟩ | ⟨d1, d2, d3, d4⟩⟩
    all_goals
      go_enter Tryd.func5, Tryd.ntmps5
      go_wp2_with fail
      refine (Gray_out wt n HO.out).mono ?_
      rintro e w1 ⟨E1, rfl, hc1, hb1⟩
      have HC1 := Lib.hid hc1
      have HB1 := Lib.hid hb1
      obtain ⟨u, x, rfl⟩ := hc1.some (by decide)
      clear hc1 hb1
      go_wp2_with fail
      refine (tells_ans 1 _ _ HC1.out (HG.out.mono HB1.out)).mono ?_
      rintro e w2 ⟨rfl, hb2⟩
      have HB2 := Lib.hid (HB1.out.trans (hb2.mono HB1.out.size))
      clear hb2
      go_wp2_with fail
      refine (awake9 _).mono ?_
      rintro e w3 ⟨rfl, hb3⟩
      have HB3 := Lib.hid (HB2.out.trans (hb3.mono HB2.out.size))
      clear hb3
      go_wp2
      go_ret
      exact ⟨rfl, HB3.out⟩
  obtain ⟨a, rfl⟩ : ∃ a : Nat, wt = a := ⟨wt.toNat, by omega⟩
  obtain ⟨b, rfl⟩ : ∃ b : Nat, n = b := ⟨n.toNat, by omega⟩
  have ha1 : 1 ≤ a := by omega
  have ha2 : a ≤ 16 := by omega
  have hb1 : b ≤ 300 := by omega
  clear hA hB
  have d1 : decide ((300 : Int) < (b : Int)) = false := decide_eq_false (by omega)
  have d1' : decide (300 < b) = false := decide_eq_false (by omega)
  have d2 : decide ((a : Int) < 1) = false := decide_eq_false (by omega)
  have d3 : decide ((16 : Int) < (a : Int)) = false := decide_eq_false (by omega)
  have d3' : decide (16 < a) = false := decide_eq_false (by omega)
  have d4 : decide ((b : Int) < 0) = false := decide_eq_false (by omega)
  have d5 : decide ((4096 : Int) < (b : Int)) = false := decide_eq_false (by omega)
  have d5' : decide (4096 < b) = false := decide_eq_false (by omega)
  obtain ⟨L, hL⟩ := gr_ex a b
  have HL := Lib.hid hL
  have hlen := hL.len.1
  by_cases hl : L.length = b
  · have HLL := Lib.hid hl
    clear hL hl hlen
    go_enter Tryd.func5, Tryd.ntmps5
    go_wp2_with fail
    refine (Gray_ok a b ha1 ha2 (by omega) L HL.out HLL.out).mono ?_
    rintro e w1 ⟨v, rfl, hv, hw1⟩
    have HV := Lib.hid hv
    have HB1 := Lib.hid hw1
    clear hv hw1
    go_wp2_with fail
    refine (rGray_any a b ha2 (by omega)).mono ?_
    rintro e w2 ⟨v2, l2, rfl, hg2, hv2, hw2⟩
    obtain rfl := hg2.unique HL.out
    have HS := Lib.hid (SameI_any v v2 (l2.map Int.ofNat) (HV.out.mono hw2).cols hv2.cols)
    have HB2 := Lib.hid (HB1.out.trans (hw2.mono HB1.out.size))
    obtain ⟨ao, co, rfl, -⟩ := hv2
    rw [HLL.out] at HS ⊢
    clear hg2 hw2
    go_wp2_with fail
    refine HS.out.mono ?_
    rintro e w3 ⟨rfl, hb3⟩
    have HB3 := Lib.hid (HB2.out.trans (hb3.mono HB2.out.size))
    clear hb3
    go_wp2_with fail
    refine (awake9 _).mono ?_
    rintro e w4 ⟨rfl, hb4⟩
    have HB4 := Lib.hid (HB3.out.trans (hb4.mono HB3.out.size))
    clear hb4
    go_wp2
    go_ret
    exact ⟨rfl, HB4.out⟩
  · have hlt : L.length < b := by omega
    obtain ⟨m, hm⟩ : ∃ m, L.length = m := ⟨_, rfl⟩
    have HM := Lib.hid hm
    have HLT := Lib.hid hlt
    rw [hm] at hlt
    clear hL hl hlen hm
    go_enter Tryd.func5, Tryd.ntmps5
    go_wp2_with fail
    refine (Gray_few a b ha1 ha2 (by omega) L HL.out HLT.out).mono ?_
    rintro e w1 ⟨E1, rfl, hc1, hw1⟩
    have HC1 := Lib.hid hc1
    have HB1 := Lib.hid hw1
    obtain ⟨u, x, rfl⟩ := hc1.some (by decide)
    clear hc1 hw1
    go_wp2_with fail
    refine (rGray_any a b ha2 (by omega)).mono ?_
    rintro e w2 ⟨v2, l2, rfl, hg2, hv2, hw2⟩
    obtain rfl := hg2.unique HL.out
    have HB2 := Lib.hid (HB1.out.trans (hw2.mono HB1.out.size))
    have HC2 := Lib.hid (HC1.out.mono hw2)
    obtain ⟨ao, co, rfl, -⟩ := hv2
    rw [HM.out]
    clear hg2 hw2
    go_wp2_with fail
    refine (tells_ans 4 _ _ HC2.out (HG.out.mono HB2.out)).mono ?_
    rintro e w3 ⟨rfl, hb3⟩
    have HB3 := Lib.hid (HB2.out.trans (hb3.mono HB2.out.size))
    clear hb3
    go_wp2_with fail
    refine (awake9 _).mono ?_
    rintro e w4 ⟨rfl, hb4⟩
    have HB4 := Lib.hid (HB3.out.trans (hb4.mono HB3.out.size))
    clear hb4
    go_wp2
    go_ret
    exact ⟨rfl, HB4.out⟩
end Go.Proofs.YtpnjjbbpcdeooaaDoor
