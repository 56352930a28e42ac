/- The seventh layer's laws DegreeOfs, DegreeShares: the walks. -/
import Derived.Test.YtmipnbfndjacoaaDoorLaw07
import Derived.Test.YtmipnbfndjacoaaDoorLaw07T
namespace Go.Proofs.YtmipnbfndjacoaaDoor
open Go.RowKit Go.Extern.Stop Go.Stop Go.Extern

set_option maxRecDepth 1000000 in
set_option maxHeartbeats 1000000 in
theorem ofs7 {w : World} (v : Int) (hT : DgTab w) (hg : Laid w) : Calls Tryd.prog 3 #[.int .i64 v] w fun e w' => e = .returned (.bool true) ∧ Below w.heap.size w w' := by
  have HT := Lib.hid hT
  have HG := Lib.hid hg
  clear hT hg
  by_cases ha : 0 ≤ v ∧ v < 1048576
  · have HA := Lib.hid ha
    obtain ⟨x, hx⟩ : ∃ x, dgOf v = x := ⟨_, rfl⟩
    have HX := Lib.hid hx
    have d1 : decide (v < 0) = false := decide_eq_false (by omega)
    have d2 : decide (1048576 ≤ v) = false := decide_eq_false (by omega)
    clear hx ha
    go_enter Tryd.func3, Tryd.ntmps3
    go_wp2_with fail
    refine (Of_in v HA.out.1 HA.out.2 HT.out).mono ?_
    rintro e w1 ⟨rfl, rfl⟩
    rw [HX.out]
    go_wp2_with fail
    refine (refOf_any v).mono ?_
    rintro e w1 ⟨rfl, rfl⟩
    rw [HX.out]
    go_wp2_with fail
    refine (awake7 _ HT.out).mono ?_
    rintro e w1 ⟨rfl, rfl⟩
    go_wp2
    go_ret
    exact ⟨rfl, Below.refl _ _⟩
  · have hA : v < 0 ∨ 1048576 ≤ v := by omega
    have HA := Lib.hid hA
    clear ha
    rcases hA with h | h
    · have d1 : decide (v < 0) = true := decide_eq_true h
      go_enter Tryd.func3, Tryd.ntmps3
      go_wp2_with fail
      refine (Of_out v HA.out HT.out).mono ?_
      rintro e w1 ⟨E1, rfl, hc1, hb1⟩
      have HC1 := Lib.hid hc1
      have HB1 := Lib.hid hb1
      obtain ⟨u, x, rfl⟩ := hc1.some (by decide)
      clear hc1 hb1
      go_wp2_with fail
      refine (tells_ans 1 _ _ HC1.out (HG.out.mono HB1.out)).mono ?_
      rintro e w2 ⟨rfl, hb2⟩
      have HB2 := Lib.hid (HB1.out.trans (hb2.mono HB1.out.size))
      clear hb2
      go_wp2_with fail
      refine (awake7 _ (HT.out.mono HB2.out)).mono ?_
      rintro e w3 ⟨rfl, rfl⟩
      go_wp2
      go_ret
      exact ⟨rfl, HB2.out⟩
    · have d1 : decide (v < 0) = false := decide_eq_false (by omega)
      have d2 : decide (1048576 ≤ v) = true := decide_eq_true h
      go_enter Tryd.func3, Tryd.ntmps3
      go_wp2_with fail
      refine (Of_out v HA.out HT.out).mono ?_
      rintro e w1 ⟨E1, rfl, hc1, hb1⟩
      have HC1 := Lib.hid hc1
      have HB1 := Lib.hid hb1
      obtain ⟨u, x, rfl⟩ := hc1.some (by decide)
      clear hc1 hb1
      go_wp2_with fail
      refine (tells_ans 1 _ _ HC1.out (HG.out.mono HB1.out)).mono ?_
      rintro e w2 ⟨rfl, hb2⟩
      have HB2 := Lib.hid (HB1.out.trans (hb2.mono HB1.out.size))
      clear hb2
      go_wp2_with fail
      refine (awake7 _ (HT.out.mono HB2.out)).mono ?_
      rintro e w3 ⟨rfl, rfl⟩
      go_wp2
      go_ret
      exact ⟨rfl, HB2.out⟩

set_option maxRecDepth 1000000 in
set_option maxHeartbeats 1000000 in
theorem shares7 {w : World} (d : Int) (hT : DgTab w) (hg : Laid w) : Calls Tryd.prog 4 #[.int .i64 d] w fun e w' => e = .returned (.bool true) ∧ Below w.heap.size w w' := by
  have HT := Lib.hid hT
  have HG := Lib.hid hg
  clear hT hg
  obtain ⟨y, hy⟩ : ∃ y, dgUpto d = y := ⟨_, rfl⟩
  have HY := Lib.hid hy
  have hyy : (y != y) = false := by simp
  clear hy
  by_cases h0 : dgShare d = 0
  · have H0 := Lib.hid h0
    clear h0
    go_enter Tryd.func4, Tryd.ntmps4
    go_wp2_with fail
    refine (Share_none d H0.out HT.out).mono ?_
    rintro e w1 ⟨E1, rfl, hc1, hb1⟩
    have HC1 := Lib.hid hc1
    have HB1 := Lib.hid hb1
    obtain ⟨u, x, rfl⟩ := hc1.some (by decide)
    clear hc1 hb1
    go_wp2_with fail
    refine (refShare_any d).mono ?_
    rintro e w2 ⟨rfl, rfl⟩
    rw [H0.out]
    go_wp2_with fail
    refine (Upto_any d (HT.out.mono HB1.out)).mono ?_
    rintro e w2 ⟨rfl, rfl⟩
    rw [HY.out]
    go_wp2_with fail
    refine (refUpto_any d).mono ?_
    rintro e w2 ⟨rfl, rfl⟩
    rw [HY.out]
    go_wp2_with fail
    refine (tells_ans 4 _ _ HC1.out (HG.out.mono HB1.out)).mono ?_
    rintro e w2 ⟨rfl, hb2⟩
    have HB2 := Lib.hid (HB1.out.trans (hb2.mono HB1.out.size))
    clear hb2
    go_wp2_with fail
    refine (awake7 _ (HT.out.mono HB2.out)).mono ?_
    rintro e w3 ⟨rfl, rfl⟩
    go_wp2
    go_ret
    exact ⟨rfl, HB2.out⟩
  · have H0 := Lib.hid h0
    obtain ⟨s, hs⟩ : ∃ s, dgShare d = s := ⟨_, rfl⟩
    have HS := Lib.hid hs
    have hs0 : (s == 0) = false := by rw [← hs]; simpa using h0
    have hss : (s != s) = false := by simp
    clear hs h0
    go_enter Tryd.func4, Tryd.ntmps4
    go_wp2_with fail
    refine (Share_some d H0.out HT.out).mono ?_
    rintro e w1 ⟨rfl, rfl⟩
    rw [HS.out]
    go_wp2_with fail
    refine (refShare_any d).mono ?_
    rintro e w2 ⟨rfl, rfl⟩
    rw [HS.out]
    go_wp2_with fail
    refine (Upto_any d HT.out).mono ?_
    rintro e w2 ⟨rfl, rfl⟩
    rw [HY.out]
    go_wp2_with fail
    refine (refUpto_any d).mono ?_
    rintro e w2 ⟨rfl, rfl⟩
    rw [HY.out]
    go_wp2_with fail
    refine (awake7 _ HT.out).mono ?_
    rintro e w3 ⟨rfl, rfl⟩
    go_wp2
    go_ret
    exact ⟨rfl, Below.refl _ _⟩
end Go.Proofs.YtmipnbfndjacoaaDoor
