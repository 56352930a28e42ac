/- The seventh layer's laws: awake; DegreeRises, DegreeUpto: the walks. -/
import Derived.Test.YtmipnbfndjacoaaDoorDgB
namespace Go.Proofs.YtmipnbfndjacoaaDoor
open Go.RowKit Go.Extern.Stop Go.Stop Go.Extern

set_option maxRecDepth 1000000 in
set_option maxHeartbeats 1000000 in
theorem awake7 (w : World) (hT : DgTab w) : Calls Tryd.prog 10 #[] w fun e w' => e = .returned (.bool true) ∧ w = w' := by
  have HT := Lib.hid hT
  clear hT
  have h1 : dgOf 10241 = 2 := by decide
  have h2 : dgShare 1 = 10241 := by decide
  have h3 : dgUpto 3 = 712794 := by decide
  go_enter Tryd.func10, Tryd.ntmps10
  go_wp2_with fail
  refine (Of_in 10241 (by decide) (by decide) HT.out).mono ?_
  rintro e w1 ⟨rfl, rfl⟩
  rw [h1]
  go_wp2_with fail
  refine (Share_some 1 (by decide) HT.out).mono ?_
  rintro e w1 ⟨rfl, rfl⟩
  rw [h2]
  go_wp2_with fail
  refine (Upto_any 3 HT.out).mono ?_
  rintro e w1 ⟨rfl, rfl⟩
  rw [h3]
  go_wp2
  go_ret
  exact ⟨rfl, rfl⟩

theorem dgOf_mono (a b : Int) (h : a ≤ b) : dgOf a ≤ dgOf b := by
  unfold dgOf
  repeat' split
  all_goals omega

theorem dgOf_upto (v d : Int) (h0 : 0 ≤ v) (h1 : v < 1048576) : decide (v < dgUpto d) = decide (dgOf v ≤ d) := by
  have e : dgUpto d = if (40 : Int) ≤ d then 1048576 else if (11 : Int) ≤ d then 1032189 else if (10 : Int) ≤ d then 948446 else if (4 : Int) ≤ d then 831695 else if (3 : Int) ≤ d then 712794 else if (2 : Int) ≤ d then 491582 else if (1 : Int) ≤ d then 10241 else 0 := rfl
  rw [e, decide_eq_decide]
  unfold dgOf
  repeat' split
  all_goals omega

set_option maxRecDepth 1000000 in
set_option maxHeartbeats 1000000 in
theorem rises7 {w : World} (a b : Int) (hT : DgTab w) : Calls Tryd.prog 6 #[.int .i64 a, .int .i64 b] w fun e w' => e = .returned (.bool true) ∧ Below w.heap.size w w' := by
  have HT := Lib.hid hT
  clear hT
  by_cases ha : 0 ≤ a ∧ a < 1048576
  · by_cases hb : 0 ≤ b ∧ b < 1048576
    · have H1 := Lib.hid (dgOf_mono a b)
      have H2 := Lib.hid (dgOf_mono b a)
      obtain ⟨x, hx⟩ : ∃ x, dgOf a = x := ⟨_, rfl⟩
      obtain ⟨y, hy⟩ : ∃ y, dgOf b = y := ⟨_, rfl⟩
      have HX := Lib.hid hx
      have HY := Lib.hid hy
      have HA := Lib.hid ha
      have HB := Lib.hid hb
      clear hx hy ha hb
      go_enter Tryd.func6, Tryd.ntmps6
      go_wp2_with fail
      refine (Of_in a HA.out.1 HA.out.2 HT.out).mono ?_
      rintro e w1 ⟨rfl, rfl⟩
      rw [HX.out]
      go_wp2_with fail
      refine (Of_in b HB.out.1 HB.out.2 HT.out).mono ?_
      rintro e w1 ⟨rfl, rfl⟩
      rw [HY.out]
      have H3 : Hid (a ≤ b → x ≤ y) := Lib.hid fun h => by have := H1.out h; rwa [HX.out, HY.out] at this
      have H4 : Hid (b ≤ a → y ≤ x) := Lib.hid fun h => by have := H2.out h; rwa [HX.out, HY.out] at this
      rcases Int.lt_trichotomy a b with h | h | h
      · have d1 : decide (b < a) = false := decide_eq_false (by omega)
        have d2 : decide (x ≤ y) = true := decide_eq_true (H3.out (by omega))
        have d3 : decide (a < b) = true := decide_eq_true h
        clear h
        go_wp2_with fail
        refine (awake7 _ HT.out).mono ?_
        rintro e w1 ⟨rfl, rfl⟩
        go_wp2
        go_ret
        exact ⟨rfl, Below.refl _ _⟩
      · have d1 : decide (b < a) = false := decide_eq_false (by omega)
        have d2 : decide (x ≤ y) = true := decide_eq_true (H3.out (by omega))
        have d3 : decide (a < b) = false := decide_eq_false (by omega)
        have d4 : decide (y ≤ x) = true := decide_eq_true (H4.out (by omega))
        clear h
        go_wp2_with fail
        refine (awake7 _ HT.out).mono ?_
        rintro e w1 ⟨rfl, rfl⟩
        go_wp2
        go_ret
        exact ⟨rfl, Below.refl _ _⟩
      · have d1 : decide (b < a) = true := decide_eq_true h
        have d3 : decide (a < b) = false := decide_eq_false (by omega)
        have d4 : decide (y ≤ x) = true := decide_eq_true (H4.out (by omega))
        clear h
        go_wp2_with fail
        refine (awake7 _ HT.out).mono ?_
        rintro e w1 ⟨rfl, rfl⟩
        go_wp2
        go_ret
        exact ⟨rfl, Below.refl _ _⟩
    · have HB := Lib.hid (show b < 0 ∨ 1048576 ≤ b by omega)
      have HA := Lib.hid ha
      clear ha hb
      go_enter Tryd.func6, Tryd.ntmps6
      go_wp2_with fail
      refine (Of_in a HA.out.1 HA.out.2 HT.out).mono ?_
      rintro e w1 ⟨rfl, rfl⟩
      go_wp2_with fail
      refine (Of_out b HB.out HT.out).mono ?_
      rintro e w1 ⟨E1, rfl, hc1, hb1⟩
      have HB1 := Lib.hid hb1
      obtain ⟨u, x, rfl⟩ := hc1.some (by decide)
      clear hc1 hb1
      go_wp2_with fail
      refine (awake7 _ (HT.out.mono HB1.out)).mono ?_
      rintro e w2 ⟨rfl, rfl⟩
      go_wp2
      go_ret
      exact ⟨rfl, HB1.out⟩
  · have HA := Lib.hid (show a < 0 ∨ 1048576 ≤ a by omega)
    clear ha
    by_cases hb : 0 ≤ b ∧ b < 1048576
    · have HB := Lib.hid hb
      clear hb
      go_enter Tryd.func6, Tryd.ntmps6
      go_wp2_with fail
      refine (Of_out a HA.out HT.out).mono ?_
      rintro e w1 ⟨E1, rfl, hc1, hb1⟩
      have HB1 := Lib.hid hb1
      obtain ⟨u, x, rfl⟩ := hc1.some (by decide)
      clear hc1 hb1
      go_wp2_with fail
      refine (Of_in b HB.out.1 HB.out.2 (HT.out.mono HB1.out)).mono ?_
      rintro e w2 ⟨rfl, rfl⟩
      go_wp2_with fail
      refine (awake7 _ (HT.out.mono HB1.out)).mono ?_
      rintro e w2 ⟨rfl, rfl⟩
      go_wp2
      go_ret
      exact ⟨rfl, HB1.out⟩
    · have HB := Lib.hid (show b < 0 ∨ 1048576 ≤ b by omega)
      clear hb
      go_enter Tryd.func6, Tryd.ntmps6
      go_wp2_with fail
      refine (Of_out a HA.out HT.out).mono ?_
      rintro e w1 ⟨E1, rfl, hc1, hb1⟩
      have HB1 := Lib.hid hb1
      obtain ⟨u, x, rfl⟩ := hc1.some (by decide)
      clear hc1 hb1
      go_wp2_with fail
      refine (Of_out b HB.out (HT.out.mono HB1.out)).mono ?_
      rintro e w2 ⟨E2, rfl, hc2, hb2⟩
      have HB2 := Lib.hid (HB1.out.trans (hb2.mono HB1.out.size))
      obtain ⟨u2, x2, rfl⟩ := hc2.some (by decide)
      clear hc2 hb2
      go_wp2_with fail
      refine (awake7 _ (HT.out.mono HB2.out)).mono ?_
      rintro e w3 ⟨rfl, rfl⟩
      go_wp2
      go_ret
      exact ⟨rfl, HB2.out⟩

set_option maxRecDepth 1000000 in
set_option maxHeartbeats 1000000 in
theorem upto7 {w : World} (v d : Int) (hT : DgTab w) : Calls Tryd.prog 7 #[.int .i64 v, .int .i64 d] w fun e w' => e = .returned (.bool true) ∧ Below w.heap.size w w' := by
  have HT := Lib.hid hT
  clear hT
  by_cases ha : 0 ≤ v ∧ v < 1048576
  · have he := dgOf_upto v d ha.1 ha.2
    have HA := Lib.hid ha
    obtain ⟨x, hx⟩ : ∃ x, dgOf v = x := ⟨_, rfl⟩
    obtain ⟨y, hy⟩ : ∃ y, dgUpto d = y := ⟨_, rfl⟩
    rw [hx, hy] at he
    have HX := Lib.hid hx
    have HY := Lib.hid hy
    clear hx hy ha
    go_enter Tryd.func7, Tryd.ntmps7
    go_wp2_with fail
    refine (Of_in v HA.out.1 HA.out.2 HT.out).mono ?_
    rintro e w1 ⟨rfl, rfl⟩
    rw [HX.out]
    go_wp2_with fail
    refine (Upto_any d HT.out).mono ?_
    rintro e w1 ⟨rfl, rfl⟩
    rw [HY.out]
    by_cases h : x ≤ d
    · have d1 : decide (x ≤ d) = true := decide_eq_true h
      have d2 : decide (v < y) = true := by rw [he, d1]
      clear he h
      go_wp2_with fail
      refine (awake7 _ HT.out).mono ?_
      rintro e w1 ⟨rfl, rfl⟩
      go_wp2
      go_ret
      exact ⟨rfl, Below.refl _ _⟩
    · have d1 : decide (x ≤ d) = false := decide_eq_false h
      have d2 : decide (v < y) = false := by rw [he, d1]
      clear he h
      go_wp2_with fail
      refine (awake7 _ HT.out).mono ?_
      rintro e w1 ⟨rfl, rfl⟩
      go_wp2
      go_ret
      exact ⟨rfl, Below.refl _ _⟩
  · have HA := Lib.hid (show v < 0 ∨ 1048576 ≤ v by omega)
    clear ha
    go_enter Tryd.func7, Tryd.ntmps7
    go_wp2_with fail
    refine (Of_out v HA.out HT.out).mono ?_
    rintro e w1 ⟨E1, rfl, hc1, hb1⟩
    have HB1 := Lib.hid hb1
    obtain ⟨u, x, rfl⟩ := hc1.some (by decide)
    clear hc1 hb1
    go_wp2_with fail
    refine (awake7 _ (HT.out.mono HB1.out)).mono ?_
    rintro e w2 ⟨rfl, rfl⟩
    go_wp2
    go_ret
    exact ⟨rfl, HB1.out⟩
end Go.Proofs.YtmipnbfndjacoaaDoor
