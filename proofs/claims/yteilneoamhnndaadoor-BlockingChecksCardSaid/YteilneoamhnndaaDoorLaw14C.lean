/- The fourteenth layer's law BlockingChecks. -/
import Derived.Test.YteilneoamhnndaaDoorLaw14
import Derived.Test.YteilneoamhnndaaDoorLaw14T
namespace Go.Proofs.YteilneoamhnndaaDoor
open Go.RowKit Go.Extern.Stop Go.Stop Go.Extern

theorem planC_range {s b n l q : Int} (h : planC s b n l q = 0) : 0 ≤ q ∧ q ≤ 128 := by
  obtain ⟨s', b', n', l', q', rfl, rfl, rfl, rfl, rfl, h'⟩ := planC_zero h
  have := h'.q128
  omega

set_option maxRecDepth 1000000 in
set_option maxHeartbeats 4000000 in
theorem checks14 {w : World} (s b n l q i : Int) (hs : I64 s) (hb : I64 b) (hn : I64 n) (hl : I64 l) (hq : I64 q) (hg : Laid w) :
    Calls Tryd.prog 4 #[plV s b n l q, .int .i64 i] w fun e w' => e = .returned (.bool true) ∧ Below w.heap.size w w' := by
  have HG := Lib.hid hg
  have HC1 : Hid (∀ V : World, Calls Tryd.prog 11 #[.agg #[.int .i64 s, .int .i64 b, .int .i64 n, .int .i64 l, .int .i64 q]] V fun e w' => e = .returned (.int .i64 (planC s b n l q)) ∧ Below V.heap.size V w') := Lib.hid fun V => rbCheck_any s b n l q hs hb hn hl hq
  have HC2 : Hid (∀ V : World, Calls Tryd.prog 13 #[.agg #[.int .i64 s, .int .i64 b, .int .i64 n, .int .i64 l, .int .i64 q]] V fun e w' => ∃ E, e = .returned E ∧ ErrAns (planC s b n l q) nameBkCheck w' E ∧ Below V.heap.size V w') := Lib.hid fun V => bkCheck_any s b n l q hs hb hn hl hq
  have HC3 : Hid (∀ V : World, Calls Tryd.prog 12 #[.agg #[.int .i64 s, .int .i64 b, .int .i64 n, .int .i64 l, .int .i64 q], .int .i64 i] V fun e w' => ∃ E, e = .returned (.tuple #[.int .i64 (if srcC s b n l q i = 0 then (if i < l then q + 1 else q) else 0), E]) ∧ ErrAns (srcC s b n l q i) nameBkSource w' E ∧ Below V.heap.size V w') := Lib.hid fun V => bkSource_any s b n l q i hs hb hn hl hq
  have HC4 : Hid (srcC s b n l q i = 0 → ∀ V : World, Calls Tryd.prog 14 #[.agg #[.int .i64 s, .int .i64 b, .int .i64 n, .int .i64 l, .int .i64 q], .int .i64 i] V fun e w' => e = .returned (.int .i64 (if i < l then q + 1 else q)) ∧ Below V.heap.size V w') := Lib.hid fun h V => by
    have : planC s b n l q = 0 := by
      unfold srcC at h
      by_cases h0 : planC s b n l q = 0
      · exact h0
      · rw [if_neg h0] at h; exact h
    have := planC_range this
    exact rbSource_any s b n l q i this.1 this.2
  obtain ⟨k, hk⟩ : ∃ k, k = planC s b n l q := ⟨_, rfl⟩
  obtain ⟨j, hj⟩ : ∃ j, j = srcC s b n l q i := ⟨_, rfl⟩
  obtain ⟨v, hv⟩ : ∃ v, v = if i < l then q + 1 else q := ⟨_, rfl⟩
  -- the ways
  have HWAY : Hid ((k == 0) = false ∧ j = k ∨ (k == 0) = true ∧ decide (i < 0) = true ∧ j = 1 ∨ (k == 0) = true ∧ decide (i < 0) = false ∧ decide (n ≤ i) = true ∧ j = 1 ∨ (k == 0) = true ∧ decide (i < 0) = false ∧ decide (n ≤ i) = false ∧ j = 0) := Lib.hid (by
    unfold srcC at hj
    rw [← hk] at hj
    by_cases h0 : k = 0
    · rw [if_pos h0] at hj
      have h0' : (k == 0) = true := by simpa using h0
      by_cases h1 : i < 0
      · rw [if_pos (.inl h1)] at hj
        exact .inr (.inl ⟨h0', decide_eq_true h1, hj⟩)
      · by_cases h2 : n ≤ i
        · rw [if_pos (.inr h2)] at hj
          exact .inr (.inr (.inl ⟨h0', decide_eq_false h1, decide_eq_true h2, hj⟩))
        · rw [if_neg (by omega)] at hj
          exact .inr (.inr (.inr ⟨h0', decide_eq_false h1, decide_eq_false h2, hj⟩))
    · rw [if_neg h0] at hj
      exact .inl ⟨by simpa using h0, hj⟩)
  rw [← hj, ← hv] at HC3
  rw [← hj, ← hv] at HC4
  rw [← hk] at HC1 HC2
  obtain ⟨u, hu⟩ : ∃ u, u = if j = 0 then v else 0 := ⟨_, rfl⟩
  rw [← hu] at HC3
  have HU := Lib.hid hu
  obtain ⟨W0, hW0, hb0, hbx⟩ := pl_laid w s b n l q
  have HW0 := Lib.hid hW0
  have HB0 := Lib.hid hb0
  have HX := Lib.hid hbx
  clear hs hb hn hl hq hg hk hj hv hu hW0 hb0 hbx
  unfold plV plC
  go_enter Tryd.func4, Tryd.ntmps4
  go_wp2_with fail
  rw [← HW0.out]
  refine (HC1.out W0).mono ?_
  rintro e w1 ⟨rfl, hb1⟩
  have HB1 := Lib.hid (HB0.out.trans (hb1.mono HB0.out.size))
  have HX1 := Lib.hid (HX.out.mono hb1)
  obtain ⟨c0, c1, c2, c3, c4⟩ := HX1.out.cells
  clear hb1 HX HW0 HB0
  go_wp2_with fail
  refine (HC3.out w1).mono ?_
  rintro e w2 ⟨E, rfl, he, hb2⟩
  have HB2 := Lib.hid (HB1.out.trans (hb2.mono HB1.out.size))
  have HX2 := Lib.hid (HX1.out.mono hb2)
  have HE2 := Lib.hid he
  clear c0 c1 c2 c3 c4
  obtain ⟨c0, c1, c2, c3, c4⟩ := HX2.out.cells
  clear hb2 he HX1 HB1
  go_wp2_with fail
  refine (HC2.out w2).mono ?_
  rintro e w3 ⟨F, rfl, he, hb3⟩
  have HB3 := Lib.hid (HB2.out.trans (hb3.mono HB2.out.size))
  have HX3 := Lib.hid (HX2.out.mono hb3)
  have HE3 := Lib.hid (HE2.out.mono hb3)
  have HF3 := Lib.hid he
  clear c0 c1 c2 c3 c4 hb3 he HX2 HB2 HE2
  go_wp2_with fail
  refine (tells_ans k nameBkCheck F HF3.out (HG.out.mono HB3.out)).mono ?_
  rintro e w4 ⟨rfl, hb4⟩
  have HB4 := Lib.hid (HB3.out.trans (hb4.mono HB3.out.size))
  have HE4 := Lib.hid (HE3.out.mono hb4)
  obtain ⟨c0, c1, c2, c3, c4⟩ := (HX3.out.mono hb4).cells
  have HX4 := Lib.hid (HX3.out.mono hb4)
  clear hb4 HX3 HB3 HE3 HF3
  have HT : Hid (∀ k, j = k → Calls Tryd.prog 9 #[E, .int .i64 k, .string nameBkSource] w4 fun e w' => e = .returned (.bool true) ∧ Below w4.heap.size w4 w') := Lib.hid fun k hk => by subst hk; exact tells_ans j nameBkSource E HE4.out (HG.out.mono HB4.out)
  rcases HWAY.out with ⟨k0, hj⟩ | ⟨k0, i0, hj⟩ | ⟨k0, i0, n0, hj⟩ | ⟨k0, i0, n0, hj⟩
  · have HJ := Lib.hid hj
    have hv0 : u = 0 := by rw [HU.out, if_neg]; intro h; rw [h] at hj; rw [← hj] at k0; simp at k0
    subst hv0
    have k0' : (k != 0) = true := by simpa using k0
    clear hj HU
    go_wp2_with fail
    refine (HT.out k HJ.out).mono ?_
    rintro e w5 ⟨rfl, hb5⟩
    have HB5 := Lib.hid (HB4.out.trans (hb5.mono HB4.out.size))
    clear hb5 c0 c1 c2 c3 c4
    go_wp2_with fail
    refine (awake14 _).mono ?_
    rintro e w6 ⟨rfl, hb6⟩
    have HB6 := Lib.hid (HB5.out.trans (hb6.mono HB5.out.size))
    clear hb6
    go_wp2
    go_ret
    exact ⟨rfl, HB6.out⟩
  · have HJ := Lib.hid hj
    have hv0 : u = 0 := by rw [HU.out, if_neg]; omega
    subst hv0
    clear hj HU
    go_wp2_with fail
    refine (HT.out 1 HJ.out).mono ?_
    rintro e w5 ⟨rfl, hb5⟩
    have HB5 := Lib.hid (HB4.out.trans (hb5.mono HB4.out.size))
    clear hb5 c0 c1 c2 c3 c4
    go_wp2_with fail
    refine (awake14 _).mono ?_
    rintro e w6 ⟨rfl, hb6⟩
    have HB6 := Lib.hid (HB5.out.trans (hb6.mono HB5.out.size))
    clear hb6
    go_wp2
    go_ret
    exact ⟨rfl, HB6.out⟩
  · have HJ := Lib.hid hj
    have hv0 : u = 0 := by rw [HU.out, if_neg]; omega
    subst hv0
    clear hj HU
    go_wp2_with fail
    refine (HT.out 1 HJ.out).mono ?_
    rintro e w5 ⟨rfl, hb5⟩
    have HB5 := Lib.hid (HB4.out.trans (hb5.mono HB4.out.size))
    clear hb5 c0 c1 c2 c3 c4
    go_wp2_with fail
    refine (awake14 _).mono ?_
    rintro e w6 ⟨rfl, hb6⟩
    have HB6 := Lib.hid (HB5.out.trans (hb6.mono HB5.out.size))
    clear hb6
    go_wp2
    go_ret
    exact ⟨rfl, HB6.out⟩
  · have HJ := Lib.hid hj
    have hv0 : u = v := by rw [HU.out, if_pos hj]
    subst hv0
    obtain rfl : k = 0 := by simpa using k0
    clear hj HU
    go_wp2_with fail
    refine (HT.out 0 HJ.out).mono ?_
    rintro e w5 ⟨rfl, hb5⟩
    have HB5 := Lib.hid (HB4.out.trans (hb5.mono HB4.out.size))
    clear c0 c1 c2 c3 c4
    obtain ⟨c0, c1, c2, c3, c4⟩ := (HX4.out.mono hb5).cells
    clear hb5
    go_wp2_with fail
    refine (HC4.out HJ.out w5).mono ?_
    rintro e w6 ⟨rfl, hb6⟩
    have HB6 := Lib.hid (HB5.out.trans (hb6.mono HB5.out.size))
    clear hb6 c0 c1 c2 c3 c4
    go_wp2_with fail
    refine (awake14 _).mono ?_
    rintro e w7 ⟨rfl, hb7⟩
    have HB7 := Lib.hid (HB6.out.trans (hb7.mono HB6.out.size))
    clear hb7
    go_wp2
    go_ret
    exact ⟨rfl, HB7.out⟩
end Go.Proofs.YteilneoamhnndaaDoor
