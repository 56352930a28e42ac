/- The ninth layer's laws PrecodeRows, PrecodeIns: the walks. -/
import Derived.Test.YtpnjjbbpcdeooaaDoorLaw09
import Derived.Test.YtpnjjbbpcdeooaaDoorLaw09T
import Derived.Test.YtpnjjbbpcdeooaaDoorPcJ
namespace Go.Proofs.YtpnjjbbpcdeooaaDoor
open Go.RowKit Go.Extern.Stop Go.Stop Go.Extern

set_option maxRecDepth 1000000 in
set_option maxHeartbeats 4000000 in
theorem rows9 {w : World} (K S H L P i : Int) (hK : I64 K) (hg : Laid w) : Calls Tryd.prog 3 #[parV K S H L P, .int .i64 i] w fun e w' => e = .returned (.bool true) ∧ Below w.heap.size w w' := by
  obtain ⟨w0, hw0, hb0, hbx⟩ := par_laid w K S H L P
  have HW0 := Lib.hid hw0
  have HB0 := Lib.hid hb0
  have HBX := Lib.hid hbx
  have HG := Lib.hid (hg.mono hb0)
  obtain ⟨c0, c1, c2, c3, c4⟩ := hbx.cells
  clear hw0 hb0 hbx hg
  by_cases hgood : Good K S H L P
  · obtain ⟨k, s, h, l, p, rfl, rfl, rfl, rfl, rfl, hk1, hk2, hof⟩ := hgood
    have HOF := Lib.hid hof
    obtain ⟨b1, b2, b3, b4, -⟩ := hof.bounds hk1 hk2
    have HRI : Hid (∀ V, Calls Tryd.prog 8 #[.agg #[.int .i64 (k : Int), .int .i64 (s : Int), .int .i64 (h : Int), .int .i64 (l : Int), .int .i64 (p : Int)]] V fun e w' => e = .returned (.bool true) ∧ Below V.heap.size V w') := Lib.hid fun V => rRight_good k s h l p hof hk1 hk2
    by_cases hi : i < 0 ∨ (s : Int) + h ≤ i
    · have HD : Hid (decide (i < 0) = true ∨ decide (i < 0) = false ∧ decide ((s : Int) + (h : Int) ≤ i) = true) := Lib.hid (by
        by_cases h' : i < 0
        · exact .inl (decide_eq_true h')
        · exact .inr ⟨decide_eq_false h', decide_eq_true (by omega)⟩)
      have HRO : Hid (∀ V, Calls Tryd.prog 7 #[.agg #[.int .i64 (k : Int), .int .i64 (s : Int), .int .i64 (h : Int), .int .i64 (l : Int), .int .i64 (p : Int)], .int .i64 i] V (NoSays 4 nameRow nilS V)) := Lib.hid fun V => Row_none k s h l p i hof hk1 hk2 hi
      clear hof hi hK
      unfold parV parC
      rcases HD.out with d1 | ⟨d1, d2⟩
      all_goals
        go_enter Tryd.func3, Tryd.ntmps3
        go_upto_region 1 with fail
        rw [← HW0.out]
        go_wp2_with fail
        refine (HRO.out _).mono ?_
        rintro e w1 ⟨E1, rfl, hc1, hb1⟩
        have HC1 := Lib.hid hc1
        have HBS := Lib.hid hb1
        have HB1 := Lib.hid (HB0.out.trans (hb1.mono HB0.out.size))
        obtain ⟨u, x, rfl⟩ := hc1.some (by decide)
        clear c0 c1 c2 c3 c4
        obtain ⟨c0, c1, c2, c3, c4⟩ := (HBX.out.mono hb1).cells
        clear hc1 hb1
        go_wp2_with fail
        refine (HRI.out _).mono ?_
        rintro e w2 ⟨rfl, hb2⟩
        have HC2 := Lib.hid (HC1.out.mono hb2)
        have HBS2 := Lib.hid (HBS.out.trans (hb2.mono HBS.out.size))
        have HB2 := Lib.hid (HB1.out.trans (hb2.mono HB1.out.size))
        clear c0 c1 c2 c3 c4
        obtain ⟨c0, c1, c2, c3, c4⟩ := (HBX.out.mono HBS2.out).cells
        clear hb2
        go_wp2_with fail
        refine (tells_ans 4 _ _ HC2.out (HG.out.mono HBS2.out)).mono ?_
        rintro e w3 ⟨rfl, hb3⟩
        have HB3 := Lib.hid (HB2.out.trans (hb3.mono HB2.out.size))
        clear hb3 c0 c1 c2 c3 c4
        go_wp2_with fail
        refine (awake9 _).mono ?_
        rintro e w4 ⟨rfl, hb4⟩
        have HB4 := Lib.hid (HB3.out.trans (hb4.mono HB3.out.size))
        clear hb4
        go_wp2
        go_ret
        exact ⟨rfl, HB4.out⟩
    · obtain ⟨r, rfl⟩ : ∃ r : Nat, i = r := ⟨i.toNat, by omega⟩
      have hr : r < s + h := by omega
      have d1 : decide ((r : Int) < 0) = false := decide_eq_false (by omega)
      have d2 : decide ((s : Int) + (h : Int) ≤ (r : Int)) = false := decide_eq_false (by omega)
      have d3 : decide (s + h ≤ r) = false := decide_eq_false (by omega)
      have HRO : Hid (∀ V, Calls Tryd.prog 7 #[.agg #[.int .i64 (k : Int), .int .i64 (s : Int), .int .i64 (h : Int), .int .i64 (l : Int), .int .i64 (p : Int)], .int .i64 (r : Int)] V fun e w' => ∃ v g, e = .returned (.tuple #[v, .nilIface]) ∧ IsGr ((h + 1) / 2) (k + s) g ∧ ListAt colV w' v ((rowsP k s h g).getD r []) ∧ Below V.heap.size V w') := Lib.hid fun V => Row_ok k s h l p r hof hk1 hk2 hr
      have HRS : Hid (∀ V, Calls Tryd.prog 12 #[.agg #[.int .i64 (k : Int), .int .i64 (s : Int), .int .i64 (h : Int), .int .i64 (l : Int), .int .i64 (p : Int)]] V fun e w' => ∃ v g, e = .returned v ∧ IsGr ((h + 1) / 2) (k + s) g ∧ MatAt colV w' v (rowsP k s h g) ∧ Below V.heap.size V w') := Lib.hid fun V => rRows_any k s h l p hof hk1 hk2
      clear hof hi hK
      unfold parV parC
      go_enter Tryd.func3, Tryd.ntmps3
      go_upto_region 1 with fail
      rw [← HW0.out]
      go_wp2_with fail
      refine (HRO.out _).mono ?_
      rintro e w1 ⟨v1, g, rfl, hg1, hl1, hb1⟩
      have HG1 := Lib.hid hg1
      have HL1 := Lib.hid hl1
      have HBS := Lib.hid hb1
      have HB1 := Lib.hid (HB0.out.trans (hb1.mono HB0.out.size))
      clear c0 c1 c2 c3 c4
      obtain ⟨c0, c1, c2, c3, c4⟩ := (HBX.out.mono hb1).cells
      clear hg1 hl1 hb1
      go_wp2_with fail
      refine (HRI.out _).mono ?_
      rintro e w2 ⟨rfl, hb2⟩
      have HL2 := Lib.hid (HL1.out.mono hb2)
      have HBS2 := Lib.hid (HBS.out.trans (hb2.mono HBS.out.size))
      have HB2 := Lib.hid (HB1.out.trans (hb2.mono HB1.out.size))
      clear c0 c1 c2 c3 c4
      obtain ⟨c0, c1, c2, c3, c4⟩ := (HBX.out.mono HBS2.out).cells
      clear hb2
      go_wp2_with fail
      refine (tells_nil _).mono ?_
      rintro e w3 ⟨rfl, rfl⟩
      go_wp2_with fail
      refine (HRS.out _).mono ?_
      rintro e w3 ⟨v3, g3, rfl, hg3, hm3, hb3⟩
      obtain rfl := hg3.unique HG1.out
      have HB3 := Lib.hid (HB2.out.trans (hb3.mono HB2.out.size))
      obtain ⟨a, cap, rfl, hcap, -, hcell⟩ := hm3.opens
      have hln := rowsP_length k s h g3
      obtain ⟨b, off, rfl, hcc⟩ := hcell (by omega)
      obtain ⟨y, hy, hly⟩ := hcc r (by omega)
      have HS := Lib.hid (SameI_any v1 y (((rowsP k s h g3).getD r []).map Int.ofNat) (HL2.out.mono hb3).cols hly.cols)
      obtain ⟨ay, cy, rfl, -⟩ := hly
      rw [hln] at hcap ⊢
      obtain ⟨n, hn⟩ : ∃ n, s + h = n := ⟨_, rfl⟩
      rw [hn] at hcap hr ⊢
      clear hg3 hm3 hb3 c0 c1 c2 c3 c4 hcell hcc hln hn
      go_wp2_with fail
      refine HS.out.mono ?_
      rintro e w4 ⟨rfl, hb4⟩
      have HB4 := Lib.hid (HB3.out.trans (hb4.mono HB3.out.size))
      clear hb4 hy
      go_wp2_with fail
      refine (awake9 _).mono ?_
      rintro e w5 ⟨rfl, hb5⟩
      have HB5 := Lib.hid (HB4.out.trans (hb5.mono HB4.out.size))
      clear hb5
      go_wp2
      go_ret
      exact ⟨rfl, HB5.out⟩
  · have HRO : Hid (∀ V, Calls Tryd.prog 7 #[.agg #[.int .i64 K, .int .i64 S, .int .i64 H, .int .i64 L, .int .i64 P], .int .i64 i] V (NoSays 1 nameRow nilS V)) := Lib.hid fun V => Row_bad K S H L P i hgood hK
    have HRI : Hid (∀ V, Calls Tryd.prog 8 #[.agg #[.int .i64 K, .int .i64 S, .int .i64 H, .int .i64 L, .int .i64 P]] V fun e w' => e = .returned (.bool false) ∧ Below V.heap.size V w') := Lib.hid fun V => rRight_bad K S H L P hgood hK
    clear hgood hK
    unfold parV parC
    go_enter Tryd.func3, Tryd.ntmps3
    go_upto_region 1 with fail
    rw [← HW0.out]
    go_wp2_with fail
    refine (HRO.out _).mono ?_
    rintro e w1 ⟨E1, rfl, hc1, hb1⟩
    have HC1 := Lib.hid hc1
    have HBS := Lib.hid hb1
    have HB1 := Lib.hid (HB0.out.trans (hb1.mono HB0.out.size))
    obtain ⟨u, x, rfl⟩ := hc1.some (by decide)
    clear c0 c1 c2 c3 c4
    obtain ⟨c0, c1, c2, c3, c4⟩ := (HBX.out.mono hb1).cells
    clear hc1 hb1
    go_wp2_with fail
    refine (HRI.out _).mono ?_
    rintro e w2 ⟨rfl, hb2⟩
    have HC2 := Lib.hid (HC1.out.mono hb2)
    have HBS2 := Lib.hid (HBS.out.trans (hb2.mono HBS.out.size))
    have HB2 := Lib.hid (HB1.out.trans (hb2.mono HB1.out.size))
    clear hb2 c0 c1 c2 c3 c4
    go_wp2_with fail
    refine (tells_ans 1 _ _ HC2.out (HG.out.mono HBS2.out)).mono ?_
    rintro e w3 ⟨rfl, hb3⟩
    have HB3 := Lib.hid (HB2.out.trans (hb3.mono HB2.out.size))
    clear hb3
    go_wp2_with fail
    refine (awake9 _).mono ?_
    rintro e w4 ⟨rfl, hb4⟩
    have HB4 := Lib.hid (HB3.out.trans (hb4.mono HB3.out.size))
    clear hb4
    go_wp2
    go_ret
    exact ⟨rfl, HB4.out⟩
end Go.Proofs.YtpnjjbbpcdeooaaDoor
