/- The ninth layer's law PrecodeAll: the walk. -/
import Derived.Test.YtpnjjbbpcdeooaaDoorLaw09
import Derived.Test.YtpnjjbbpcdeooaaDoorLaw09T
import Derived.Test.YtpnjjbbpcdeooaaDoorPcJ
import Derived.StillTailTactics
namespace Go.Proofs.YtpnjjbbpcdeooaaDoor
open Go.RowKit Go.Extern.Stop Go.Stop Go.Extern

set_option maxRecDepth 1000000 in
set_option maxHeartbeats 4000000 in
theorem all9 {w : World} (K S H L P : Int) (hK : I64 K) (hg : Laid w) : Calls Tryd.prog 4 #[parV K S H L P] w fun e w' => e = .returned (.bool true) ∧ Below w.heap.size w w' := by
  obtain ⟨w0, hw0, hb0, hbx⟩ := par_laid w K S H L P
  have HW0 := Lib.hid hw0
  have HB0 := Lib.hid hb0
  have HBX := Lib.hid hbx
  have HG := Lib.hid (hg.mono hb0)
  obtain ⟨c0, c1, c2, c3, c4⟩ := hbx.cells
  clear hw0 hb0 hbx hg
  by_cases hgood : Good K S H L P
  · obtain ⟨k, s, h, l, p, rfl, rfl, rfl, rfl, rfl, hk1, hk2, hof⟩ := hgood
    obtain ⟨b1, b2, b3, b4, -⟩ := hof.bounds hk1 hk2
    have HRI : Hid (∀ V, Calls Tryd.prog 8 #[.agg #[.int .i64 (k : Int), .int .i64 (s : Int), .int .i64 (h : Int), .int .i64 (l : Int), .int .i64 (p : Int)]] V fun e w' => e = .returned (.bool true) ∧ Below V.heap.size V w') := Lib.hid fun V => rRight_good k s h l p hof hk1 hk2
    have HRO : Hid (∀ V, Calls Tryd.prog 13 #[.agg #[.int .i64 (k : Int), .int .i64 (s : Int), .int .i64 (h : Int), .int .i64 (l : Int), .int .i64 (p : Int)]] V fun e w' => ∃ v g, e = .returned (.tuple #[v, .nilIface]) ∧ IsGr ((h + 1) / 2) (k + s) g ∧ MatAt colV w' v (rowsP k s h g) ∧ Below V.heap.size V w') := Lib.hid fun V => All_ok k s h l p hof hk1 hk2
    have HRS : Hid (∀ V, Calls Tryd.prog 12 #[.agg #[.int .i64 (k : Int), .int .i64 (s : Int), .int .i64 (h : Int), .int .i64 (l : Int), .int .i64 (p : Int)]] V fun e w' => ∃ v g, e = .returned v ∧ IsGr ((h + 1) / 2) (k + s) g ∧ MatAt colV w' v (rowsP k s h g) ∧ Below V.heap.size V w') := Lib.hid fun V => rRows_any k s h l p hof hk1 hk2
    clear hof hK
    unfold parV parC
    go_enter Tryd.func4, Tryd.ntmps4
    go_upto_region 1 with fail
    rw [← HW0.out]
    go_wp2_with fail
    refine (HRO.out _).mono ?_
    rintro e w1 ⟨v1, g, rfl, hg1, hm1, hb1⟩
    have HG1 := Lib.hid hg1
    have HM1 := Lib.hid hm1
    have HBS := Lib.hid hb1
    have HB1 := Lib.hid (HB0.out.trans (hb1.mono HB0.out.size))
    clear c0 c1 c2 c3 c4
    obtain ⟨c0, c1, c2, c3, c4⟩ := (HBX.out.mono hb1).cells
    clear hg1 hm1 hb1
    go_wp2_with fail
    refine (HRI.out _).mono ?_
    rintro e w2 ⟨rfl, hb2⟩
    have HM2 := Lib.hid (HM1.out.mono hb2)
    have HBS2 := Lib.hid (HBS.out.trans (hb2.mono HBS.out.size))
    have HB2 := Lib.hid (HB1.out.trans (hb2.mono HB1.out.size))
    clear c0 c1 c2 c3 c4
    obtain ⟨c0, c1, c2, c3, c4⟩ := (HBX.out.mono HBS2.out).cells
    clear hb2
    go_wp2_with fail
    refine (HRS.out _).mono ?_
    rintro e w3 ⟨v3, g3, rfl, hg3, hm3, hb3⟩
    obtain rfl := hg3.unique HG1.out
    have HB3 := Lib.hid (HB2.out.trans (hb3.mono HB2.out.size))
    have hm13 := HM2.out.mono hb3
    obtain ⟨a1, q1, rfl, hq1, -, hcell1⟩ := hm13.opens
    obtain ⟨a3, q3, rfl, hq3, -, hcell3⟩ := hm3.opens
    have hln := rowsP_length k s h g3
    obtain ⟨n, hn⟩ : ∃ n, (rowsP k s h g3).length = n := ⟨_, rfl⟩
    have hn29 : n ≤ 29 := by omega
    obtain ⟨R, hR⟩ : ∃ R, rowsP k s h g3 = R := ⟨_, rfl⟩
    rw [hR] at hn hcell1 hcell3 hq1 hq3 ⊢
    rw [hn] at hcell1 hcell3 hq1 hq3 ⊢
    have HC1 := Lib.hid hcell1
    have HC3 := Lib.hid hcell3
    clear hg3 hm3 hm13 hb3 c0 c1 c2 c3 c4 hcell1 hcell3 hln hn hR
    go_wp2_with fail
    go_loopw [6] (fun i wr => ∃ q : Nat, q ≤ n ∧ i = .int .i64 q ∧ Below w3.heap.size w3 wr) (fun i _ => n - (intOf i).toNat)
    case atStart => exact ⟨0, Nat.zero_le _, rfl, Below.refl _ _⟩
    case round =>
      obtain ⟨q, hq, rfl, hbel⟩ := hrel
      have HB := Lib.hid hbel
      by_cases hlt : q < n
      · obtain ⟨x1, o1, rfl, hcc1⟩ := HC1.out (by omega)
        obtain ⟨x3, o3, rfl, hcc3⟩ := HC3.out (by omega)
        obtain ⟨y1, hy1, hl1⟩ := hcc1 q hlt
        obtain ⟨y3, hy3, hl3⟩ := hcc3 q hlt
        have hbd := hbel.drew
        have hz1 : wr.drew.cell? ⟨x1, o1 + q, none⟩ = some y1 := (hbd.cell (p := ⟨x1, o1 + q, none⟩) (World.block_lt_of_cell? w3 _ hy1)).trans hy1
        have hz3 : wr.drew.cell? ⟨x3, o3 + q, none⟩ = some y3 := (hbd.cell (p := ⟨x3, o3 + q, none⟩) (World.block_lt_of_cell? w3 _ hy3)).trans hy3
        have HS := Lib.hid (SameI_any y1 y3 ((R.getD q []).map Int.ofNat) (hl1.mono hbd).cols (hl3.mono hbd).cols)
        have HBD := Lib.hid hbd
        obtain ⟨ay1, cy1, rfl, -⟩ := hl1
        obtain ⟨ay3, cy3, rfl, -⟩ := hl3
        clear hcc1 hcc3 hy1 hy3 hbel hbd
        go_wp2_with fail
        refine wp_region_still_tail 8 (by kernel_rfl) (by kernel_rfl) ?_
        simp only [List.take_succ_cons, List.take_zero, List.drop_succ_cons, List.drop_zero]
        repeat still_step
        refine wpStill_nil ?_
        change wpList _ _ _ _ _ wr.drew
        generalize wr.drew = wq at *
        go_wp2_with fail
        refine HS.out.mono ?_
        rintro e w4 ⟨rfl, hb4⟩
        have HB4 := Lib.hid (HBD.out.trans (hb4.mono HBD.out.size))
        clear hb4 hz1 hz3
        go_wp2
        go_roundw
        case rel => exact ⟨q + 1, by omega, by go_num, HB4.out⟩
        case measure => simp [intOf]; omega
      · have hqn : q = n := by omega
        clear hbel
        go_wp2_with fail
        refine (awake9 _).mono ?_
        rintro e w5 ⟨rfl, hb5⟩
        have HB5 := Lib.hid (HB.out.trans (hb5.mono HB.out.size))
        clear hb5
        go_wp2
        go_ret
        exact ⟨rfl, HB3.out.trans (HB5.out.mono HB3.out.size)⟩
  · have HRO : Hid (∀ V, Calls Tryd.prog 13 #[.agg #[.int .i64 K, .int .i64 S, .int .i64 H, .int .i64 L, .int .i64 P]] V (NoSays 1 nameAll nilS V)) := Lib.hid fun V => All_bad K S H L P hgood hK
    have HRI : Hid (∀ V, Calls Tryd.prog 8 #[.agg #[.int .i64 K, .int .i64 S, .int .i64 H, .int .i64 L, .int .i64 P]] V fun e w' => e = .returned (.bool false) ∧ Below V.heap.size V w') := Lib.hid fun V => rRight_bad K S H L P hgood hK
    clear hgood hK
    unfold parV parC
    go_enter Tryd.func4, Tryd.ntmps4
    go_upto_region 1 with fail
    rw [← HW0.out]
    go_wp2_with fail
    refine (HRO.out _).mono ?_
    rintro e w1 ⟨E1, rfl, hc1, hb1⟩
    have HC1 := Lib.hid hc1
    have HBS := Lib.hid hb1
    have HB1 := Lib.hid (HB0.out.trans (hb1.mono HB0.out.size))
    obtain ⟨u, x, rfl⟩ := hc1.some (by decide)
    clear c0 c1 c2 c3 c4
    obtain ⟨c0, c1, c2, c3, c4⟩ := (HBX.out.mono hb1).cells
    clear hc1 hb1
    go_wp2_with fail
    refine (HRI.out _).mono ?_
    rintro e w2 ⟨rfl, hb2⟩
    have HC2 := Lib.hid (HC1.out.mono hb2)
    have HBS2 := Lib.hid (HBS.out.trans (hb2.mono HBS.out.size))
    have HB2 := Lib.hid (HB1.out.trans (hb2.mono HB1.out.size))
    clear hb2 c0 c1 c2 c3 c4
    go_wp2_with fail
    refine (tells_ans 1 _ _ HC2.out (HG.out.mono HBS2.out)).mono ?_
    rintro e w3 ⟨rfl, hb3⟩
    have HB3 := Lib.hid (HB2.out.trans (hb3.mono HB2.out.size))
    clear hb3
    go_wp2_with fail
    refine (awake9 _).mono ?_
    rintro e w4 ⟨rfl, hb4⟩
    have HB4 := Lib.hid (HB3.out.trans (hb4.mono HB3.out.size))
    clear hb4
    go_wp2
    go_ret
    exact ⟨rfl, HB4.out⟩
end Go.Proofs.YtpnjjbbpcdeooaaDoor
