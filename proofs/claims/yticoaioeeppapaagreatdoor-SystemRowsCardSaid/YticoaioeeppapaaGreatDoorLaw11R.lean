/- The eleventh layer's laws: SystemRows. -/
import Derived.Test.YticoaioeeppapaaGreatDoorG42
import Derived.Test.YticoaioeeppapaaGreatDoorSameM
import Derived.Test.YticoaioeeppapaaGreatDoorG43
namespace Go.Proofs.YticoaioeeppapaaGreatDoor
open Go.RowKit Go.Extern.Stop Go.Stop Go.Extern

set_option maxRecDepth 1000000 in
set_option maxHeartbeats 4000000 in
theorem rows11 {w : World} (K S H L P seed : Int) (v : Value) (es : List Int) (hK : I64 K) (hv : ListAt intV w v es) (hT : DgTab w) (hB : Tab w) (hg : Laid w) :
    Calls Tryz.prog 3 #[parV K S H L P, .int .i64 seed, v] w fun e w' => e = .returned (.bool true) ∧ Below w.heap.size w w' := by
  obtain ⟨w0, hw0, hb0, hbx⟩ := par_laid w K S H L P
  have HW0 := Lib.hid hw0
  have HB0 := Lib.hid hb0
  have HBX := Lib.hid hbx
  obtain ⟨c0, c1, c2, c3, c4⟩ := hbx.cells
  have HT := Lib.hid hT
  have HBT := Lib.hid hB
  have HG := Lib.hid hg
  have HV := Lib.hid hv
  have HAW : Hid (∀ V, Below w.heap.size w V → Calls Tryz.prog 9 #[] V fun e w' => e = .returned (.bool true) ∧ Below V.heap.size V w') := Lib.hid fun V hV => awake11 V (PairsAt.mono hT hV) (hB.mono hV)
  have HKI := Lib.hid hK
  have hlen := hv.len
  obtain ⟨av, cv, rfl, -, -, -⟩ := hv
  obtain ⟨n, hn⟩ : ∃ n, es.length = n := ⟨_, rfl⟩
  have HN := Lib.hid hn
  rw [hn] at hlen HV ⊢
  clear hw0 hb0 hbx hT hB hg hn hK
  by_cases hA : (40 < n ∧ n ≤ 4096) ∨ 40 < K
  · have HD : Hid ((decide ((40 : Int) < (n : Int)) = true ∧ decide ((n : Int) ≤ 4096) = true) ∨ (decide ((40 : Int) < (n : Int)) = false ∧ decide (40 < K) = true) ∨ (decide ((40 : Int) < (n : Int)) = true ∧ decide ((n : Int) ≤ 4096) = false ∧ decide (40 < K) = true)) := Lib.hid (by
      simp only [decide_eq_true_eq, decide_eq_false_iff_not]
      omega)
    have HE : Hid (decide (40 < n) = decide ((40 : Int) < (n : Int)) ∧ decide (n ≤ 4096) = decide ((n : Int) ≤ 4096)) := Lib.hid ⟨decide_eq_decide.2 (by omega), decide_eq_decide.2 (by omega)⟩
    clear hA
    unfold parV parC
    rcases HD.out with ⟨d1, d2⟩ | ⟨d1, d2⟩ | ⟨d1, d2, d3⟩
    all_goals
      obtain ⟨e1, e2⟩ := HE.out
      first
        | rw [d1] at e1
        | skip
      first
        | rw [d2] at e2
        | skip
      go_enter Tryz.func3, Tryz.ntmps3
      go_upto_region 1 with fail
      rw [← HW0.out]
      go_wp2_with fail
      refine (HAW.out _ HB0.out).mono ?_
      rintro e w1 ⟨rfl, hb1⟩
      have HB1 := Lib.hid (HB0.out.trans (hb1.mono HB0.out.size))
      clear hb1 c0 c1 c2 c3 c4
      go_wp2
      go_ret
      exact ⟨rfl, HB1.out⟩
  · have HKL : Hid (K ≤ 40 ∧ (n ≤ 40 ∨ 4096 < n)) := Lib.hid (by omega)
    have d3 : decide (40 < K) = false := decide_eq_false (by omega)
    have HD : Hid (decide ((40 : Int) < (n : Int)) = false ∨ (decide ((40 : Int) < (n : Int)) = true ∧ decide ((n : Int) ≤ 4096) = false)) := Lib.hid (by
      simp only [decide_eq_true_eq, decide_eq_false_iff_not]
      omega)
    have HE : Hid (decide (40 < n) = decide ((40 : Int) < (n : Int)) ∧ decide (n ≤ 4096) = decide ((n : Int) ≤ 4096)) := Lib.hid ⟨decide_eq_decide.2 (by omega), decide_eq_decide.2 (by omega)⟩
    have HCK : Hid (∀ V, Below w.heap.size w V → Calls Tryz.prog 12 #[.agg #[.int .i64 K, .int .i64 S, .int .i64 H, .int .i64 L, .int .i64 P], .int .i64 seed, .slice av n cv] V fun e w' => e = .returned (.int .i64 (checkR K S H L P seed es)) ∧ Below V.heap.size V w') := Lib.hid fun V hV => rCheck_any K S H L P seed _ es HKI.out (HV.out.mono hV)
    clear hA
    by_cases hc : checkR K S H L P seed es = 0
    · obtain ⟨⟨k, s, h, l, p, rfl, rfl, rfl, rfl, rfl, hk1, hk2, hof⟩, hs1, hs2, ⟨ns, rfl, hns⟩, hln⟩ := checkR_zero hc
      have hn40 : ns.length ≤ 40 := by
        have h1 := HN.out
        have h2 := HKL.out.2
        rw [List.length_map] at h1 hln
        omega
      have hnn : n ≤ 40 := by
        have h1 := HN.out
        rw [List.length_map] at h1
        omega
      obtain ⟨sd, rfl⟩ : ∃ sd : Nat, seed = (sd : Int) := ⟨seed.toNat, by omega⟩
      have hsd : sd < 65536 := by omega
      rw [hc] at HCK
      have HVC := Lib.hid HV.out.back
      have HRO : Hid (∀ V, Below w.heap.size w V → Calls Tryz.prog 10 #[.agg #[.int .i64 (k : Int), .int .i64 (s : Int), .int .i64 (h : Int), .int .i64 (l : Int), .int .i64 (p : Int)], .int .i64 (sd : Int), .slice av n cv] V fun e w' => ∃ v', e = .returned (.tuple #[v', .nilIface]) ∧ MatFresh wordV 120 V.heap.size 62 w' v' (packL l (rowsA k s h l p sd ns)) ∧ Below V.heap.size V w') := Lib.hid fun V hV => Rows_ok k s h l p sd _ ns hof hk1 hk2 hsd (HVC.out.mono hV) hns (by omega) (PairsAt.mono HT.out hV)
      have HRA : Hid (∀ V, Below w.heap.size w V → Calls Tryz.prog 11 #[.agg #[.int .i64 (k : Int), .int .i64 (s : Int), .int .i64 (h : Int), .int .i64 (l : Int), .int .i64 (p : Int)], .int .i64 (sd : Int), .slice av n cv] V fun e w' => e = .returned (.tuple #[.int .i64 (rankA k s h l p sd ns : Nat), .nilIface]) ∧ Below V.heap.size V w') := Lib.hid fun V hV => sRank_ok k s h l p sd _ ns hof hk1 hk2 hsd (HVC.out.mono hV) hns (by omega) (PairsAt.mono HT.out hV) (HBT.out.mono hV)
      have HDO : Hid (∀ V, Below w.heap.size w V → Calls Tryz.prog 15 #[.agg #[.int .i64 (k : Int), .int .i64 (s : Int), .int .i64 (h : Int), .int .i64 (l : Int), .int .i64 (p : Int)], .int .i64 (sd : Int), .slice av n cv] V fun e w' => ∃ v', e = .returned v' ∧ MatFresh wordV 120 V.heap.size 62 w' v' (packL l (rowsA k s h l p sd ns)) ∧ Below V.heap.size V w') := Lib.hid fun V hV => r11Rows_any k s h l p sd _ ns hof hk1 hk2 hsd (HVC.out.mono hV) hns (by omega)
      have HDA : Hid (∀ V, Below w.heap.size w V → Calls Tryz.prog 16 #[.agg #[.int .i64 (k : Int), .int .i64 (s : Int), .int .i64 (h : Int), .int .i64 (l : Int), .int .i64 (p : Int)], .int .i64 (sd : Int), .slice av n cv] V fun e w' => e = .returned (.int .i64 (rankA k s h l p sd ns : Nat)) ∧ Below V.heap.size V w') := Lib.hid fun V hV => r11Rank_any k s h l p sd _ ns hof hk1 hk2 hsd (HVC.out.mono hV) hns (by omega)
      have d1 : decide ((40 : Int) < (n : Int)) = false := decide_eq_false (by omega)
      have d4 : decide (40 < n) = false := decide_eq_false (by omega)
      generalize rankA k s h l p sd ns = q at *
      generalize packL l (rowsA k s h l p sd ns) = M at *
      have hqq : ((q : Int) == (q : Int)) = true := by simp
      clear hof hk1 hk2 hsd hns hln hs1 hs2 hc HD HE hn40 hlen
      unfold parV parC
      go_enter Tryz.func3, Tryz.ntmps3
      go_upto_region 1 with fail
      rw [← HW0.out]
      go_wp2_with fail
      refine (HRO.out _ HB0.out).mono ?_
      rintro e w1 ⟨v1, rfl, hm1, hb1⟩
      have HM1 := Lib.hid hm1.own.at
      have HX1 := Lib.hid (HBX.out.mono hb1)
      have HB1 := Lib.hid (HB0.out.trans (hb1.mono HB0.out.size))
      clear hm1 hb1 c0 c1 c2 c3 c4
      obtain ⟨c0, c1, c2, c3, c4⟩ := HX1.out.cells
      go_wp2_with fail
      refine (HRA.out _ HB1.out).mono ?_
      rintro e w2 ⟨rfl, hb2⟩
      have HM2 := Lib.hid (HM1.out.mono hb2)
      have HX2 := Lib.hid (HX1.out.mono hb2)
      have HB2 := Lib.hid (HB1.out.trans (hb2.mono HB1.out.size))
      clear hb2 c0 c1 c2 c3 c4
      obtain ⟨c0, c1, c2, c3, c4⟩ := HX2.out.cells
      go_wp2_with fail
      refine (HCK.out _ HB2.out).mono ?_
      rintro e w3 ⟨rfl, hb3⟩
      have HM3 := Lib.hid (HM2.out.mono hb3)
      have HX3 := Lib.hid (HX2.out.mono hb3)
      have HB3 := Lib.hid (HB2.out.trans (hb3.mono HB2.out.size))
      clear hb3 c0 c1 c2 c3 c4
      obtain ⟨c0, c1, c2, c3, c4⟩ := HX3.out.cells
      go_wp2_with fail
      refine (tells_nil nameSRows).mono ?_
      rintro e w4 ⟨rfl, rfl⟩
      go_wp2_with fail
      refine (tells_nil nameSRank).mono ?_
      rintro e w4 ⟨rfl, rfl⟩
      go_wp2_with fail
      refine (HDO.out _ HB3.out).mono ?_
      rintro e w4 ⟨v4, rfl, hm4, hb4⟩
      have HSM := Lib.hid (refSame_any v1 v4 M (HM3.out.mono hb4) hm4.own.at)
      have HX4 := Lib.hid (HX3.out.mono hb4)
      have HB4 := Lib.hid (HB3.out.trans (hb4.mono HB3.out.size))
      clear hm4 hb4 c0 c1 c2 c3 c4
      obtain ⟨c0, c1, c2, c3, c4⟩ := HX4.out.cells
      go_wp2_with fail
      refine HSM.out.mono ?_
      rintro e w5 ⟨rfl, hb5⟩
      have HX5 := Lib.hid (HX4.out.mono hb5)
      have HB5 := Lib.hid (HB4.out.trans (hb5.mono HB4.out.size))
      clear hb5 c0 c1 c2 c3 c4
      obtain ⟨c0, c1, c2, c3, c4⟩ := HX5.out.cells
      go_wp2_with fail
      refine (HDA.out _ HB5.out).mono ?_
      rintro e w6 ⟨rfl, hb6⟩
      have HB6 := Lib.hid (HB5.out.trans (hb6.mono HB5.out.size))
      clear hb6 c0 c1 c2 c3 c4
      go_wp2_with fail
      refine (HAW.out _ HB6.out).mono ?_
      rintro e w7 ⟨rfl, hb7⟩
      have HB7 := Lib.hid (HB6.out.trans (hb7.mono HB6.out.size))
      clear hb7
      go_wp2
      go_ret
      exact ⟨rfl, HB7.out⟩
    · have HRO : Hid (∀ V, Below w.heap.size w V → Calls Tryz.prog 10 #[.agg #[.int .i64 K, .int .i64 S, .int .i64 H, .int .i64 L, .int .i64 P], .int .i64 seed, .slice av n cv] V (NoSays (checkR K S H L P seed es) nameSRows nilS V)) := Lib.hid fun V hV => Rows_no K S H L P seed _ es HKI.out (HV.out.mono hV) (PairsAt.mono HT.out hV) hc
      have HRA : Hid (∀ V, Below w.heap.size w V → Calls Tryz.prog 11 #[.agg #[.int .i64 K, .int .i64 S, .int .i64 H, .int .i64 L, .int .i64 P], .int .i64 seed, .slice av n cv] V (NoSays (checkR K S H L P seed es) nameSRank (.int .i64 0) V)) := Lib.hid fun V hV => sRank_no K S H L P seed _ es HKI.out (HV.out.mono hV) (PairsAt.mono HT.out hV) hc
      generalize checkR K S H L P seed es = c at *
      have hcn : (c != 0) = true := by simpa using hc
      have hce : (c == 0) = false := by simpa using hc
      have HCN := Lib.hid hc
      clear hc
      unfold parV parC
      rcases HD.out with d1 | ⟨d1, d2⟩
      all_goals
        obtain ⟨e1, e2⟩ := HE.out
        rw [d1] at e1
        first
          | rw [d2] at e2
          | skip
        go_enter Tryz.func3, Tryz.ntmps3
        go_upto_region 1 with fail
        rw [← HW0.out]
        go_wp2_with fail
        refine (HRO.out _ HB0.out).mono ?_
        rintro e w1 ⟨E1, rfl, he1, hb1⟩
        have HE1 := Lib.hid he1
        have HX1 := Lib.hid (HBX.out.mono hb1)
        have HB1 := Lib.hid (HB0.out.trans (hb1.mono HB0.out.size))
        clear he1 hb1 c0 c1 c2 c3 c4
        obtain ⟨c0, c1, c2, c3, c4⟩ := HX1.out.cells
        go_wp2_with fail
        refine (HRA.out _ HB1.out).mono ?_
        rintro e w2 ⟨E2, rfl, he2, hb2⟩
        have HE2 := Lib.hid he2
        have HE12 := Lib.hid (HE1.out.mono hb2)
        have HX2 := Lib.hid (HX1.out.mono hb2)
        have HB2 := Lib.hid (HB1.out.trans (hb2.mono HB1.out.size))
        clear he2 hb2 c0 c1 c2 c3 c4
        obtain ⟨c0, c1, c2, c3, c4⟩ := HX2.out.cells
        go_wp2_with fail
        refine (HCK.out _ HB2.out).mono ?_
        rintro e w3 ⟨rfl, hb3⟩
        have HE13 := Lib.hid (HE12.out.mono hb3)
        have HE23 := Lib.hid (HE2.out.mono hb3)
        have HB3 := Lib.hid (HB2.out.trans (hb3.mono HB2.out.size))
        clear hb3 c0 c1 c2 c3 c4
        go_wp2_with fail
        refine (tells_ans _ nameSRows _ HE13.out (HG.out.mono HB3.out)).mono ?_
        rintro e w4 ⟨rfl, hb4⟩
        have HE24 := Lib.hid (HE23.out.mono hb4)
        have HB4 := Lib.hid (HB3.out.trans (hb4.mono HB3.out.size))
        clear hb4
        go_wp2_with fail
        refine (tells_ans _ nameSRank _ HE24.out (HG.out.mono HB4.out)).mono ?_
        rintro e w5 ⟨rfl, hb5⟩
        have HB5 := Lib.hid (HB4.out.trans (hb5.mono HB4.out.size))
        clear hb5
        go_wp2_with fail
        refine (HAW.out _ HB5.out).mono ?_
        rintro e w6 ⟨rfl, hb6⟩
        have HB6 := Lib.hid (HB5.out.trans (hb6.mono HB5.out.size))
        clear hb6
        go_wp2
        go_ret
        exact ⟨rfl, HB6.out⟩
end Go.Proofs.YticoaioeeppapaaGreatDoor
