/- The eleventh layer's laws: a block of source symbols that came in; SystemRefuses. -/
import Derived.Test.YticoaioeeppapaaGreatDoorG42
import Derived.Test.YticoaioeeppapaaGreatDoorG44
namespace Go.Proofs.YticoaioeeppapaaGreatDoor
open Go.RowKit Go.Extern.Stop Go.Stop Go.Extern

/-- A block of source symbols in memory of its own. -/
def BlkBox (W : World) (g : Nat) (n : Int) (v : Value) : Prop := W.heap[g]? = some (.cells #[.int .i64 n, v] 46 (0, 0))
theorem BlkBox.lt {W : World} {g : Nat} {n : Int} {v : Value} (b : BlkBox W g n v) : g < W.heap.size := (Array.getElem?_eq_some_iff.1 b).1
theorem BlkBox.mono {W W' : World} {g : Nat} {n : Int} {v : Value} (b : BlkBox W g n v) (hb : Below W.heap.size W W') : BlkBox W' g n v := (hb.block g b.lt).trans b
theorem BlkBox.cells {W : World} {g : Nat} {n : Int} {v : Value} (b : BlkBox W g n v) : W.cell? ⟨g, 0, none⟩ = some (.int .i64 n) ∧ W.cell? ⟨g, 1, none⟩ = some v := ⟨cell_of_heap b rfl, cell_of_heap b rfl⟩
theorem blk_laid (w : World) (n : Int) (v : Value) : ∃ W, W = w.alloc (.cells #[.int .i64 n, v] 46) ∧ Below w.heap.size w W ∧ BlkBox W w.heap.size n v :=
  ⟨_, rfl, (Below.refl _ _).alloc (Nat.le_refl _) _, heap_alloc_new w _⟩
theorem checkR_nil {K S H L P seed : Int} (h : checkR K S H L P seed [] ≠ 0) : checkR K S H L P seed [] = 1 := by
  unfold checkR at h ⊢
  by_cases h1 : ¬ Good K S H L P ∨ seed < 0 ∨ 65535 < seed
  · exact if_pos h1
  · rw [if_neg h1] at h
    simp at h
theorem checkS_two {L : List (List Nat)} {k m : Nat} (h1 : 1 ≤ m) (h2 : m ≤ 64) (hk : L.length = k) (hf : formedB L k m = false) : checkS L (m : Int) = 2 := by
  unfold formedB at hf
  rw [decide_eq_true (by omega), Bool.true_and] at hf
  unfold checkS
  rw [if_neg (by omega), hf]
  rfl

set_option maxRecDepth 1000000 in
set_option maxHeartbeats 4000000 in
theorem refuses11 {w : World} (K S H L P seed n : Int) (v : Value) (M : List (List Nat)) (hK : I64 K) (hv : MatAt byteV w v M) (ho : ∀ r ∈ M, Octets r) (hT : DgTab w) (hB : Tab w) (hg : Laid w) :
    Calls Tryz.prog 8 #[parV K S H L P, .int .i64 seed, .agg #[.int .i64 n, v]] w fun e w' => e = .returned (.bool true) ∧ Below w.heap.size w w' := by
  obtain ⟨w0, hw0, hb0, hbx⟩ := par_laid w K S H L P
  obtain ⟨w1, hw1, hb1, hby⟩ := blk_laid w0 n v
  have hs0 : w0.heap.size = w.heap.size + 1 := by rw [hw0]; simp
  have HW0 := Lib.hid hw0
  have HW1 := Lib.hid hw1
  have HB1 := Lib.hid (hb0.trans (hb1.mono hb0.size))
  rw [hs0] at hby
  have HBX := Lib.hid (hbx.mono hb1)
  have HBY := Lib.hid hby
  obtain ⟨c0, c1, c2, c3, c4⟩ := HBX.out.cells
  obtain ⟨y0, y1⟩ := HBY.out.cells
  have HT := Lib.hid hT
  have HBT := Lib.hid hB
  have HG := Lib.hid hg
  have HM := Lib.hid hv
  have HO := Lib.hid ho
  have HKI := Lib.hid hK
  have HAW : Hid (∀ V, Below w.heap.size w V → Calls Tryz.prog 9 #[] V fun e w' => e = .returned (.bool true) ∧ Below V.heap.size V w') := Lib.hid fun V hV => awake11 V (PairsAt.mono hT hV) (hB.mono hV)
  have HCK : Hid (∀ V, Calls Tryz.prog 12 #[.agg #[.int .i64 K, .int .i64 S, .int .i64 H, .int .i64 L, .int .i64 P], .int .i64 seed, .slice none 0 0] V fun e w' => e = .returned (.int .i64 (checkR K S H L P seed [])) ∧ Below V.heap.size V w') := Lib.hid fun V => rCheck_any K S H L P seed _ [] hK (ListAt.nil _ _)
  have hml := hv.len
  obtain ⟨av, cv, rfl, -, -, -⟩ := hv.opens
  obtain ⟨q, hq⟩ : ∃ q, M.length = q := ⟨_, rfl⟩
  have HQ := Lib.hid hq
  rw [hq] at hml HM HW1 HBY y1 ⊢
  clear hw0 hw1 hb0 hb1 hbx hby hs0 hT hB hg hv ho hK hq
  by_cases hA : 20 < K ∧ K ≤ 128
  · have d1 : decide (20 < K) = true := decide_eq_true hA.1
    have d2 : decide (K ≤ 128) = true := decide_eq_true hA.2
    clear hA
    unfold parV parC
    go_enter Tryz.func8, Tryz.ntmps8
    go_upto_region 1 with fail
    rw [← HW0.out, ← HW1.out]
    go_wp2_with fail
    refine (HAW.out _ HB1.out).mono ?_
    rintro e wz ⟨rfl, hbz⟩
    have HBZ := Lib.hid (HB1.out.trans (hbz.mono HB1.out.size))
    clear hbz
    go_wp2
    go_ret
    exact ⟨rfl, HBZ.out⟩
  · by_cases hc : checkR K S H L P seed [] = 0
    · obtain ⟨⟨k, s, h, l, p, rfl, rfl, rfl, rfl, rfl, hk1, hk2, hof⟩, hs1, hs2, -, -⟩ := checkR_zero hc
      obtain ⟨sd, rfl⟩ : ∃ sd : Nat, seed = (sd : Int) := ⟨seed.toNat, by omega⟩
      have hsd : sd < 65536 := by omega
      have hk20 : k ≤ 20 := by omega
      have d1 : decide (20 < (k : Int)) = false := decide_eq_false (by omega)
      have d1n : decide (20 < k) = false := decide_eq_false (by omega)
      rw [hc] at HCK
      clear hc hs1 hs2 hA
      by_cases hz : n < 1 ∨ 64 < n
      · have HMS : Hid (Calls Tryz.prog 23 #[.agg #[.int .i64 (k : Int), .int .i64 (s : Int), .int .i64 (h : Int), .int .i64 (l : Int), .int .i64 (p : Int)], .int .i64 (sd : Int), .slice av q cv, .int .i64 n] w1 (NoSays 1 nameSMiddle nilS w1)) := Lib.hid (Middle_size k s h l p sd _ M n hof hk1 hk2 hsd (HM.out.mono HB1.out) (PairsAt.mono HT.out HB1.out) hz)
        have HD : Hid (decide (n < 1) = true ∨ (decide (n < 1) = false ∧ decide (64 < n) = true)) := Lib.hid (by
          simp only [decide_eq_true_eq, decide_eq_false_iff_not]
          omega)
        clear hof hk1 hk2 hsd hz
        unfold parV parC
        rcases HD.out with e1 | ⟨e1, e2⟩
        all_goals
          go_enter Tryz.func8, Tryz.ntmps8
          go_upto_region 1 with fail
          rw [← HW0.out, ← HW1.out]
          go_wp2_with fail
          refine (HMS.out).mono ?_
          rintro e w2 ⟨E2, rfl, he2, hb2⟩
          have HX2 := Lib.hid (HBX.out.mono hb2)
          have HY2 := Lib.hid (HBY.out.mono hb2)
          have HB2 := Lib.hid (HB1.out.trans (hb2.mono HB1.out.size))
          have HE2 := Lib.hid he2
          obtain ⟨u2, x2, rfl⟩ := he2.some (by decide)
          clear he2 hb2
          clear c0 c1 c2 c3 c4 y0 y1
          obtain ⟨c0, c1, c2, c3, c4⟩ := HX2.out.cells
          obtain ⟨y0, y1⟩ := HY2.out.cells
          go_wp2_with fail
          refine (HCK.out _).mono ?_
          rintro e w3 ⟨rfl, hb3⟩
          have HX3 := Lib.hid (HX2.out.mono hb3)
          have HY3 := Lib.hid (HY2.out.mono hb3)
          have HB3 := Lib.hid (HB2.out.trans (hb3.mono HB2.out.size))
          have HE3 := Lib.hid (HE2.out.mono hb3)
          clear hb3
          clear c0 c1 c2 c3 c4 y0 y1
          obtain ⟨c0, c1, c2, c3, c4⟩ := HX3.out.cells
          obtain ⟨y0, y1⟩ := HY3.out.cells
          go_wp2_with fail
          go_quiet (fail)
          go_wp2_with fail
          refine (tells_ans 1 nameSMiddle _ (HE3.out.mono (below_draws (Below.refl _ _) _)) (HG.out.mono (below_draws HB3.out _))).mono ?_
          rintro e w5 ⟨rfl, hb5⟩
          have HB5 := Lib.hid ((below_draws HB3.out _).trans (hb5.mono (below_draws HB3.out _).size))
          clear hb5
          go_wp2_with fail
          refine (HAW.out _ HB5.out).mono ?_
          rintro e wz ⟨rfl, hbz⟩
          have HBZ := Lib.hid (HB5.out.trans (hbz.mono HB5.out.size))
          clear hbz
          go_wp2
          go_ret
          exact ⟨rfl, HBZ.out⟩
      · obtain ⟨m, rfl⟩ : ∃ m : Nat, n = (m : Int) := ⟨n.toNat, by omega⟩
        have hm1 : 1 ≤ m := by omega
        have hm2 : m ≤ 64 := by omega
        have e1 : decide ((m : Int) < 1) = false := decide_eq_false (by omega)
        have e2 : decide (64 < (m : Int)) = false := decide_eq_false (by omega)
        have e2n : decide (64 < m) = false := decide_eq_false (by omega)
        have HMO : Hid (Calls Tryz.prog 23 #[.agg #[.int .i64 (k : Int), .int .i64 (s : Int), .int .i64 (h : Int), .int .i64 (l : Int), .int .i64 (p : Int)], .int .i64 (sd : Int), .slice av q cv, .int .i64 (m : Int)] w1 (MidSays k s h l p sd m M w1)) := Lib.hid (Middle_ok k s h l p sd m _ M hof hk1 hk2 hsd hm1 hm2 (HM.out.mono HB1.out) HO.out (PairsAt.mono HT.out HB1.out) (HBT.out.mono HB1.out))
        have HSC : Hid (∀ V, Below w.heap.size w V → Calls Tryz.prog 27 #[.slice av q cv, .int .i64 (m : Int)] V fun e w' => e = .returned (.int .i64 (checkS M m)) ∧ V = w') := Lib.hid fun V hV => sCheck_any _ M (m : Int) (HM.out.mono hV) ⟨by omega, by omega⟩
        have HFI : Hid (∀ V, Calls Tryz.prog 20 #[.int .i64 (k : Int)] V fun e w' => ∃ v, e = .returned v ∧ ListAt colV w' v (List.range k) ∧ Below V.heap.size V w') := Lib.hid fun V => r11First_any k (by omega)
        have HRK : Hid (∀ (V : World) (v : Value), ListAt colV V v (List.range k) → Calls Tryz.prog 16 #[.agg #[.int .i64 (k : Int), .int .i64 (s : Int), .int .i64 (h : Int), .int .i64 (l : Int), .int .i64 (p : Int)], .int .i64 (sd : Int), v] V fun e w' => e = .returned (.int .i64 (rankA k s h l p sd (List.range k) : Nat)) ∧ Below V.heap.size V w') := Lib.hid fun V v hv => r11Rank_any k s h l p sd v (List.range k) hof hk1 hk2 hsd hv (range_lt k (by omega)) (by rw [List.length_range]; omega)
        have HRL : Hid (rankA k s h l p sd (List.range k) ≤ l) := Lib.hid (by
          have h1 := rank_le k s h l p sd (List.range k)
          have h2 := hof.2.2.1
          rw [List.length_range] at h1
          omega)
        have HHO : Hid (∀ (V : World) (v2 : Value) (Z : List (List Nat)), Below w.heap.size w V → M.length = k → (∀ r ∈ M, r.length = m ∧ Octets r) → MatAt byteV V v2 Z → Tells l m (sysE k s h l p sd m (fun t => M.getD t []) k) Z → Cons l (sysE k s h l p sd m (fun t => M.getD t []) k) → Calls Tryz.prog 25 #[.agg #[.int .i64 (k : Int), .int .i64 (s : Int), .int .i64 (h : Int), .int .i64 (l : Int), .int .i64 (p : Int)], .int .i64 (sd : Int), .slice av q cv, .int .i64 (m : Int), v2] V fun e w' => e = .returned (.bool true) ∧ Below V.heap.size V w') := Lib.hid fun V v2 Z hV hk hr hz ht hc => Holds_any k s h l p sd m _ v2 M Z hof hk1 hk2 hsd hm1 hm2 (HM.out.mono hV) hk hz ht.1 ht.row (tells_want hof.2.2.1 ht hc hk hr)
        clear hof hk1 hk2 hsd hz
        unfold parV parC
        cases hfb : formedB M k m with
        | false =>
          have HMF : Hid (Calls Tryz.prog 23 #[.agg #[.int .i64 (k : Int), .int .i64 (s : Int), .int .i64 (h : Int), .int .i64 (l : Int), .int .i64 (p : Int)], .int .i64 (sd : Int), .slice av q cv, .int .i64 (m : Int)] w1 (NoSays 2 nameSMiddle nilS w1)) := Lib.hid (by
            refine HMO.out.mono ?_
            rintro e w' (⟨h1, -⟩ | ⟨h1, -⟩ | ⟨-, h2⟩)
            · rw [hfb] at h1; cases h1
            · rw [hfb] at h1; cases h1
            · exact h2)
          by_cases hqk : q = k
          · have HS2 : Hid (checkS M (m : Int) = 2) := Lib.hid (checkS_two hm1 hm2 (by rw [HQ.out]; exact hqk) hfb)
            have f1 : ((q : Int) == (k : Int)) = true := by rw [beq_iff_eq]; omega
            have f2 : ((q : Int) != (k : Int)) = false := by rw [bne_eq_false_iff_eq]; omega
            clear hfb hqk hm1 hm2
            go_enter Tryz.func8, Tryz.ntmps8
            go_upto_region 1 with fail
            rw [← HW0.out, ← HW1.out]
            go_wp2_with fail
            refine (HMF.out).mono ?_
            rintro e w2 ⟨E2, rfl, he2, hb2⟩
            have HX2 := Lib.hid (HBX.out.mono hb2)
            have HY2 := Lib.hid (HBY.out.mono hb2)
            have HB2 := Lib.hid (HB1.out.trans (hb2.mono HB1.out.size))
            have HE2 := Lib.hid he2
            obtain ⟨u2, x2, rfl⟩ := he2.some (by decide)
            clear he2 hb2
            clear c0 c1 c2 c3 c4 y0 y1
            obtain ⟨c0, c1, c2, c3, c4⟩ := HX2.out.cells
            obtain ⟨y0, y1⟩ := HY2.out.cells
            go_wp2_with fail
            refine (HCK.out _).mono ?_
            rintro e w3 ⟨rfl, hb3⟩
            have HX3 := Lib.hid (HX2.out.mono hb3)
            have HY3 := Lib.hid (HY2.out.mono hb3)
            have HB3 := Lib.hid (HB2.out.trans (hb3.mono HB2.out.size))
            have HE3 := Lib.hid (HE2.out.mono hb3)
            clear hb3
            clear c0 c1 c2 c3 c4 y0 y1
            obtain ⟨c0, c1, c2, c3, c4⟩ := HX3.out.cells
            obtain ⟨y0, y1⟩ := HY3.out.cells
            go_wp2_with fail
            refine (HSC.out _ HB3.out).mono ?_
            rintro e w4 ⟨rfl, rfl⟩
            rw [HS2.out]
            go_wp2_with fail
            go_quiet (fail)
            go_wp2_with fail
            refine (tells_ans 2 nameSMiddle _ (HE3.out.mono (below_draws (Below.refl _ _) _)) (HG.out.mono (below_draws HB3.out _))).mono ?_
            rintro e w5 ⟨rfl, hb5⟩
            have HB5 := Lib.hid ((below_draws HB3.out _).trans (hb5.mono (below_draws HB3.out _).size))
            clear hb5
            go_wp2_with fail
            refine (HAW.out _ HB5.out).mono ?_
            rintro e wz ⟨rfl, hbz⟩
            have HBZ := Lib.hid (HB5.out.trans (hbz.mono HB5.out.size))
            clear hbz
            go_wp2
            go_ret
            exact ⟨rfl, HBZ.out⟩
          · have f1 : ((q : Int) == (k : Int)) = false := by rw [beq_eq_false_iff_ne]; omega
            have f2 : ((q : Int) != (k : Int)) = true := by rw [bne_iff_ne]; omega
            clear hfb hqk hm1 hm2
            go_enter Tryz.func8, Tryz.ntmps8
            go_upto_region 1 with fail
            rw [← HW0.out, ← HW1.out]
            go_wp2_with fail
            refine (HMF.out).mono ?_
            rintro e w2 ⟨E2, rfl, he2, hb2⟩
            have HX2 := Lib.hid (HBX.out.mono hb2)
            have HY2 := Lib.hid (HBY.out.mono hb2)
            have HB2 := Lib.hid (HB1.out.trans (hb2.mono HB1.out.size))
            have HE2 := Lib.hid he2
            obtain ⟨u2, x2, rfl⟩ := he2.some (by decide)
            clear he2 hb2
            clear c0 c1 c2 c3 c4 y0 y1
            obtain ⟨c0, c1, c2, c3, c4⟩ := HX2.out.cells
            obtain ⟨y0, y1⟩ := HY2.out.cells
            go_wp2_with fail
            refine (HCK.out _).mono ?_
            rintro e w3 ⟨rfl, hb3⟩
            have HX3 := Lib.hid (HX2.out.mono hb3)
            have HY3 := Lib.hid (HY2.out.mono hb3)
            have HB3 := Lib.hid (HB2.out.trans (hb3.mono HB2.out.size))
            have HE3 := Lib.hid (HE2.out.mono hb3)
            clear hb3
            clear c0 c1 c2 c3 c4 y0 y1
            obtain ⟨c0, c1, c2, c3, c4⟩ := HX3.out.cells
            obtain ⟨y0, y1⟩ := HY3.out.cells
            go_wp2_with fail
            go_quiet (fail)
            go_wp2_with fail
            refine (tells_ans 2 nameSMiddle _ (HE3.out.mono (below_draws (Below.refl _ _) _)) (HG.out.mono (below_draws HB3.out _))).mono ?_
            rintro e w5 ⟨rfl, hb5⟩
            have HB5 := Lib.hid ((below_draws HB3.out _).trans (hb5.mono (below_draws HB3.out _).size))
            clear hb5
            go_wp2_with fail
            refine (HAW.out _ HB5.out).mono ?_
            rintro e wz ⟨rfl, hbz⟩
            have HBZ := Lib.hid (HB5.out.trans (hbz.mono HB5.out.size))
            clear hbz
            go_wp2
            go_ret
            exact ⟨rfl, HBZ.out⟩
        | true =>
          have hqk : q = k := by
            have := (formedB_yes hfb).1
            have := HQ.out
            omega
          have HLR : Hid (∀ r ∈ M, r.length = m ∧ Octets r) := Lib.hid fun r hr => ⟨by have := (formedB_yes hfb).2 r hr; omega, HO.out r hr⟩
          have HS0 : Hid (checkS M (m : Int) = 0) := Lib.hid (checkS_ok hm1 hm2 fun r hr => (HLR.out r hr).1)
          have HMK : Hid (M.length = k) := Lib.hid (by rw [HQ.out]; exact hqk)
          have f1 : ((q : Int) == (k : Int)) = true := by rw [beq_iff_eq]; omega
          have f2 : ((q : Int) != (k : Int)) = false := by rw [bne_eq_false_iff_eq]; omega
          by_cases hrk : rankA k s h l p sd (List.range k) = l
          · have HMF : Hid (Calls Tryz.prog 23 #[.agg #[.int .i64 (k : Int), .int .i64 (s : Int), .int .i64 (h : Int), .int .i64 (l : Int), .int .i64 (p : Int)], .int .i64 (sd : Int), .slice av q cv, .int .i64 (m : Int)] w1 fun e w' => ∃ v V, e = .returned (.tuple #[v, .nilIface]) ∧ MatFresh byteV 5 w1.heap.size 52 w' v V ∧ Tells l m (sysE k s h l p sd m (fun t => M.getD t []) k) V ∧ Cons l (sysE k s h l p sd m (fun t => M.getD t []) k) ∧ Below w1.heap.size w1 w') := Lib.hid (by
              refine HMO.out.mono ?_
              rintro e w' (⟨-, -, h3⟩ | ⟨-, h2, -⟩ | ⟨h1, -⟩)
              · exact h3
              · exact absurd hrk h2
              · rw [hfb] at h1; cases h1)
            rw [hrk] at HRK
            have g1 : decide ((l : Int) < (l : Int)) = false := decide_eq_false (by omega)
            clear hfb hqk hm1 hm2 hrk
            go_enter Tryz.func8, Tryz.ntmps8
            go_upto_region 1 with fail
            rw [← HW0.out, ← HW1.out]
            go_wp2_with fail
            refine HMF.out.mono ?_
            rintro e w2 ⟨v2, V, rfl, hm2, ht2, hc2, hb2⟩
            have HM2 := Lib.hid hm2.own.at
            have HTL := Lib.hid ht2
            have HCO := Lib.hid hc2
            have HX2 := Lib.hid (HBX.out.mono hb2)
            have HY2 := Lib.hid (HBY.out.mono hb2)
            have HB2 := Lib.hid (HB1.out.trans (hb2.mono HB1.out.size))
            obtain ⟨a2, q2, rfl, -, -, -⟩ := hm2.own.at.opens
            clear hm2 ht2 hc2 hb2
            clear c0 c1 c2 c3 c4 y0 y1
            obtain ⟨c0, c1, c2, c3, c4⟩ := HX2.out.cells
            obtain ⟨y0, y1⟩ := HY2.out.cells
            go_wp2_with fail
            refine (HCK.out _).mono ?_
            rintro e w3 ⟨rfl, hb3⟩
            have HX3 := Lib.hid (HX2.out.mono hb3)
            have HY3 := Lib.hid (HY2.out.mono hb3)
            have HB3 := Lib.hid (HB2.out.trans (hb3.mono HB2.out.size))
            have HM3 := Lib.hid (HM2.out.mono hb3)
            clear hb3
            clear c0 c1 c2 c3 c4 y0 y1
            obtain ⟨c0, c1, c2, c3, c4⟩ := HX3.out.cells
            obtain ⟨y0, y1⟩ := HY3.out.cells
            go_wp2_with fail
            refine (HSC.out _ HB3.out).mono ?_
            rintro e w4 ⟨rfl, rfl⟩
            rw [HS0.out]
            go_wp2_with fail
            have hd3 : Below w3.heap.size w3 w3.drew := (Below.refl _ _).drew
            have HD3 := Lib.hid hd3
            have HSAT : Hid (∀ V, Below w3.drew.heap.size w3.drew V → V.cell? ⟨w.heap.size, 0, none⟩ = some (.int .i64 (k : Int)) ∧ V.cell? ⟨w.heap.size, 1, none⟩ = some (.int .i64 (s : Int)) ∧ V.cell? ⟨w.heap.size, 2, none⟩ = some (.int .i64 (h : Int)) ∧ V.cell? ⟨w.heap.size, 3, none⟩ = some (.int .i64 (l : Int)) ∧ V.cell? ⟨w.heap.size, 4, none⟩ = some (.int .i64 (p : Int))) := Lib.hid fun V hV => ((HX3.out.mono hd3).mono hV).cells
            have HSD0 := Lib.hid (HSAT.out w3.drew (Below.refl _ _))
            clear hd3 c0 c1 c2 c3 c4 y0 y1
            go_region_held3 (fun w' => w'.cell? ⟨w.heap.size, 0, none⟩ = some (.int .i64 (k : Int)) ∧ w'.cell? ⟨w.heap.size, 1, none⟩ = some (.int .i64 (s : Int)) ∧ w'.cell? ⟨w.heap.size, 2, none⟩ = some (.int .i64 (h : Int)) ∧ w'.cell? ⟨w.heap.size, 3, none⟩ = some (.int .i64 (l : Int)) ∧ w'.cell? ⟨w.heap.size, 4, none⟩ = some (.int .i64 (p : Int)))
              (first | exact HSD0.out | exact HSAT.out _ HB7.out | exact HSAT.out _ HB6.out | go_keep)
              (first
              | (go_at_call 20; (with_reducible refine (HFI.out _).mono ?_); rintro e w6 ⟨v6, rfl, hl6, hb6⟩; have HB6 := Lib.hid hb6; have HR6 := Lib.hid (HRK.out w6 v6 hl6); clear hl6 hb6)
              | (go_at_call 16; (with_reducible refine HR6.out.mono ?_); rintro e w7 ⟨rfl, hb7⟩; have HB7 := Lib.hid (HB6.out.trans (hb7.mono HB6.out.size)); clear hb7))
            all_goals
              have hb73 := HD3.out.trans (HB7.out.mono HD3.out.size)
              have HB8 := Lib.hid (HB3.out.trans (hb73.mono HB3.out.size))
              have HX8 := Lib.hid (HX3.out.mono hb73)
              have HY8 := Lib.hid (HY3.out.mono hb73)
              have HHL := Lib.hid (HHO.out w7 _ V HB8.out HMK.out HLR.out (HM3.out.mono hb73) HTL.out HCO.out)
              clear hb73
              obtain ⟨c0, c1, c2, c3, c4⟩ := HX8.out.cells
              obtain ⟨y0, y1⟩ := HY8.out.cells
              go_wp2_with fail
              refine (tells_nil nameSMiddle).mono ?_
              rintro e w9 ⟨rfl, rfl⟩
              go_wp2_with fail
              refine HHL.out.mono ?_
              rintro e w9 ⟨rfl, hb9⟩
              have HB9 := Lib.hid (HB8.out.trans (hb9.mono HB8.out.size))
              clear hb9 c0 c1 c2 c3 c4 y0 y1
              go_wp2_with fail
              refine (HAW.out _ HB9.out).mono ?_
              rintro e wz ⟨rfl, hbz⟩
              have HBZ := Lib.hid (HB9.out.trans (hbz.mono HB9.out.size))
              clear hbz
              go_wp2
              go_ret
              exact ⟨rfl, HBZ.out⟩
          · have HMF : Hid (Calls Tryz.prog 23 #[.agg #[.int .i64 (k : Int), .int .i64 (s : Int), .int .i64 (h : Int), .int .i64 (l : Int), .int .i64 (p : Int)], .int .i64 (sd : Int), .slice av q cv, .int .i64 (m : Int)] w1 (NoSays 4 nameSMiddle nilS w1)) := Lib.hid (by
              refine HMO.out.mono ?_
              rintro e w' (⟨-, h2, -⟩ | ⟨-, -, h3⟩ | ⟨h1, -⟩)
              · exact absurd h2 hrk
              · exact h3
              · rw [hfb] at h1; cases h1)
            have hrl := HRL.out
            generalize rankA k s h l p sd (List.range k) = rk at *
            have g1 : decide ((rk : Int) < (l : Int)) = true := decide_eq_true (by omega)
            have g2 : decide (rk < l) = true := decide_eq_true (by omega)
            clear hfb hqk hm1 hm2 hrk hrl HRL
            go_enter Tryz.func8, Tryz.ntmps8
            go_upto_region 1 with fail
            rw [← HW0.out, ← HW1.out]
            go_wp2_with fail
            refine (HMF.out).mono ?_
            rintro e w2 ⟨E2, rfl, he2, hb2⟩
            have HX2 := Lib.hid (HBX.out.mono hb2)
            have HY2 := Lib.hid (HBY.out.mono hb2)
            have HB2 := Lib.hid (HB1.out.trans (hb2.mono HB1.out.size))
            have HE2 := Lib.hid he2
            obtain ⟨u2, x2, rfl⟩ := he2.some (by decide)
            clear he2 hb2
            clear c0 c1 c2 c3 c4 y0 y1
            obtain ⟨c0, c1, c2, c3, c4⟩ := HX2.out.cells
            obtain ⟨y0, y1⟩ := HY2.out.cells
            go_wp2_with fail
            refine (HCK.out _).mono ?_
            rintro e w3 ⟨rfl, hb3⟩
            have HX3 := Lib.hid (HX2.out.mono hb3)
            have HY3 := Lib.hid (HY2.out.mono hb3)
            have HB3 := Lib.hid (HB2.out.trans (hb3.mono HB2.out.size))
            have HE3 := Lib.hid (HE2.out.mono hb3)
            clear hb3
            clear c0 c1 c2 c3 c4 y0 y1
            obtain ⟨c0, c1, c2, c3, c4⟩ := HX3.out.cells
            obtain ⟨y0, y1⟩ := HY3.out.cells
            go_wp2_with fail
            refine (HSC.out _ HB3.out).mono ?_
            rintro e w4 ⟨rfl, rfl⟩
            rw [HS0.out]
            go_wp2_with fail
            have hd3 : Below w3.heap.size w3 w3.drew := (Below.refl _ _).drew
            have HD3 := Lib.hid hd3
            have HSAT : Hid (∀ V, Below w3.drew.heap.size w3.drew V → V.cell? ⟨w.heap.size, 0, none⟩ = some (.int .i64 (k : Int)) ∧ V.cell? ⟨w.heap.size, 1, none⟩ = some (.int .i64 (s : Int)) ∧ V.cell? ⟨w.heap.size, 2, none⟩ = some (.int .i64 (h : Int)) ∧ V.cell? ⟨w.heap.size, 3, none⟩ = some (.int .i64 (l : Int)) ∧ V.cell? ⟨w.heap.size, 4, none⟩ = some (.int .i64 (p : Int))) := Lib.hid fun V hV => ((HX3.out.mono hd3).mono hV).cells
            have HSD0 := Lib.hid (HSAT.out w3.drew (Below.refl _ _))
            clear hd3 c0 c1 c2 c3 c4 y0 y1
            go_region_held3 (fun w' => w'.cell? ⟨w.heap.size, 0, none⟩ = some (.int .i64 (k : Int)) ∧ w'.cell? ⟨w.heap.size, 1, none⟩ = some (.int .i64 (s : Int)) ∧ w'.cell? ⟨w.heap.size, 2, none⟩ = some (.int .i64 (h : Int)) ∧ w'.cell? ⟨w.heap.size, 3, none⟩ = some (.int .i64 (l : Int)) ∧ w'.cell? ⟨w.heap.size, 4, none⟩ = some (.int .i64 (p : Int)))
              (first | exact HSD0.out | exact HSAT.out _ HB7.out | exact HSAT.out _ HB6.out | go_keep)
              (first
              | (go_at_call 20; (with_reducible refine (HFI.out _).mono ?_); rintro e w6 ⟨v6, rfl, hl6, hb6⟩; have HB6 := Lib.hid hb6; have HR6 := Lib.hid (HRK.out w6 v6 hl6); clear hl6 hb6)
              | (go_at_call 16; (with_reducible refine HR6.out.mono ?_); rintro e w7 ⟨rfl, hb7⟩; have HB7 := Lib.hid (HB6.out.trans (hb7.mono HB6.out.size)); clear hb7))
            all_goals
              have hb73 := HD3.out.trans (HB7.out.mono HD3.out.size)
              have HB8 := Lib.hid (HB3.out.trans (hb73.mono HB3.out.size))
              have HE8 := Lib.hid (HE3.out.mono hb73)
              clear hb73
              go_wp2_with fail
              refine (tells_ans 4 nameSMiddle _ HE8.out (HG.out.mono HB8.out)).mono ?_
              rintro e w5 ⟨rfl, hb5⟩
              have HB5 := Lib.hid (HB8.out.trans (hb5.mono HB8.out.size))
              clear hb5
              go_wp2_with fail
              refine (HAW.out _ HB5.out).mono ?_
              rintro e wz ⟨rfl, hbz⟩
              have HBZ := Lib.hid (HB5.out.trans (hbz.mono HB5.out.size))
              clear hbz
              go_wp2
              go_ret
              exact ⟨rfl, HBZ.out⟩
    · have HC1 : Hid (checkR K S H L P seed [] = 1) := Lib.hid (checkR_nil hc)
      have HMF : Hid (Calls Tryz.prog 23 #[.agg #[.int .i64 K, .int .i64 S, .int .i64 H, .int .i64 L, .int .i64 P], .int .i64 seed, .slice av q cv, .int .i64 n] w1 (NoSays 1 nameSMiddle nilS w1)) := Lib.hid (by
        have := Middle_range K S H L P seed _ M n HKI.out (HM.out.mono HB1.out) (PairsAt.mono HT.out HB1.out) hc
        rwa [HC1.out] at this)
      rw [HC1.out] at HCK
      have HD : Hid (decide (20 < K) = false ∨ (decide (20 < K) = true ∧ decide (K ≤ 128) = false)) := Lib.hid (by
        simp only [decide_eq_true_eq, decide_eq_false_iff_not]
        omega)
      clear hc hA
      unfold parV parC
      rcases HD.out with e1 | ⟨e1, e2⟩
      all_goals
        go_enter Tryz.func8, Tryz.ntmps8
        go_upto_region 1 with fail
        rw [← HW0.out, ← HW1.out]
        go_wp2_with fail
        refine (HMF.out).mono ?_
        rintro e w2 ⟨E2, rfl, he2, hb2⟩
        have HX2 := Lib.hid (HBX.out.mono hb2)
        have HY2 := Lib.hid (HBY.out.mono hb2)
        have HB2 := Lib.hid (HB1.out.trans (hb2.mono HB1.out.size))
        have HE2 := Lib.hid he2
        obtain ⟨u2, x2, rfl⟩ := he2.some (by decide)
        clear he2 hb2
        clear c0 c1 c2 c3 c4 y0 y1
        obtain ⟨c0, c1, c2, c3, c4⟩ := HX2.out.cells
        obtain ⟨y0, y1⟩ := HY2.out.cells
        go_wp2_with fail
        refine (HCK.out _).mono ?_
        rintro e w3 ⟨rfl, hb3⟩
        have HX3 := Lib.hid (HX2.out.mono hb3)
        have HY3 := Lib.hid (HY2.out.mono hb3)
        have HB3 := Lib.hid (HB2.out.trans (hb3.mono HB2.out.size))
        have HE3 := Lib.hid (HE2.out.mono hb3)
        clear hb3
        clear c0 c1 c2 c3 c4 y0 y1
        obtain ⟨c0, c1, c2, c3, c4⟩ := HX3.out.cells
        obtain ⟨y0, y1⟩ := HY3.out.cells
        go_wp2_with fail
        go_quiet (fail)
        go_wp2_with fail
        refine (tells_ans 1 nameSMiddle _ (HE3.out.mono (below_draws (Below.refl _ _) _)) (HG.out.mono (below_draws HB3.out _))).mono ?_
        rintro e w5 ⟨rfl, hb5⟩
        have HB5 := Lib.hid ((below_draws HB3.out _).trans (hb5.mono (below_draws HB3.out _).size))
        clear hb5
        go_wp2_with fail
        refine (HAW.out _ HB5.out).mono ?_
        rintro e wz ⟨rfl, hbz⟩
        have HBZ := Lib.hid (HB5.out.trans (hbz.mono HB5.out.size))
        clear hbz
        go_wp2
        go_ret
        exact ⟨rfl, HBZ.out⟩
end Go.Proofs.YticoaioeeppapaaGreatDoor
