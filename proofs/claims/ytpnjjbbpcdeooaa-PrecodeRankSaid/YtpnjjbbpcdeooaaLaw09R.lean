/- The ninth layer's law PrecodeRank: the walk. -/
import Derived.Test.YtpnjjbbpcdeooaaLaw09
import Derived.Test.YtpnjjbbpcdeooaaPcRank
import Derived.Test.YtpnjjbbpcdeooaaMxRefE
import Derived.StillTailTactics
import Derived.Deep.RegionHeld3
namespace Go.Proofs.Ytpnjjbbpcdeooaa
open Go.RowKit Go.Extern.Stop Go.Stop Go.Extern

theorem wrap_u_nonneg (k : Int) : 0 ≤ IntKind.u64.wrap k := by rw [IntKind.wrap_u64]; omega
theorem packL_take {n : Nat} {R : List (List Nat)} {q : Nat} (h : q < R.length) : packL n (R.take (q + 1)) = packL n (R.take q) ++ [packR n (R.getD q [])] := by
  unfold packL
  rw [List.take_succ_eq_append_getElem h, List.map_append]
  simp [h]
theorem sizeI_kOf {n : Nat} (h : n ≤ 4096) : (sizeI (n : Int)).toNat = kOf n := by
  rw [sizeI_of h]; rfl

set_option maxRecDepth 1000000 in
set_option maxHeartbeats 4000000 in
theorem rank9 {w : World} (k0 : Int) : Calls Try.prog 3 #[.int .i64 k0] w fun e w' => e = .returned (.bool true) ∧ Below w.heap.size w w' := by
  obtain ⟨i0, hi0, hz0, hz1, hz2⟩ := info_parts info_row
  obtain ⟨a, ha, ha1⟩ : ∃ a : Nat, (IntKind.u64.wrap k0).tmod 128 = (a : Int) ∧ a ≤ 127 := by
    have h0 := wrap_u_nonneg k0
    have := Int.tmod_nonneg 128 h0
    have := Int.tmod_lt_of_pos (IntKind.u64.wrap k0) (b := 128) (by decide)
    exact ⟨((IntKind.u64.wrap k0).tmod 128).toNat, by omega, by omega⟩
  obtain ⟨k, hk⟩ : ∃ k : Nat, 1 + (a : Int) = (k : Int) := ⟨a + 1, by omega⟩
  have hk1 : 1 ≤ k := by omega
  have hk2 : k ≤ 128 := by omega
  have HK := Lib.hid hk
  clear hk
  go_enter Try.func3, Try.ntmps3
  go_wp2_with fail
  clear ha
  rw [HK.out]
  refine (rOf_any k hk1 hk2).mono ?_
  rintro e w1 ⟨s, h, l, p, rfl, hof, hb1⟩
  obtain ⟨b1, b2, b3, b4, b5, b6, b7⟩ := hof.bounds hk1 hk2
  obtain ⟨W, hW, hbW, hbx⟩ := par_laid w1 k s h l p
  have HW := Lib.hid hW
  have HB1 := Lib.hid (hb1.trans (hbW.mono hb1.size))
  have HBX := Lib.hid hbx
  have HL : Hid (l = k + s + h) := Lib.hid hof.2.2.1
  have HAL : Hid (∀ V, Calls Try.prog 7 #[.agg #[.int .i64 (k : Int), .int .i64 (s : Int), .int .i64 (h : Int), .int .i64 (l : Int), .int .i64 (p : Int)]] V fun e w' => ∃ v g, e = .returned (.tuple #[v, .nilIface]) ∧ IsGr ((h + 1) / 2) (k + s) g ∧ MatAt colV w' v (rowsP k s h g) ∧ Below V.heap.size V w') := Lib.hid fun V => All_ok k s h l p hof hk1 hk2
  obtain ⟨c0, c1, c2, c3, c4⟩ := hbx.cells
  clear hb1 hof hW hbW hbx
  unfold parV parC
  go_upto_region 2 with fail
  rw [← HW.out]
  generalize w1.heap.size = gp at *
  go_wp2_with fail
  refine (HAL.out _).mono ?_
  rintro e w2 ⟨v, g, rfl, -, hm, hb2⟩
  have HB2 := Lib.hid (HB1.out.trans (hb2.mono HB1.out.size))
  have HBX2 := Lib.hid (HBX.out.mono hb2)
  obtain ⟨ad, cap, rfl, hcap, -, hcell⟩ := hm.opens
  have hln := rowsP_length k s h g
  have HLT : Hid (∀ i, i < s + h → ∀ c ∈ (rowsP k s h g).getD i [], c < k + s + h) := Lib.hid fun i hi c hc => row_lt hi hc
  have HND : Hid (∀ i, i < s + h → ((rowsP k s h g).getD i []).Nodup) := Lib.hid fun i hi => row_nodup hi
  have HRK : Hid (rk (vecs (packL (k + s + h) (rowsP k s h g))) = s + h) := Lib.hid (rows_rank k s h g)
  rw [hln] at hcap hcell ⊢
  rw [← HL.out] at HRK HLT
  obtain ⟨R, hR⟩ : ∃ R, rowsP k s h g = R := ⟨_, rfl⟩
  obtain ⟨n, hn⟩ : ∃ n, s + h = n := ⟨_, rfl⟩
  rw [hR] at hln hcell HRK HLT HND
  rw [hn] at hln hcap hcell HRK HLT HND ⊢
  have HC := Lib.hid hcell
  have HLN := Lib.hid hln
  have hn29 : n ≤ 29 := by omega
  have HSH : Hid ((s : Int) + (h : Int) = (n : Int)) := Lib.hid (by omega)
  have hsh := HSH.out
  have hne : ((n : Int) != (n : Int)) = false := by simp
  clear c0 c1 c2 c3 c4 hm hb2 hcell hln hR hn
  obtain ⟨c0, c1, c2, c3, c4⟩ := HBX2.out.cells
  go_wp2
  clear c0 c1 c2 c3 c4
  go_loopw [6, 7] (fun o i wr => ∃ q : Nat, q ≤ n ∧ i = .int .i64 q ∧ MatOwn wordV 50 w2.heap.size 34 wr o (packL l (R.take q)) ∧ Below w2.heap.size w2 wr) (fun _ i _ => n - (intOf i).toNat)
  case atStart => exact ⟨0, Nat.zero_le _, rfl, MatOwn.start w2 (Nat.le_refl _), (Below.refl _ _).alloc (Nat.le_refl _) _⟩
  case round =>
    obtain ⟨q, hq, rfl, hmo, hbel⟩ := hrel
    have HMO := Lib.hid hmo
    have HB := Lib.hid hbel
    have hsz := hbel.size
    by_cases hlt : q < n
    · obtain ⟨b, off, rfl, hcc⟩ := HC.out (by omega)
      obtain ⟨y, hy, hly⟩ := hcc q hlt
      have hbd := hbel.drew
      have hz1 : wr.drew.cell? ⟨b, off + q, none⟩ = some y := (hbd.cell (p := ⟨b, off + q, none⟩) (World.block_lt_of_cell? w2 _ hy)).trans hy
      have hly2 := hly.cols
      have HLY := Lib.hid hly2
      have HY := Lib.hid hy
      have HROW : Hid (checkI ((R.getD q []).map Int.ofNat) (l : Int) = 0) := Lib.hid (checkI_zero (by omega) (HND.out q hlt) (HLT.out q hlt))
      have HCK : Hid (∀ V, Below w2.heap.size w2 V → Calls Try.prog 8 #[y, .int .i64 (l : Int)] V fun e w' => e = .returned (.int .i64 0) ∧ Below V.heap.size V w') := Lib.hid fun V hV => by
        have := Check_any (w := V) y ((R.getD q []).map Int.ofNat) (l : Int) (hly2.mono hV)
        rwa [HROW.out] at this
      have HPK : Hid (∀ V, Below w2.heap.size w2 V → Calls Try.prog 9 #[y, .int .i64 (l : Int)] V fun e w' => ∃ v', e = .returned v' ∧ w'.ownsRow V.heap.size 50 1 v' (kOf l) ((packR l (R.getD q [])).map wordV) ∧ Below V.heap.size V w') := Lib.hid fun V hV => by
        have := refPack_own (w := V) y ((R.getD q []).map Int.ofNat) (l : Int) (hly2.mono hV) ⟨by omega, by omega⟩
        rwa [sizeI_kOf (by omega)] at this
      have HTK : Hid (packL l (R.take (q + 1)) = packL l (R.take q) ++ [packR l (R.getD q [])]) := Lib.hid (packL_take (by rw [HLN.out]; exact hlt))
      have HQL : Hid ((packL l (R.take q)).length = q) := Lib.hid (by unfold packL; rw [List.length_map, List.length_take, HLN.out]; omega)
      have HBD := Lib.hid hbd
      have HMD := Lib.hid (hmo.mono ((Below.refl _ _).drew))
      obtain ⟨c0, c1, c2, c3, c4⟩ := (HBX2.out.mono hbd).cells
      obtain ⟨ay, cy, rfl, -⟩ := hly
      clear hcc hy hly2 hbel hbd hmo
      go_wp2_with fail
      refine wp_region_still_tail 6 (by kernel_rfl) (by kernel_rfl) ?_
      simp only [List.take_succ_cons, List.take_zero, List.drop_succ_cons, List.drop_zero]
      repeat still_step
      refine wpStill_nil ?_
      change wpList _ _ _ _ _ wr.drew
      generalize wr.drew = wq at *
      go_wp2_with fail
      refine (HCK.out _ HBD.out).mono ?_
      rintro e w3 ⟨rfl, hb3⟩
      have hsd := HBD.out.size
      have hb23 := HBD.out.trans (hb3.mono hsd)
      have hbd3 := hb23.drew
      have HBD3 := Lib.hid hbd3
      have HMD3 := Lib.hid (HMD.out.mono hb3.drew)
      have hz3 : w3.drew.cell? ⟨b, off + q, none⟩ = some (.slice ay (R.getD q []).length cy) := (hbd3.cell (p := ⟨b, off + q, none⟩) (World.block_lt_of_cell? w2 _ HY.out)).trans HY.out
      clear hz1 c0 c1 c2 c3 c4
      obtain ⟨c0, c1, c2, c3, c4⟩ := (HBX2.out.mono hbd3).cells
      clear hb3 hb23 hbd3
      go_wp2_with fail
      go_region_law (first
        | (go_simp; go_at_call 9; refine (HPK.out _ HBD3.out).mono ?_; rintro e w5 ⟨v5, rfl, hown5, hb5⟩; have hs3 := HBD3.out.size; have HB5 := Lib.hid (HBD3.out.trans (hb5.mono hs3)); have hs5 := HB5.out.size; obtain ⟨vs, hvs, hel⟩ := HMD3.out.mono hb5; rw [HQL.out] at hvs; have HVS := Lib.hid hvs; have HEL := Lib.hid hel; have HEN : Hid (ElAt wordV 50 w2.heap.size w5 v5 (packR l (R.getD q []))) := Lib.hid (ElAt.own hown5); obtain ⟨a5, q5, rfl, -, -⟩ := own_open hown5; clear hown5 hb5 hvs hel hz3 c0 c1 c2 c3 c4)
        | (refine step_append_lies _ rfl (.tmp 46) (.tmp 54) 31 rfl w2.heap.size 34 i0 (.slice none 0 0) 1 24 Try.underlying31 hi0 hz0 hz1 hz2 rfl (by decide) u6 q vs (by simp [Act.eval]) (HVS.out.alloc _) ⟨w5.heap.size, 0, none⟩ 1 1 [.slice a5 (kOf l) q5] (by simp [Act.eval]) rfl (cell_one_new _ _ _) (fun x hx => by simp at hx; subst hx; rfl) (by decide) (by unfold maxLen; omega) (by omega) (by simp; omega) _ rfl ?_; intro g2 c2 w6 hown1 hgrow1 _ _; have hb6 := Lib.hid ((HB5.out.alloc hs5 _).grown hgrow1 (by simp; omega) (fun k hk => (HVS.out.lt k hk).1)); have ho6 : Hid (MatOwn wordV 50 w2.heap.size 34 w6 _ (packL l (R.take q) ++ [packR l (R.getD q [])])) := Lib.hid (MatOwn.app (by decide) (by rw [HQL.out]; exact HVS.out) HEL.out HEN.out (by rw [HQL.out]; exact hown1) hgrow1); clear hown1 hgrow1))
      all_goals go_wp2
      all_goals exact ⟨⟨q + 1, by omega, by go_num, by rw [HTK.out]; exact ho6.out, hb6.out⟩, by simp [intOf]; omega⟩
    · obtain rfl : q = n := by omega
      obtain ⟨o, ho⟩ : ∃ o, u6 = o := ⟨_, rfl⟩
      rw [ho] at HMO ⊢
      have hM := HMO.out.at
      rw [List.take_of_length_le (by rw [HLN.out]; exact Nat.le_refl _)] at hM
      have HOK : Hid (MatOk (packL l R) l) := Lib.hid (packL_ok (by omega) (by rw [HLN.out]; omega) (fun r hr c hc => by
        obtain ⟨i, hi, rfl⟩ := List.getElem_of_mem hr
        rw [HLN.out] at hi
        refine HLT.out i hi c ?_
        rw [List.getD_eq_getElem?_getD, List.getElem?_eq_getElem (by rw [HLN.out]; exact hi)]
        exact hc))
      have HM := Lib.hid hM
      have HR9 : Hid (∀ V, Below wr.heap.size wr V → Calls Try.prog 10 #[o, .int .i64 (l : Int)] V fun e w' => e = .returned (.int .i64 (q : Int)) ∧ Below V.heap.size V w') := Lib.hid fun V hV => by
        have := refRank_any (w := V) o (packL l R) l (HM.out.mono hV) HOK.out
        rwa [HRK.out] at this
      have HAW : Hid (∀ V, Below wr.heap.size wr V → Calls Try.prog 11 #[] V fun e w' => e = .returned (.bool true) ∧ Below V.heap.size V w') := Lib.hid fun V hV => awake9 V
      have HSAT : Hid (∀ V, Below wr.heap.size wr V → V.cell? ⟨gp, 1, none⟩ = some (.int .i64 (s : Int)) ∧ V.cell? ⟨gp, 2, none⟩ = some (.int .i64 (h : Int)) ∧ V.cell? ⟨gp, 3, none⟩ = some (.int .i64 (l : Int))) := Lib.hid fun V hV => by
        obtain ⟨-, h1, h2, h3, -⟩ := ((HBX2.out.mono HB.out).mono hV).cells
        exact ⟨h1, h2, h3⟩
      have HBD : Hid (Below wr.heap.size wr wr.drew) := Lib.hid (Below.refl _ _).drew
      have HSD := Lib.hid (HSAT.out _ HBD.out)
      have heq : IntKind.i64.wrap (q : Int) = (q : Int) := IntWalk.i64_in _ (by omega)
      have hsh := HSH.out
      clear hbel hmo hM
      go_wp2_with fail

      go_region_held3 (fun w' => w'.cell? ⟨gp, 1, none⟩ = some (.int .i64 (s : Int)) ∧ w'.cell? ⟨gp, 2, none⟩ = some (.int .i64 (h : Int)) ∧ w'.cell? ⟨gp, 3, none⟩ = some (.int .i64 (l : Int)))
        (first | exact HSD.out | exact HSAT.out _ HB4.out | exact HSAT.out _ HB3.out | go_keep)
        (first
        | (go_at_call 10; (with_reducible refine (HR9.out _ HBD.out).mono ?_); rintro e w3 ⟨rfl, hb3⟩; have HB3 := Lib.hid (HBD.out.trans (hb3.mono HBD.out.size)); clear hb3)
        | (go_at_call 11; (with_reducible refine (HAW.out _ HB3.out).mono ?_); rintro e w4 ⟨rfl, hb4⟩; have HB4 := Lib.hid (HB3.out.trans (hb4.mono HB3.out.size)); clear hb4))
      all_goals
        go_wp2
        go_ret
        exact ⟨rfl, HB2.out.trans ((HB.out.trans (HB4.out.mono HB.out.size)).mono HB2.out.size)⟩
end Go.Proofs.Ytpnjjbbpcdeooaa
