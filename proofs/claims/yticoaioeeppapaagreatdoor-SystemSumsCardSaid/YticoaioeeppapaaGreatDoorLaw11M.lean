/- The eleventh layer's laws: SystemMiddles. -/
import Derived.Test.YticoaioeeppapaaGreatDoorG42
import Derived.Test.YticoaioeeppapaaGreatDoorLaw11B
import Derived.Test.YticoaioeeppapaaGreatDoorLaw11C
namespace Go.Proofs.YticoaioeeppapaaGreatDoor
open Go.RowKit Go.Extern.Stop Go.Stop Go.Extern

theorem BlkBox.store {W : World} {g : Nat} {n : Int} {v : Value} (b : BlkBox W g n v) (n' : Int) (v' : Value) : BlkBox ((W.setCell ⟨g, 0, none⟩ (.int .i64 n')).setCell ⟨g, 1, none⟩ v') g n' v' :=
  heap_setCell_at (j := 1) (u := v') (heap_setCell_at (j := 0) (u := .int .i64 n') b)
theorem BlkBox.free {W : World} {g : Nat} {n : Int} {v : Value} (b : BlkBox W g n v) : W.frozen? ⟨g, 0, none⟩ = false ∧ W.frozen? ⟨g, 1, none⟩ = false := ⟨frozen_of_heap b, frozen_of_heap b⟩
theorem sizeOk_set {Y : List (List Nat)} {size i k y : Nat} (h : SizeOk Y size) (hi : i < Y.length) (hy : y < 256) : SizeOk (Y.set i ((Y.getD i []).set k y)) size := fun r hr => by
  rcases List.mem_or_eq_of_mem_set hr with hr | rfl
  · exact h r hr
  · have hm := h (Y.getD i []) (getD_mem_row hi)
    exact ⟨by rw [List.length_set]; exact hm.1, hm.2.set k y hy⟩

set_option maxRecDepth 1000000 in
set_option maxHeartbeats 4000000 in
theorem middles11 {w : World} (n : Int) (v : Value) (M : List (List Nat)) (hv : MatAt byteV w v M) (ho : ∀ r ∈ M, Octets r) (hT : DgTab w) (hB : Tab w) :
    Calls Tryz.prog 6 #[.agg #[.int .i64 n, v]] w fun e w' => e = .returned (.bool true) ∧ Below w.heap.size w w' := by
  obtain ⟨w1, hw1, hb1, hby⟩ := blk_laid w n v
  have HW1 := Lib.hid hw1
  have HB1 := Lib.hid hb1
  have HBY := Lib.hid hby
  obtain ⟨y0, y1⟩ := hby.cells
  have HT := Lib.hid hT
  have HBT := Lib.hid hB
  have HAW : Hid (∀ V, Below w.heap.size w V → Calls Tryz.prog 9 #[] V fun e w' => e = .returned (.bool true) ∧ Below V.heap.size V w') := Lib.hid fun V hV => awake11 V (PairsAt.mono hT hV) (hB.mono hV)
  have HFIT := Lib.hid (fit11 (w := w1) n v M (hv.mono hb1) ho)
  obtain ⟨av, cv, rfl, -, -, -⟩ := hv.opens
  generalize M.length = ml at *
  clear hw1 hb1 hby hT hB hv ho
  go_enter Tryz.func6, Tryz.ntmps6
  go_upto_region 1 with fail
  rw [← HW1.out]
  go_wp2_with fail
  refine HFIT.out.mono ?_
  rintro e w2 ⟨size, u1, S, rfl, hs1, hs2, hl1, hl2, hok, hsy, hb2⟩
  have hy2 := HBY.out.mono hb2
  have hb02 := HB1.out.trans (hb2.mono HB1.out.size)
  have hgl := hy2.lt
  obtain ⟨vs, hvs, -⟩ := id hsy
  obtain ⟨a1, q1, rfl, -, -⟩ := own_open hvs
  obtain ⟨k, hk⟩ : ∃ k, S.length = k := ⟨_, rfl⟩
  rw [hk] at hl1 hl2 hsy ⊢
  obtain ⟨w3, hw3⟩ : ∃ w3, w3 = (w2.setCell ⟨w.heap.size, 0, none⟩ (.int .i64 (size : Int))).setCell ⟨w.heap.size, 1, none⟩ (.slice a1 k q1) := ⟨_, rfl⟩
  have HW3 := Lib.hid hw3
  have HY3 : Hid (BlkBox w3 w.heap.size size (.slice a1 k q1)) := Lib.hid (by rw [hw3]; exact hy2.store _ _)
  have HS3 : Hid (MatAt byteV w3 (.slice a1 k q1) S) := Lib.hid (by
    rw [hw3]
    have h1 := hsy.set hy2 0 (.int .i64 (size : Int))
    exact (h1.set (heap_setCell_at (j := 0) (u := .int .i64 (size : Int)) hy2) 1 (.slice a1 k q1)).at)
  have HB3 : Hid (Below w.heap.size w w3) := Lib.hid (by
    rw [hw3]
    exact (hb02.setCell (p := ⟨w.heap.size, 0, none⟩) (Nat.le_refl _) _).setCell (p := ⟨w.heap.size, 1, none⟩) (Nat.le_refl _) _)
  have HK := Lib.hid hk
  have HOK := Lib.hid hok
  obtain ⟨z0, z1⟩ := hy2.cells
  obtain ⟨f0, f1⟩ := hy2.free
  clear hw3 hsy hvs hok hb2 hb02 hk hy2 y0 y1
  go_upto_region 2 with fail
  rw [← HW3.out]
  obtain ⟨y0, y1⟩ := HY3.out.cells
  clear z0 z1 f0 f1
  go_wp2_with fail
  refine (rOf_any k hl1 (by omega)).mono ?_
  rintro e w4 ⟨s, h, l, p, rfl, hof, hb4⟩
  obtain ⟨w5, hw5, hb5, hx5⟩ := par_laid w4 k s h l p
  have hb35 := hb4.trans (hb5.mono hb4.size)
  have HW5 := Lib.hid hw5
  have HX5 := Lib.hid hx5
  have HOF := Lib.hid hof
  have HY5 := Lib.hid (HY3.out.mono hb35)
  have HS5 := Lib.hid (HS3.out.mono hb35)
  have HB5 := Lib.hid (HB3.out.trans (hb35.mono HB3.out.size))
  have HSE := Lib.hid (Seed_ok (w := w5) k hl1 (by omega) (PairsAt.mono HT.out HB5.out) (HBT.out.mono HB5.out))
  clear hw5 hb4 hb5 hx5 hof hb35 y0 y1
  unfold parV parC
  go_upto_region 3 with fail
  rw [← HW5.out]
  obtain ⟨g4, hg4⟩ : ∃ g4, w4.heap.size = g4 := ⟨_, rfl⟩
  rw [hg4] at HX5 ⊢
  clear hg4
  obtain ⟨c0, c1, c2, c3, c4⟩ := HX5.out.cells
  go_wp2_with fail
  refine HSE.out.mono ?_
  rintro e w6 ⟨s', h', l', p', sd, rfl, hof, hsd, hb6⟩
  obtain ⟨rfl, rfl, rfl, rfl⟩ := hof.unique HOF.out
  have HSD := Lib.hid hsd
  have HX6 := Lib.hid (HX5.out.mono hb6)
  have HY6 := Lib.hid (HY5.out.mono hb6)
  have HS6 := Lib.hid (HS5.out.mono hb6)
  have HB6 := Lib.hid (HB5.out.trans (hb6.mono HB5.out.size))
  have HCP := Lib.hid (sCopy_sep (w := w6) _ S (HS5.out.mono hb6) (by rw [HK.out]; omega) (fun r hr => by rw [(HOK.out r hr).1]; omega))
  clear hof hsd hb6 c0 c1 c2 c3 c4
  obtain ⟨y0, y1⟩ := HY6.out.cells
  go_wp2_with fail
  refine HCP.out.mono ?_
  rintro e w7 ⟨v7, rfl, hsp7, hb7⟩
  have HSP7 := Lib.hid hsp7
  have HB67 := Lib.hid hb7
  have HX7 := Lib.hid (HX6.out.mono hb7)
  have HY7 := Lib.hid (HY6.out.mono hb7)
  have HS7 := Lib.hid (HS6.out.mono hb7)
  have HB7 := Lib.hid (HB6.out.trans (hb7.mono HB6.out.size))
  have HMI := Lib.hid (Middle_full (w := w7) k s' h' l' p' sd size v7 S HOF.out hl1 (by omega) HSD.out.1 hs1 (by omega) hsp7.at HK.out HOK.out (PairsAt.mono HT.out HB7.out) (HBT.out.mono HB7.out) HSD.out.2.1)
  unfold parV parC at HMI
  obtain ⟨vs7, hvs7, -⟩ := id hsp7
  obtain ⟨a7, q7, rfl, -, -⟩ := own_open hvs7
  rw [HK.out] at HSP7 HMI ⊢
  clear hsp7 hvs7 hb7 y0 y1
  obtain ⟨c0, c1, c2, c3, c4⟩ := HX7.out.cells
  obtain ⟨y0, y1⟩ := HY7.out.cells
  go_wp2_with fail
  refine HMI.out.mono ?_
  rintro e w8 ⟨v8, V, rfl, hm8, ht8, hc8, hb8⟩
  have HSP8 := Lib.hid (HSP7.out.inside.mono hb8)
  have HM8 := Lib.hid hm8
  have HTL := Lib.hid ht8
  have HCO := Lib.hid hc8
  have HX8 := Lib.hid (HX7.out.mono hb8)
  have HY8 := Lib.hid (HY7.out.mono hb8)
  have HS8 := Lib.hid (HS7.out.mono hb8)
  have HB68 := Lib.hid (HB67.out.trans (hb8.mono HB67.out.size))
  have HSM := Lib.hid (sSame_any (w := w8) (.slice a7 k q7) (.slice a1 k q1) S (HSP7.out.at.mono hb8) (HS7.out.mono hb8))
  obtain ⟨a8, q8, rfl, -, -, -⟩ := hm8.own.at.opens
  have HVL := Lib.hid ht8.1
  rw [ht8.1] at HM8 ⊢
  clear hm8 ht8 hc8 hb8 c0 c1 c2 c3 c4 y0 y1
  obtain ⟨y0, y1⟩ := HY8.out.cells
  go_wp2_with fail
  refine HSM.out.mono ?_
  rintro e w9 ⟨rfl, hb9⟩
  have HSP9 := Lib.hid (HSP8.out.mono hb9)
  have HM9 := Lib.hid (HM8.out.mono hb9)
  have HB69 := Lib.hid (HB68.out.trans (hb9.mono HB68.out.size))
  clear hb9 y0 y1
  go_wp2_with fail
  go_loopw [9] (fun i wr => ∃ (j : Nat) (Y : List (List Nat)), j ≤ k ∧ i = .int .i64 j ∧ Y.length = k ∧ SizeOk Y size ∧ SepIn wr w6.heap.size w7.heap.size (.slice a7 k q7) Y ∧ MatFresh byteV 5 w7.heap.size 52 wr (.slice a8 l' q8) V ∧ Below w6.heap.size w6 wr) (fun i _ => k - (intOf i).toNat)
  case atStart => exact ⟨0, S, Nat.zero_le _, rfl, HK.out, HOK.out, HSP9.out, HM9.out, HB69.out⟩
  case round =>
    obtain ⟨j, Y, hj, rfl, hyl, hyo, hsp, hmf, hbel⟩ := hrel
    by_cases hlt : j < k
    · have HYL := Lib.hid hyl
      have HYO := Lib.hid hyo
      have HSP := Lib.hid hsp
      have HMF := Lib.hid hmf
      have HBL := Lib.hid hbel
      clear hyl hyo hsp hmf hbel
      go_wp2_with fail
      obtain ⟨wo, hwo⟩ : ∃ wo, wo = wr := ⟨_, rfl⟩
      subst hwo
      go_loopw [10] (fun i wr => ∃ (t : Nat) (Y : List (List Nat)), t ≤ size ∧ i = .int .i64 t ∧ Y.length = k ∧ SizeOk Y size ∧ SepIn wr w6.heap.size w7.heap.size (.slice a7 k q7) Y ∧ MatFresh byteV 5 w7.heap.size 52 wr (.slice a8 l' q8) V ∧ Below w6.heap.size w6 wr) (fun i _ => size - (intOf i).toNat)
      case atStart => exact ⟨0, Y, Nat.zero_le _, rfl, HYL.out, HYO.out, HSP.out, HMF.out, HBL.out⟩
      case round =>
        clear HYL HYO HSP HMF HBL
        obtain ⟨t, Y, ht, rfl, hyl, hyo, hsp, hmf, hbel⟩ := hrel
        have HYL := Lib.hid hyl
        have HYO := Lib.hid hyo
        have HSP := Lib.hid hsp
        have HMF := Lib.hid hmf
        have HBL := Lib.hid hbel
        have hjy : j < Y.length := by omega
        have hrow := hyo (Y.getD j []) (getD_mem_row hjy)
        obtain ⟨ga, ca, g, c, hve, hga, hcell, hgB, hgU, hcs, hfr, hwr⟩ := hsp.row hjy (by rw [hrow.1]; omega)
        obtain ⟨rfl, -, rfl⟩ : a7 = some ⟨ga, 0, none⟩ ∧ k = Y.length ∧ q7 = ca := by simpa using hve
        rw [hrow.1] at hcell hcs hwr
        by_cases htn : t < size
        · have hx := hcs t htn
          have hf := hfr t
          have hyb := hrow.2.getD t
          have HWR := Lib.hid (fun y => hwr t y htn)
          have hge : IntKind.u8.wrap (255 - (((Y.getD j []).getD t 0 : Nat) : Int)) = ((255 - (Y.getD j []).getD t 0 : Nat) : Int) := by
            rw [IntKind.wrap_u8]
            omega
          have HG := Lib.hid (show w6.heap.size ≤ g ∧ g < w7.heap.size from ⟨hgB, hgU⟩)
          have HJY := Lib.hid hjy
          clear hcs hfr hwr hve hyl hyo hsp hmf hbel hrow hga hgB hgU hjy
          generalize (Y.getD j []).getD t 0 = yv at *
          go_wp2_with fail
          go_region
          go_wp2
          go_roundw
          case rel => exact ⟨t + 1, Y.set j ((Y.getD j []).set t (255 - yv)), by omega, by go_num, by rw [List.length_set]; exact HYL.out, sizeOk_set HYO.out HJY.out (by omega), (HWR.out (255 - yv)).mono (Below.refl _ _).drew, MatFresh.far HMF.out (fun g' hg' _ => Below.heap_setCell _ _ _ _ (show g' ≠ g by have := HG.out.2; omega)), (HBL.out.setCell (p := ⟨g, t, none⟩) HG.out.1 _).drew⟩
          case measure => simp [intOf]; omega
        · obtain rfl : t = size := by omega
          clear hcs hfr hwr hve hyl hyo hsp hmf hbel hrow hga hgB hgU
          go_wp2
          go_roundw
          case rel => exact ⟨j + 1, Y, by omega, by go_num, HYL.out, HYO.out, HSP.out, HMF.out, HBL.out⟩
          case measure => simp [intOf]; omega
    · obtain rfl : j = k := by omega
      have HX9 := Lib.hid (HX6.out.mono hbel)
      have HY9 := Lib.hid (HY6.out.mono hbel)
      have HB9 := Lib.hid (HB6.out.trans (hbel.mono HB6.out.size))
      have HHO := Lib.hid (Holds_any (w := wr) j s' h' l' p' sd size (.slice a1 j q1) (.slice a8 l' q8) S V HOF.out hl1 (by omega) HSD.out.1 hs1 (by omega) (HS6.out.mono hbel) HK.out hmf.own.at HTL.out.1 HTL.out.row (tells_want HOF.out.2.2.1 HTL.out HCO.out HK.out HOK.out))
      unfold parV parC at HHO
      obtain ⟨c0, c1, c2, c3, c4⟩ := HX9.out.cells
      obtain ⟨y0, y1⟩ := HY9.out.cells
      clear hyl hyo hsp hmf hbel
      go_wp2_with fail
      refine HHO.out.mono ?_
      rintro e w10 ⟨rfl, hb10⟩
      have HB10 := Lib.hid (HB9.out.trans (hb10.mono HB9.out.size))
      clear hb10 c0 c1 c2 c3 c4 y0 y1
      go_wp2_with fail
      refine (HAW.out _ HB10.out).mono ?_
      rintro e w11 ⟨rfl, hb11⟩
      have HB11 := Lib.hid (HB10.out.trans (hb11.mono HB10.out.size))
      clear hb11
      go_wp2
      go_ret
      exact ⟨rfl, HB11.out⟩
end Go.Proofs.YticoaioeeppapaaGreatDoor
