import Derived.Test.YtfibolkgpffjkaaGreatDoorG32
import Derived.Test.YtfibolkgpffjkaaGreatDoorG41
import Derived.Test.YtfibolkgpffjkaaGreatDoorG44
import Derived.Deep.AppendLies
import Derived.Deep.RegionLaw
import Derived.Deep.RegionHeldLaw
import Derived.StillTailTactics

section
/- The twelfth layer's laws: EncodeSums. -/
namespace Go.Proofs.YtfibolkgpffjkaaGreatDoor
open Go.RowKit Go.Extern.Stop Go.Stop Go.Extern

set_option maxRecDepth 1000000 in
set_option maxHeartbeats 20000000 in
theorem sums12 {w : World} (n0 : Int) (v : Value) (M : List (List Nat)) (vm : Value) (R : List (List Nat)) (E : Int) (hv : MatAt byteV w v M) (ho : ∀ r ∈ M, Octets r) (hm : MatAt byteV w vm R) (hR : ∀ r ∈ R, Octets r) (hT : DgTab w) (hB : Tab w) :
    Calls Tryz.prog 6 #[.agg #[.int .i64 n0, v], vm, .int .i64 E] w fun e w' => e = .returned (.bool true) ∧ Below w.heap.size w w' := by
  obtain ⟨u0, hu0, uz0, uz1, uz2⟩ := info_parts info_u8
  obtain ⟨j0, hj0, jz0, jz1, jz2⟩ := info_parts info_sym
  obtain ⟨w1, hw1, hb1, hby⟩ := blk_laid w n0 v
  have HW1 := Lib.hid hw1
  have HB1 := Lib.hid hb1
  have HBY := Lib.hid hby
  obtain ⟨y0, y1⟩ := hby.cells
  have HT := Lib.hid hT
  have HBT := Lib.hid hB
  have HAW : Hid (∀ V, Below w.heap.size w V → Calls Tryz.prog 17 #[] V fun e w' => e = .returned (.bool true) ∧ Below V.heap.size V w') := Lib.hid fun V hV => awake12 V (PairsAt.mono hT hV) (hB.mono hV)
  have HFIT := Lib.hid (fit12 (w := w1) n0 v M (hv.mono hb1) ho)
  obtain ⟨av, cv, rfl, -, -, -⟩ := hv.opens
  generalize M.length = ml at *
  have HRO := Lib.hid hR
  have hMl := hm.len
  have HMM := Lib.hid hm
  obtain ⟨am, cm, rfl, -, -, -⟩ := hm.opens
  obtain ⟨q, hq⟩ : ∃ q, R.length = q := ⟨_, rfl⟩
  have HQ := Lib.hid hq
  rw [hq] at HMM hMl ⊢
  obtain ⟨ei, hei, hei2⟩ : ∃ m : Nat, wrap64 ((IntKind.u64.wrap E).tmod 65536) = (m : Int) ∧ m < 65536 := by
    have hw : 0 ≤ IntKind.u64.wrap E := by rw [IntKind.wrap_u64]; omega
    have e : (IntKind.u64.wrap E).tmod 65536 = (IntKind.u64.wrap E) % 65536 := Int.tmod_eq_emod_of_nonneg hw
    have h0 : 0 ≤ (IntKind.u64.wrap E) % 65536 := Int.emod_nonneg _ (by decide)
    have h4 : (IntKind.u64.wrap E) % 65536 < 65536 := Int.emod_lt_of_pos _ (by decide)
    rw [e, IntWalk.wrap64_in _ (by omega)]
    exact ⟨((IntKind.u64.wrap E) % 65536).toNat, by omega, by omega⟩
  have HEI := Lib.hid hei
  clear hm hR hq hei
  clear hw1 hb1 hby hT hB hv ho
  go_enter Tryz.func6, Tryz.ntmps6
  go_upto_region 1 with fail
  rw [← HW1.out]
  go_wp2_with fail
  refine HFIT.out.mono ?_
  rintro e w2 ⟨size, u1, S, rfl, hs1, hs2, hl1, hl2, hok, hsy, hb2⟩
  have hy2 := HBY.out.mono hb2
  have hb02 := HB1.out.trans (hb2.mono HB1.out.size)
  have hgl := hy2.lt
  obtain ⟨vs, hvs, -⟩ := id hsy
  obtain ⟨a1, q1, rfl, -, hg1⟩ := own_open hvs
  obtain ⟨g1, rfl⟩ := hg1 (by omega)
  obtain ⟨k, hk⟩ : ∃ k, S.length = k := ⟨_, rfl⟩
  rw [hk] at hl1 hl2 hsy ⊢
  obtain ⟨w3, hw3⟩ : ∃ w3, w3 = (w2.setCell ⟨w.heap.size, 0, none⟩ (.int .i64 (size : Int))).setCell ⟨w.heap.size, 1, none⟩ (.slice (some ⟨g1, 0, none⟩) k q1) := ⟨_, rfl⟩
  have HW3 := Lib.hid hw3
  have HY3 : Hid (BlkBox w3 w.heap.size size (.slice (some ⟨g1, 0, none⟩) k q1)) := Lib.hid (by rw [hw3]; exact hy2.store _ _)
  have HS3 : Hid (MatAt byteV w3 (.slice (some ⟨g1, 0, none⟩) k q1) S) := Lib.hid (by
    rw [hw3]
    have h1 := hsy.set hy2 0 (.int .i64 (size : Int))
    exact (h1.set (heap_setCell_at (j := 0) (u := .int .i64 (size : Int)) hy2) 1 (.slice (some ⟨g1, 0, none⟩) k q1)).at)
  have HB3 : Hid (Below w.heap.size w w3) := Lib.hid (by
    rw [hw3]
    exact (hb02.setCell (p := ⟨w.heap.size, 0, none⟩) (Nat.le_refl _) _).setCell (p := ⟨w.heap.size, 1, none⟩) (Nat.le_refl _) _)
  have HK := Lib.hid hk
  have HOK := Lib.hid hok
  obtain ⟨z0, z1⟩ := hy2.cells
  obtain ⟨f0, f1⟩ := hy2.free
  clear hw3 hsy hvs hok hb2 hb02 hk hy2 hg1 y0 y1
  go_upto_region 2 with fail
  rw [← HW3.out]
  obtain ⟨y0, y1⟩ := HY3.out.cells
  clear z0 z1 f0 f1
  have HM3 := Lib.hid (HMM.out.mono HB3.out)
  have HCP := Lib.hid (sCopy_sep (w := w3) _ S HS3.out (by rw [HK.out]; omega) (fun r hr => by rw [(HOK.out r hr).1]; omega))
  go_upto_region 3 with fail
  simp only [HEI.out]
  go_wp2_with fail
  refine HCP.out.mono ?_
  rintro e w7 ⟨v7, rfl, hsp7, hb7⟩
  have HSP7 := Lib.hid hsp7.inside
  have HB7 := Lib.hid hb7
  have hU : w3.heap.size ≤ w7.heap.size := hb7.size
  have HU := Lib.hid hU
  obtain ⟨vs7, hvs7, -⟩ := id hsp7
  obtain ⟨a7, q7, rfl, -, hg7⟩ := own_open hvs7
  obtain ⟨ga, rfl⟩ := hg7 (by rw [HK.out]; omega)
  have HGA : Hid (ga < w7.heap.size) := Lib.hid ((hvs7.lt ga rfl).2)
  rw [HK.out] at HSP7 ⊢
  clear hsp7 hvs7 hg7 hb7 hU y0 y1
  go_wp2_with fail
  go_loopw [8, 9] (fun zv i wr => ∃ (j : Nat) (Y : List (List Nat)), j ≤ k ∧ i = .int .i64 j ∧ Y.length = k ∧ SizeOk Y size ∧ SepIn wr w3.heap.size w7.heap.size (.slice (some ⟨ga, 0, none⟩) k q7) Y ∧ MatFresh byteV 5 w7.heap.size 38 wr zv (sumsTo S Y j) ∧ Below w3.heap.size w3 wr ∧ w7.heap.size ≤ wr.heap.size) (fun _ i _ => k - (intOf i).toNat)
  case atStart => exact ⟨0, S, Nat.zero_le _, rfl, HK.out, HOK.out, HSP7.out.mono ((Below.refl _ _).alloc (Nat.le_refl _) _), by rw [show sumsTo S S 0 = [] from rfl]; exact MatFresh.start w7 (Nat.le_refl _), HB7.out.alloc HU.out _, by simp⟩
  case round =>
    obtain ⟨j, Y, hj, rfl, hyl, hyo, hsp, hmf, hbel, huw⟩ := hrel
    by_cases hlt : j < k
    · by_cases hlm : j < q
      · obtain ⟨bm, om, rfl, x, hx, hlx⟩ := HM3.out.rowAt (i := j) (by rw [HQ.out]; exact hlm)
        have hro := HRO.out (R.getD j []) (getD_mem_row (by rw [HQ.out]; exact hlm))
        obtain ⟨m, hmm⟩ : ∃ m, (R.getD j []).length = m := ⟨_, rfl⟩
        obtain ⟨ax, cx, rfl, -, -, hcx⟩ := hlx.bytes m hmm
        generalize R.getD j [] = rm at *
        have hjy : j < Y.length := by omega
        have hrow := hyo (Y.getD j []) (getD_mem_row hjy)
        have hwd : Below wr.heap.size wr wr.drew := (Below.refl _ _).drew
        obtain ⟨ga', ca, gr, cr, cur, hve, hcell, hgB, hgU, hcur, hlen, hput⟩ := (hsp.mono hwd).into hjy (by rw [hrow.1]; omega)
        obtain ⟨rfl, -, rfl⟩ : ga = ga' ∧ k = Y.length ∧ q7 = ca := by simpa using hve
        rw [hrow.1] at hcell hlen hput
        have hx2 := ((hbel.trans (hwd.mono hbel.size)).cell (p := ⟨bm, om + j, none⟩) (World.block_lt_of_cell? w3 _ hx)).trans hx
        have HPOS : Hid (0 < ((rm.take size).map byteV).length → ∃ ad, ax = some ad ∧ ∀ t u, ((rm.take size).map byteV)[t]? = some u → wr.drew.cell? (ad.add t) = some u) := Lib.hid fun hp => by
          rw [List.length_map, List.length_take] at hp
          obtain ⟨b2, off2, e2, h2⟩ := hcx (by omega)
          refine ⟨⟨b2, off2, none⟩, e2, fun t u hu => ?_⟩
          have ht : t < (rm.take size).length := by have := (List.getElem?_eq_some_iff.1 hu).1; rwa [List.length_map] at this
          rw [List.length_take] at ht
          have ht2 : t < rm.length := by omega
          have ht3 : t < size := by omega
          have h3 := h2 t (by omega)
          rw [Go.WideShapes.add_plain, (hbel.trans (hwd.mono hbel.size)).cell (p := ⟨b2, off2 + t, none⟩) (World.block_lt_of_cell? w3 _ h3), h3, ← hu, List.getElem?_map, List.getElem?_take, if_pos ht3, List.getElem?_eq_getElem ht2, List.getD_eq_getElem?_getD, List.getElem?_eq_getElem ht2]
          rfl
        have HYL := Lib.hid hyl
        have HPUT := Lib.hid hput
        have HCUR := Lib.hid hcur
        have HMFD := Lib.hid (hmf.mono hwd)
        have HBLD := Lib.hid (hbel.trans (hwd.mono hbel.size))
        have HGR := Lib.hid (show w3.heap.size ≤ gr ∧ gr < w7.heap.size from ⟨hgB, hgU⟩)
        have HYO2 : Hid (SizeOk (Y.set j (cpRow (Y.getD j []) rm)) size) := Lib.hid fun r hr => by
          rcases List.mem_or_eq_of_mem_set hr with hr | rfl
          · exact hyo r hr
          · exact ⟨by rw [cpRow_length]; exact hrow.1, cpRow_octets hrow.2 hro⟩
        have HYS := Lib.hid (sumsTo_set (S := S) hjy (cpRow (Y.getD j []) rm))
        have HMM2 := Lib.hid hmm
        clear hx hlx hcx hro hmm hyo hsp hmf hbel hrow hve hput hcur hyl hwd hjy
        go_wp2_with fail
        refine wp_region_still_tail 8 (by kernel_rfl) (by kernel_rfl) ?_
        simp only [List.take_succ_cons, List.take_zero, List.drop_succ_cons, List.drop_zero]
        repeat still_step
        refine wpStill_nil ?_
        change wpList _ _ _ _ _ wr.drew
        refine wpList_copy_far rfl (.tmp 45) (.tmp 49) 38 38 rfl 5 Tryz.underlying38 (by rw [hu0]; exact congrArg some uz1) ax size cr m cx gr rfl rfl cur 5 HCUR.out ((rm.take size).map byteV) (by rw [List.length_map, List.length_take, HMM2.out]; exact Nat.min_comm _ _) HPOS.out (by rw [List.length_map, List.length_take]; omega) (fun u hu => by obtain ⟨y, _, rfl⟩ := List.mem_map.1 hu; rfl) ?_
        intro wx hwx hgx
        have HSP := Lib.hid (HPUT.out rm wx hwx hgx)
        have hmx := MatFresh.far HMFD.out (w' := wx) (fun g' hg' hlt => hgx.block g' hlt (fun e => by have h1 := Option.some.inj e; have := HGR.out.2; omega))
        rw [← HYS.out] at hmx
        have HMF := Lib.hid hmx
        have HBL := Lib.hid (HBLD.out.grown hgx HBLD.out.size (fun k hk => by have h1 := Option.some.inj hk; have := HGR.out.1; omega))
        have HUW : Hid (w7.heap.size ≤ wx.heap.size) := Lib.hid (by have := hgx.size; simp at this; omega)
        have HYL : Hid ((Y.set j (cpRow (Y.getD j []) rm)).length = k) := Lib.hid (by rw [List.length_set]; exact HYL.out)
        have HYO := HYO2
        clear HPUT hmx HMFD HBLD HYS HCUR HPOS hwx hgx HYO2 HMM2 HGR
        generalize Y.set j (cpRow (Y.getD j []) rm) = Y' at *
        obtain ⟨vs, hown, hel, hfr⟩ := HMF.out
        rw [sumsTo_length] at hown
        have HOV := Lib.hid hown
        have HEV := Lib.hid hel
        have HFV := Lib.hid hfr
        have hwd : Below wx.heap.size wx wx.drew := (Below.refl _ _).drew
        have HWD := Lib.hid hwd
        have hszw : w3.heap.size ≤ wx.heap.size := HBL.out.size
        obtain ⟨bS, oS, heS, xs, hxs, hls⟩ := (HS3.out.mono HBL.out).rowAt (i := j) (by rw [HK.out]; exact hlt)
        obtain ⟨rfl, rfl⟩ : g1 = bS ∧ oS = 0 := by simpa [eq_comm] using heS
        obtain ⟨bY, oY, heY, xy, hxy, hly⟩ := HSP.out.sep.at.rowAt (i := j) (by rw [HYL.out]; exact hlt)
        obtain ⟨rfl, rfl⟩ : ga = bY ∧ oY = 0 := by simpa [eq_comm] using heY
        have hsS := HOK.out (S.getD j []) (getD_mem_row (by rw [HK.out]; exact hlt))
        have hsY := HYO.out (Y'.getD j []) (getD_mem_row (by rw [HYL.out]; exact hlt))
        rw [Nat.zero_add] at hxs hxy
        have HAD := Lib.hid (sAdd_any (w := wx.drew) xs xy (S.getD j []) (Y'.getD j []) size (hls.mono hwd) (hly.mono hwd) hsS.2 hsY.2 hsS.1 hsY.1 (by omega))
        have HXL : Hid ((xorW (S.getD j []) (Y'.getD j [])).length = size) := Lib.hid (by rw [xorW_length (by rw [hsS.1, hsY.1]), hsS.1])
        obtain ⟨s1, cs1, rfl, -, -, -⟩ := hls.bytes size hsS.1
        obtain ⟨s2, cs2, rfl, -, -, -⟩ := hly.bytes size hsY.1
        obtain ⟨y0, y1⟩ := (HY3.out.mono HBL.out).cells
        have HSTP := Lib.hid (sumsTo_succ S Y' j)
        clear hown hel hfr hwd heS heY hls hly hsS hsY
        generalize xorW (S.getD j []) (Y'.getD j []) = XR at *
        go_wp2_with fail
        go_region_law (first
          | (go_simp; go_at_call 20; refine HAD.out.mono ?_; rintro e w4 ⟨v4, rfl, ho4, hb4⟩; have HO4 := Lib.hid ho4; have HBD := Lib.hid (HWD.out.trans (hb4.mono HWD.out.size)); have HB4 := Lib.hid (HBL.out.trans (HBD.out.mono hszw)); have hsz4 := HB4.out.size; have hsz7 := Nat.le_trans HUW.out HBD.out.size; have hv4 := owns_kept HOV.out HBD.out; have HV4 := Lib.hid hv4; have HE4 := Lib.hid (fun i => (HEV.out i).mono HBD.out); obtain ⟨a4, c4, rfl, -, -⟩ := own_open ho4; clear ho4 hb4 hv4 hxs hxy y0 y1)
          | (refine step_append_lies _ rfl (.tmp 51) (.tmp 62) 22 rfl w7.heap.size 38 j0 (.slice none 0 0) 1 24 Tryz.underlying22 hj0 jz0 jz1 jz2 rfl (by decide) u8 j vs (by simp [Act.eval]) (HV4.out.alloc _) ⟨w4.heap.size, 0, none⟩ 1 1 [.slice a4 size c4] (by simp [Act.eval]) rfl (cell_one_new _ _ _) (fun x hx => by simp at hx; subst hx; rfl) (by decide) (by unfold maxLen; omega) (by omega) (by simp; omega) _ rfl ?_; intro g2 q2 w6 hown1 hgrow1 _ _; have HB6 := Lib.hid ((HB4.out.alloc hsz4 _).grown hgrow1 (by simp; omega) (fun k hk => Nat.le_trans HU.out ((HV4.out.lt k hk).1))); have HSP6 := Lib.hid (((HSP.out.mono HBD.out).mono ((Below.refl _ _).alloc (Nat.le_refl _) _)).grown HGA.out hgrow1 (fun b hb => (HV4.out.lt b hb).1)); have HM6 : Hid (MatFresh byteV 5 w7.heap.size 38 w6 _ (sumsTo S Y' j ++ [XR])) := Lib.hid (MatFresh.app HFV.out (fun b hb => Nat.le_trans HUW.out ((HO4.out.lt b hb).1)) (by decide) (by rw [sumsTo_length]; exact HV4.out) HE4.out (ElAt.own (n := XR.length) (by rw [HXL.out]; exact HO4.out)) (by rw [sumsTo_length]; exact hown1) hgrow1); have HZ6 := Lib.hid (show w7.heap.size ≤ w6.heap.size by have := hgrow1.size; simp at this; omega); clear hown1 hgrow1))
        all_goals go_wp2
        all_goals exact ⟨⟨j + 1, Y', by omega, by go_num, HYL.out, HYO.out, HSP6.out, by rw [HSTP.out]; exact HM6.out, HB6.out, HZ6.out⟩, by simp [intOf]; omega⟩
      · have HSP := Lib.hid hsp
        have HMF := Lib.hid hmf
        have HBL := Lib.hid hbel
        have HUW := Lib.hid huw
        have HYL := Lib.hid hyl
        have HYO := Lib.hid hyo
        clear hsp hmf hbel hyl hyo
        obtain ⟨vs, hown, hel, hfr⟩ := HMF.out
        rw [sumsTo_length] at hown
        have HOV := Lib.hid hown
        have HEV := Lib.hid hel
        have HFV := Lib.hid hfr
        have hwd : Below wr.heap.size wr wr.drew := (Below.refl _ _).drew
        have HWD := Lib.hid hwd
        have hszw : w3.heap.size ≤ wr.heap.size := HBL.out.size
        obtain ⟨bS, oS, heS, xs, hxs, hls⟩ := (HS3.out.mono HBL.out).rowAt (i := j) (by rw [HK.out]; exact hlt)
        obtain ⟨rfl, rfl⟩ : g1 = bS ∧ oS = 0 := by simpa [eq_comm] using heS
        obtain ⟨bY, oY, heY, xy, hxy, hly⟩ := HSP.out.sep.at.rowAt (i := j) (by rw [HYL.out]; exact hlt)
        obtain ⟨rfl, rfl⟩ : ga = bY ∧ oY = 0 := by simpa [eq_comm] using heY
        have hsS := HOK.out (S.getD j []) (getD_mem_row (by rw [HK.out]; exact hlt))
        have hsY := HYO.out (Y.getD j []) (getD_mem_row (by rw [HYL.out]; exact hlt))
        rw [Nat.zero_add] at hxs hxy
        have HAD := Lib.hid (sAdd_any (w := wr.drew) xs xy (S.getD j []) (Y.getD j []) size (hls.mono hwd) (hly.mono hwd) hsS.2 hsY.2 hsS.1 hsY.1 (by omega))
        have HXL : Hid ((xorW (S.getD j []) (Y.getD j [])).length = size) := Lib.hid (by rw [xorW_length (by rw [hsS.1, hsY.1]), hsS.1])
        obtain ⟨s1, cs1, rfl, -, -, -⟩ := hls.bytes size hsS.1
        obtain ⟨s2, cs2, rfl, -, -, -⟩ := hly.bytes size hsY.1
        obtain ⟨y0, y1⟩ := (HY3.out.mono HBL.out).cells
        have HSTP := Lib.hid (sumsTo_succ S Y j)
        clear hown hel hfr hwd heS heY hls hly hsS hsY
        generalize xorW (S.getD j []) (Y.getD j []) = XR at *
        go_wp2_with fail
        go_region_law (first
          | (go_simp; go_at_call 20; refine HAD.out.mono ?_; rintro e w4 ⟨v4, rfl, ho4, hb4⟩; have HO4 := Lib.hid ho4; have HBD := Lib.hid (HWD.out.trans (hb4.mono HWD.out.size)); have HB4 := Lib.hid (HBL.out.trans (HBD.out.mono hszw)); have hsz4 := HB4.out.size; have hsz7 := Nat.le_trans HUW.out HBD.out.size; have hv4 := owns_kept HOV.out HBD.out; have HV4 := Lib.hid hv4; have HE4 := Lib.hid (fun i => (HEV.out i).mono HBD.out); obtain ⟨a4, c4, rfl, -, -⟩ := own_open ho4; clear ho4 hb4 hv4 hxs hxy y0 y1)
          | (refine step_append_lies _ rfl (.tmp 51) (.tmp 62) 22 rfl w7.heap.size 38 j0 (.slice none 0 0) 1 24 Tryz.underlying22 hj0 jz0 jz1 jz2 rfl (by decide) u8 j vs (by simp [Act.eval]) (HV4.out.alloc _) ⟨w4.heap.size, 0, none⟩ 1 1 [.slice a4 size c4] (by simp [Act.eval]) rfl (cell_one_new _ _ _) (fun x hx => by simp at hx; subst hx; rfl) (by decide) (by unfold maxLen; omega) (by omega) (by simp; omega) _ rfl ?_; intro g2 q2 w6 hown1 hgrow1 _ _; have HB6 := Lib.hid ((HB4.out.alloc hsz4 _).grown hgrow1 (by simp; omega) (fun k hk => Nat.le_trans HU.out ((HV4.out.lt k hk).1))); have HSP6 := Lib.hid (((HSP.out.mono HBD.out).mono ((Below.refl _ _).alloc (Nat.le_refl _) _)).grown HGA.out hgrow1 (fun b hb => (HV4.out.lt b hb).1)); have HM6 : Hid (MatFresh byteV 5 w7.heap.size 38 w6 _ (sumsTo S Y j ++ [XR])) := Lib.hid (MatFresh.app HFV.out (fun b hb => Nat.le_trans HUW.out ((HO4.out.lt b hb).1)) (by decide) (by rw [sumsTo_length]; exact HV4.out) HE4.out (ElAt.own (n := XR.length) (by rw [HXL.out]; exact HO4.out)) (by rw [sumsTo_length]; exact hown1) hgrow1); have HZ6 := Lib.hid (show w7.heap.size ≤ w6.heap.size by have := hgrow1.size; simp at this; omega); clear hown1 hgrow1))
        all_goals go_wp2
        all_goals exact ⟨⟨j + 1, Y, by omega, by go_num, HYL.out, HYO.out, HSP6.out, by rw [HSTP.out]; exact HM6.out, HB6.out, HZ6.out⟩, by simp [intOf]; omega⟩
    · obtain rfl : j = k := by omega
      have HZO := Lib.hid (sumsTo_ok (j := j) HOK.out hyo (Nat.le_of_eq HK.out.symm) (Nat.le_of_eq hyl.symm))
      have HZL := Lib.hid (sumsTo_length S Y j)
      have HXY := Lib.hid (fun t (ht : t < j) => show (S.getD t []).length = (Y.getD t []).length by rw [(HOK.out _ (getD_mem_row (by rw [HK.out]; exact ht))).1, (hyo _ (getD_mem_row (by omega))).1])
      have HBL := Lib.hid hbel
      have HYL := Lib.hid hyl
      have HYO := Lib.hid hyo
      have HBWR := Lib.hid (HB3.out.trans (hbel.mono HB3.out.size))
      have HYM := Lib.hid hsp.sep.at
      obtain ⟨vz, hvz, -, -⟩ := id hmf
      obtain ⟨az, qz, rfl, -, -⟩ := own_open hvz
      rw [sumsTo_length] at hmf ⊢
      have HZM := Lib.hid hmf.own.at
      have HNW := Lib.hid (fun (V : World) (x : Value) (T : List (List Nat)) (hV : Below w.heap.size w V) (hx : MatAt byteV V x T) (hTl : T.length = j) (hTo : SizeOk T size) => EnNew_ok (w := V) j size x T hx hTl hl1 (by omega) hs1 (by omega) hTo (PairsAt.mono HT.out hV) (HBT.out.mono hV))
      have HY8 := Lib.hid (HY3.out.mono hbel)
      clear hvz hsp hmf hbel hyl hyo HSP7 HCP HMM HM3 HRO
      obtain ⟨y0, y1⟩ := HY8.out.cells
      go_wp2_with fail
      refine (HNW.out _ _ _ HBWR.out (HS3.out.mono HBL.out) HK.out HOK.out).mono ?_
      rintro e w8 ⟨gA, s, h, l, p, sd, vmA, A, rfl, hen, hb8⟩
      have HEA := Lib.hid hen
      have HB8 := Lib.hid (HBWR.out.trans (hb8.mono HBWR.out.size))
      have HYM := Lib.hid (HYM.out.mono hb8)
      have HZM := Lib.hid (HZM.out.mono hb8)
      have HY9 := Lib.hid (HY8.out.mono hb8)
      clear hen hb8 y0 y1 HY8 HY3 HS3
      obtain ⟨y0, y1⟩ := HY9.out.cells
      go_wp2_with fail
      refine (HNW.out _ _ _ HB8.out HYM.out HYL.out HYO.out).mono ?_
      rintro e w9 ⟨gB, s', h', l', p', sd', vmB, B, rfl, hen, hb9⟩
      obtain ⟨rfl, rfl, rfl, rfl⟩ := HEA.out.of.unique hen.of
      obtain rfl := HEA.out.seed.unique hen.seed
      have HEB := Lib.hid hen
      have HB9 := Lib.hid (HB8.out.trans (hb9.mono HB8.out.size))
      have HEA := Lib.hid (HEA.out.mono hb9)
      have HZM := Lib.hid (HZM.out.mono hb9)
      have HY10 := Lib.hid (HY9.out.mono hb9)
      clear hen hb9 y0 y1 HY9
      obtain ⟨y0, y1⟩ := HY10.out.cells
      go_wp2_with fail
      refine (HNW.out _ _ _ HB9.out HZM.out HZL.out HZO.out).mono ?_
      rintro e wa ⟨gC, s', h', l', p', sd', vmC, C, rfl, hen, hb10⟩
      obtain ⟨rfl, rfl, rfl, rfl⟩ := HEA.out.of.unique hen.of
      obtain rfl := HEA.out.seed.unique hen.seed
      have HEC := Lib.hid hen
      have HB10 := Lib.hid (HB9.out.trans (hb10.mono HB9.out.size))
      have HEA := Lib.hid (HEA.out.mono hb10)
      have HEB := Lib.hid (HEB.out.mono hb10)
      have htc := hen.tells
      have hcc := hen.cons
      rw [sysE_sumsTo] at htc hcc
      have hsx : xorW (symE l p sd size A ei) (symE l p sd size B ei) = symE l p sd size C ei := symbol_sums HXY.out HEA.out.of.2.2.1 HEA.out.tells HEB.out.tells htc HEA.out.cons HEB.out.cons hcc
      have HSX := Lib.hid hsx
      have HT10 := Lib.hid (PairsAt.mono HT.out HB10.out)
      clear hen hb10 htc hcc hsx y0 y1 HY10 HNW HZM HYM
      go_wp2_with fail
      refine (EnSym_ok HEA.out ei hei2 HT10.out).mono ?_
      rintro e wb ⟨x1, rfl, ho1, hb11⟩
      have hA := ListAt.of_owns (n := (symE l p sd size A ei).length) (f := byteV) (l := symE l p sd size A ei) (by rw [symE_length]; exact ho1)
      have HA := Lib.hid hA
      have HB11 := Lib.hid (HB10.out.trans (hb11.mono HB10.out.size))
      have HEB := Lib.hid (HEB.out.mono hb11)
      have HEC := Lib.hid (HEC.out.mono hb11)
      have HOA := Lib.hid (HEA.out.octets ei)
      obtain ⟨a1, c1, rfl, -, -⟩ := own_open ho1
      clear ho1 hb11 hA
      go_wp2_with fail
      refine (EnSym_ok HEB.out ei hei2 (PairsAt.mono HT.out HB11.out)).mono ?_
      rintro e wc ⟨x2, rfl, ho2, hb12⟩
      have hBB := ListAt.of_owns (n := (symE l p sd size B ei).length) (f := byteV) (l := symE l p sd size B ei) (by rw [symE_length]; exact ho2)
      have HBB := Lib.hid hBB
      have HB12 := Lib.hid (HB11.out.trans (hb12.mono HB11.out.size))
      have HA := Lib.hid (HA.out.mono hb12)
      have HOB := Lib.hid (HEB.out.octets ei)
      have HEC := Lib.hid (HEC.out.mono hb12)
      obtain ⟨a2, c2, rfl, -, -⟩ := own_open ho2
      clear ho2 hb12 hBB
      go_wp2_with fail
      refine (EnSym_ok HEC.out ei hei2 (PairsAt.mono HT.out HB12.out)).mono ?_
      rintro e wd ⟨x3, rfl, ho3, hb13⟩
      have hwd : Below wd.heap.size wd wd.drew := (Below.refl _ _).drew
      have HWD := Lib.hid hwd
      have hC := ListAt.of_owns (n := (symE l p sd size C ei).length) (f := byteV) (l := symE l p sd size C ei) (by rw [symE_length]; exact ho3)
      rw [← HSX.out] at hC
      have HC := Lib.hid (hC.mono hwd)
      have HB13 := Lib.hid ((HB12.out.trans (hb13.mono HB12.out.size)).trans (hwd.mono (HB12.out.trans (hb13.mono HB12.out.size)).size))
      have HAD := Lib.hid (sAdd_any (w := wd.drew) _ _ _ _ size ((HA.out.mono hb13).mono hwd) ((HBB.out.mono hb13).mono hwd) HOA.out HOB.out (symE_length _ _ _ _ _ _) (symE_length _ _ _ _ _ _) (by omega))
      obtain ⟨a3, c3, rfl, -, -⟩ := own_open ho3
      have HSAT : Hid (∀ V, Below wd.drew.heap.size wd.drew V → (convert 38 9 (.slice a3 size c3)).run Tryz.prog V = .ok (.string (strN (xorW (symE l p sd size A ei) (symE l p sd size B ei)))) V) := Lib.hid fun V hV => (HC.out.mono hV).str
      have HSD0 := Lib.hid (HSAT.out wd.drew (Below.refl _ _))
      have hee : ((size : Int) == (size : Int)) = true := by simp
      clear ho3 hb13 hwd hC HA HBB HC HSX HOA HOB
      generalize xorW (symE l p sd size A ei) (symE l p sd size B ei) = XR at *
      go_wp2_with fail
      go_region_held_law (fun w' => (convert 38 9 (.slice a3 size c3)).run Tryz.prog w' = .ok (.string (strN XR)) w')
        (first | exact HSD0.out | exact HSAT.out _ HBV.out | exact HSAT.out _ HBY2.out | go_keep)
        (first
        | (go_at_call 20; (with_reducible refine HAD.out.mono ?_); rintro e we ⟨v4, rfl, ho4, hb4⟩; have HBV := Lib.hid hb4; have HBE := Lib.hid (HB13.out.trans (hb4.mono HB13.out.size)); have hk4 := (ListAt.of_owns ho4).str; obtain ⟨a4, c4', rfl, -, -⟩ := own_open ho4; clear ho4 hb4)
        | (go_at_call 17; (with_reducible refine (HAW.out _ HBE.out).mono ?_); rintro e wz ⟨rfl, hbz⟩; have HBZ := Lib.hid (HBE.out.trans (hbz.mono HBE.out.size)); have HBY2 := Lib.hid (HBV.out.trans (hbz.mono HBV.out.size)); clear hbz))
      all_goals go_wp2
      all_goals go_ret
      all_goals exact ⟨rfl, HBZ.out⟩
end Go.Proofs.YtfibolkgpffjkaaGreatDoor
end
