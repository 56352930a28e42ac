/- The eleventh layer's laws: SystemSums. -/
import Derived.Test.YticoaioeeppapaaGreatDoorLaw11M
import Derived.Deep.AppendLies
import Derived.Deep.RegionLaw
import Derived.Deep.RegionHeldLaw
namespace Go.Proofs.YticoaioeeppapaaGreatDoor
open Go.RowKit Go.Extern.Stop Go.Stop Go.Extern

theorem MatAt.rowAt {w : World} {a : Option Addr} {n c : Nat} {L : List (List Nat)} (h : MatAt byteV w (.slice a n c) L) {i : Nat} (hi : i < L.length) : ∃ b off, a = some ⟨b, off, none⟩ ∧ ∃ x, w.cell? ⟨b, off + i, none⟩ = some x ∧ ListAt byteV w x (L.getD i []) := by
  obtain ⟨a', c', he, -, -, hc⟩ := h.opens
  obtain ⟨rfl, -, rfl⟩ : a = a' ∧ n = L.length ∧ c = c' := by simpa using he
  obtain ⟨b, off, rfl, hcc⟩ := hc (by omega)
  obtain ⟨x, h1, h2⟩ := hcc i hi
  exact ⟨b, off, rfl, x, h1, h2⟩
theorem xorW_byte {a b : List Nat} (ha : Octets a) (hb : Octets b) : Octets (xorW a b) := by
  intro x hx
  unfold xorW at hx
  obtain ⟨i, hi, rfl⟩ := List.getElem_of_mem hx
  rw [List.getElem_zipWith]
  exact Nat.xor_lt_two_pow (n := 8) (ha _ (List.getElem_mem _)) (hb _ (List.getElem_mem _))
/-- Sums of rows, row for row. -/
def sumsTo (S Y : List (List Nat)) (j : Nat) : List (List Nat) := (List.range j).map fun t => xorW (S.getD t []) (Y.getD t [])
theorem sumsTo_length (S Y : List (List Nat)) (j : Nat) : (sumsTo S Y j).length = j := by simp [sumsTo]
theorem sumsTo_succ (S Y : List (List Nat)) (j : Nat) : sumsTo S Y (j + 1) = sumsTo S Y j ++ [xorW (S.getD j []) (Y.getD j [])] := by
  unfold sumsTo
  rw [List.range_succ, List.map_append]
  rfl
theorem sumsTo_set {S Y : List (List Nat)} {j : Nat} (h : j < Y.length) (r : List Nat) : sumsTo S (Y.set j r) j = sumsTo S Y j := by
  unfold sumsTo
  refine List.map_congr_left fun t ht => ?_
  have := List.mem_range.1 ht
  rw [getD_set _ _ _ _ _ h, if_neg (by omega)]
theorem sumsTo_getD {S Y : List (List Nat)} {j t : Nat} (h : t < j) : (sumsTo S Y j).getD t [] = xorW (S.getD t []) (Y.getD t []) := by simp [sumsTo, List.getD_eq_getElem?_getD, h]
theorem sumsTo_ok {S Y : List (List Nat)} {j size : Nat} (hS : SizeOk S size) (hY : SizeOk Y size) (h1 : j ≤ S.length) (h2 : j ≤ Y.length) : SizeOk (sumsTo S Y j) size := fun r hr => by
  obtain ⟨t, ht, rfl⟩ := List.mem_map.1 hr
  have := List.mem_range.1 ht
  have a := hS (S.getD t []) (getD_mem_row (by omega))
  have b := hY (Y.getD t []) (getD_mem_row (by omega))
  exact ⟨by rw [xorW_length (by rw [a.1, b.1]), a.1], xorW_byte a.2 b.2⟩
theorem sysE_sumsTo (k s h l p seed size : Nat) (S Y : List (List Nat)) : sysE k s h l p seed size (fun t => (sumsTo S Y k).getD t []) k = sysE k s h l p seed size (fun t => xorW (S.getD t []) (Y.getD t [])) k := by
  unfold sysE
  congr 1
  refine List.map_congr_left fun t ht => ?_
  have := List.mem_range.1 ht
  simp only [sumsTo_getD this]
theorem SepIn.same {w w' : World} {B U ga n c : Nat} {L : List (List Nat)} (h : SepIn w B U (.slice (some ⟨ga, 0, none⟩) n c) L) (hga : ga < U) (hs : ∀ g, g < U → g < w.heap.size → w'.heap[g]? = w.heap[g]?) : SepIn w' B U (.slice (some ⟨ga, 0, none⟩) n c) L := by
  obtain ⟨vs, h1, h2, h3, h4⟩ := h
  refine ⟨vs, ⟨h1.1, ?_⟩, fun i hi => ⟨(h2 i hi).1, ?_⟩, h3, h4⟩
  · rcases h1.2 with e | ⟨g, cap, cur, e, k1, k2, k3⟩
    · exact .inl e
    · have : ga = g := by simpa [Value.ownBlock] using congrArg Value.ownBlock e
      subst this
      exact .inr ⟨_, cap, cur, e, k1, by rw [hs _ hga (Array.getElem?_eq_some_iff.1 k2).1]; exact k2, k3⟩
  · rcases (h2 i hi).2 with e | ⟨g, cap, cur, e, k1, k2, k3⟩
    · exact .inl e
    · have hgU := h4 i hi g (by rw [e]; rfl)
      exact .inr ⟨g, cap, cur, e, k1, by rw [hs g hgU (Array.getElem?_eq_some_iff.1 k2).1]; exact k2, k3⟩
theorem SepIn.grown {w w' : World} {B U ga n c : Nat} {L : List (List Nat)} {row : Option Nat} (h : SepIn w B U (.slice (some ⟨ga, 0, none⟩) n c) L) (hga : ga < U) (hg : w.grownBy w' row) (hr : ∀ b, row = some b → U ≤ b) : SepIn w' B U (.slice (some ⟨ga, 0, none⟩) n c) L :=
  h.same hga fun g hgU hlt => hg.block g hlt fun e => by have := hr g e.symm; omega

set_option maxRecDepth 1000000 in
set_option maxHeartbeats 20000000 in
theorem sums11 {w : World} (n : Int) (v vm : Value) (M R : List (List Nat)) (hv : MatAt byteV w v M) (ho : ∀ r ∈ M, Octets r) (hm : MatAt byteV w vm R) (hR : ∀ r ∈ R, Octets r) (hT : DgTab w) (hB : Tab w) :
    Calls Tryz.prog 7 #[.agg #[.int .i64 n, v], vm] w fun e w' => e = .returned (.bool true) ∧ Below w.heap.size w w' := by
  obtain ⟨j0, hj0, jz0, jz1, jz2⟩ := info_parts info_sym
  obtain ⟨w1, hw1, hb1, hby⟩ := blk_laid w n v
  have HW1 := Lib.hid hw1
  have HB1 := Lib.hid hb1
  have HBY := Lib.hid hby
  obtain ⟨y0, y1⟩ := hby.cells
  have HT := Lib.hid hT
  have HBT := Lib.hid hB
  have HRO := Lib.hid hR
  have HAW : Hid (∀ V, Below w.heap.size w V → Calls Tryz.prog 9 #[] V fun e w' => e = .returned (.bool true) ∧ Below V.heap.size V w') := Lib.hid fun V hV => awake11 V (PairsAt.mono hT hV) (hB.mono hV)
  have HFIT := Lib.hid (fit11 (w := w1) n v M (hv.mono hb1) ho)
  obtain ⟨av, cv, rfl, -, -, -⟩ := hv.opens
  have hMl := hm.len
  have HMM := Lib.hid hm
  obtain ⟨am, cm, rfl, -, -, -⟩ := hm.opens
  obtain ⟨q, hq⟩ : ∃ q, R.length = q := ⟨_, rfl⟩
  have HQ := Lib.hid hq
  rw [hq] at HMM hMl ⊢
  generalize M.length = ml at *
  clear hw1 hb1 hby hT hB hv ho hm hR hq
  go_enter Tryz.func7, Tryz.ntmps7
  go_upto_region 1 with fail
  rw [← HW1.out]
  go_wp2_with fail
  refine HFIT.out.mono ?_
  rintro e w2 ⟨size, u1, S, rfl, hs1, hs2, hl1, hl2, hok, hsy, hb2⟩
  have hy2 := HBY.out.mono hb2
  have hb02 := HB1.out.trans (hb2.mono HB1.out.size)
  have hgl := hy2.lt
  obtain ⟨vs, hvs, -⟩ := id hsy
  obtain ⟨a1, q1, rfl, -, hg1⟩ := own_open hvs
  obtain ⟨g1, rfl⟩ := hg1 (by omega)
  obtain ⟨k, hk⟩ : ∃ k, S.length = k := ⟨_, rfl⟩
  rw [hk] at hl1 hl2 hsy ⊢
  obtain ⟨w3, hw3⟩ : ∃ w3, w3 = (w2.setCell ⟨w.heap.size, 0, none⟩ (.int .i64 (size : Int))).setCell ⟨w.heap.size, 1, none⟩ (.slice (some ⟨g1, 0, none⟩) k q1) := ⟨_, rfl⟩
  have HW3 := Lib.hid hw3
  have HY3 : Hid (BlkBox w3 w.heap.size size (.slice (some ⟨g1, 0, none⟩) k q1)) := Lib.hid (by rw [hw3]; exact hy2.store _ _)
  have HS3 : Hid (MatAt byteV w3 (.slice (some ⟨g1, 0, none⟩) k q1) S) := Lib.hid (by
    rw [hw3]
    have h1 := hsy.set hy2 0 (.int .i64 (size : Int))
    exact (h1.set (heap_setCell_at (j := 0) (u := .int .i64 (size : Int)) hy2) 1 (.slice (some ⟨g1, 0, none⟩) k q1)).at)
  have HB3 : Hid (Below w.heap.size w w3) := Lib.hid (by
    rw [hw3]
    exact (hb02.setCell (p := ⟨w.heap.size, 0, none⟩) (Nat.le_refl _) _).setCell (p := ⟨w.heap.size, 1, none⟩) (Nat.le_refl _) _)
  have HK := Lib.hid hk
  have HOK := Lib.hid hok
  obtain ⟨z0, z1⟩ := hy2.cells
  obtain ⟨f0, f1⟩ := hy2.free
  clear hw3 hsy hvs hok hb2 hb02 hk hy2 hg1 y0 y1
  go_upto_region 2 with fail
  rw [← HW3.out]
  obtain ⟨y0, y1⟩ := HY3.out.cells
  clear z0 z1 f0 f1
  go_wp2_with fail
  refine (rOf_any k hl1 (by omega)).mono ?_
  rintro e w4 ⟨s, h, l, p, rfl, hof, hb4⟩
  obtain ⟨w5, hw5, hb5, hx5⟩ := par_laid w4 k s h l p
  have hb35 := hb4.trans (hb5.mono hb4.size)
  have HW5 := Lib.hid hw5
  have HX5 := Lib.hid hx5
  have HOF := Lib.hid hof
  have HY5 := Lib.hid (HY3.out.mono hb35)
  have HS5 := Lib.hid (HS3.out.mono hb35)
  have HB5 := Lib.hid (HB3.out.trans (hb35.mono HB3.out.size))
  have HM5 := Lib.hid (HMM.out.mono HB5.out)
  have HCP := Lib.hid (sCopy_sep (w := w5) _ S (HS3.out.mono hb35) (by rw [HK.out]; omega) (fun r hr => by rw [(HOK.out r hr).1]; omega))
  clear hw5 hb4 hb5 hx5 hof hb35 y0 y1
  unfold parV parC
  go_upto_region 3 with fail
  rw [← HW5.out]
  obtain ⟨g4, hg4⟩ : ∃ g4, w4.heap.size = g4 := ⟨_, rfl⟩
  rw [hg4] at HX5 ⊢
  clear hg4
  obtain ⟨y0, y1⟩ := HY5.out.cells
  go_wp2_with fail
  refine HCP.out.mono ?_
  rintro e w7 ⟨v7, rfl, hsp7, hb7⟩
  have HSP7 := Lib.hid hsp7.inside
  have HB7 := Lib.hid hb7
  have hU : w5.heap.size ≤ w7.heap.size := hb7.size
  have HU := Lib.hid hU
  obtain ⟨vs7, hvs7, -⟩ := id hsp7
  obtain ⟨a7, q7, rfl, -, hg7⟩ := own_open hvs7
  obtain ⟨ga, rfl⟩ := hg7 (by rw [HK.out]; omega)
  have HGA : Hid (ga < w7.heap.size) := Lib.hid ((hvs7.lt ga rfl).2)
  rw [HK.out] at HSP7 ⊢
  clear hsp7 hvs7 hg7 hb7 hU y0 y1
  go_wp2_with fail
  go_loopw [7, 8] (fun zv i wr => ∃ (j : Nat) (Y : List (List Nat)), j ≤ k ∧ i = .int .i64 j ∧ Y.length = k ∧ SizeOk Y size ∧ SepIn wr w5.heap.size w7.heap.size (.slice (some ⟨ga, 0, none⟩) k q7) Y ∧ MatFresh byteV 5 w7.heap.size 52 wr zv (sumsTo S Y j) ∧ Below w5.heap.size w5 wr ∧ w7.heap.size ≤ wr.heap.size) (fun _ i _ => k - (intOf i).toNat)
  case atStart => exact ⟨0, S, Nat.zero_le _, rfl, HK.out, HOK.out, HSP7.out.mono ((Below.refl _ _).alloc (Nat.le_refl _) _), by rw [show sumsTo S S 0 = [] from rfl]; exact MatFresh.start w7 (Nat.le_refl _), HB7.out.alloc HU.out _, by simp⟩
  case round =>
    obtain ⟨j, Y, hj, rfl, hyl, hyo, hsp, hmf, hbel, huw⟩ := hrel
    have HYL := Lib.hid hyl
    have HYO := Lib.hid hyo
    have HSP := Lib.hid hsp
    have HMF := Lib.hid hmf
    have HBL := Lib.hid hbel
    have HUW := Lib.hid huw
    clear hyl hyo hsp hmf hbel huw
    by_cases hlt : j < k
    · by_cases hlm : j < q
      · obtain ⟨bm, om, rfl, x, hx, hlx⟩ := HM5.out.rowAt (i := j) (by rw [HQ.out]; exact hlm)
        have hro := HRO.out (R.getD j []) (getD_mem_row (by rw [HQ.out]; exact hlm))
        obtain ⟨m, hmm⟩ : ∃ m, (R.getD j []).length = m := ⟨_, rfl⟩
        obtain ⟨ax, cx, rfl, -, -, hcx⟩ := hlx.bytes m hmm
        have HCX := Lib.hid hcx
        have HX := Lib.hid hx
        have HROW := Lib.hid (fun t => hro.getD t)
        clear hx hlx hcx hro hmm
        generalize R.getD j [] = rw' at *
        obtain ⟨y0, y1⟩ := (HY5.out.mono HBL.out).cells
        go_wp2_with fail
        obtain ⟨wo, hwo⟩ : ∃ wo, wo = wr := ⟨_, rfl⟩
        subst hwo
        clear y0 y1
        go_loopw [9] (fun i wr => ∃ (t : Nat) (Y : List (List Nat)), t ≤ size ∧ i = .int .i64 t ∧ Y.length = k ∧ SizeOk Y size ∧ SepIn wr w5.heap.size w7.heap.size (.slice (some ⟨ga, 0, none⟩) k q7) Y ∧ MatFresh byteV 5 w7.heap.size 52 wr u7 (sumsTo S Y j) ∧ Below w5.heap.size w5 wr ∧ w7.heap.size ≤ wr.heap.size) (fun i _ => size - (intOf i).toNat)
        case atStart => exact ⟨0, Y, Nat.zero_le _, rfl, HYL.out, HYO.out, HSP.out, HMF.out, HBL.out, HUW.out⟩
        case round =>
          clear HYL HYO HSP HMF HBL HUW
          obtain ⟨t, Y, ht, rfl, hyl, hyo, hsp, hmf, hbel, huw⟩ := hrel
          have HYL := Lib.hid hyl
          have HYO := Lib.hid hyo
          have HSP := Lib.hid hsp
          have HMF := Lib.hid hmf
          have HBL := Lib.hid hbel
          have HUW := Lib.hid huw
          have hxm := (hbel.cell (p := ⟨bm, om + j, none⟩) (World.block_lt_of_cell? w5 _ HX.out)).trans HX.out
          have hbs := hbel.size
          clear hyl hmf hbel huw
          obtain ⟨y0, y1⟩ := (HY5.out.mono HBL.out).cells
          by_cases htn : t < m ∧ t < size
          · obtain ⟨htm, htz⟩ := htn
            obtain ⟨b2, o2, rfl, hc2⟩ := HCX.out (by omega)
            have hxb := (HBL.out.cell (p := ⟨b2, o2 + t, none⟩) (World.block_lt_of_cell? w5 _ (hc2 t htm))).trans (hc2 t htm)
            have hyb := HROW.out t
            have hjy : j < Y.length := by rw [HYL.out]; exact hlt
            have hrow := hyo (Y.getD j []) (getD_mem_row hjy)
            obtain ⟨ga', ca, g, c, hve, -, hcell, hgB, hgU, hcs, hfr, hwr⟩ := hsp.row hjy (by rw [hrow.1]; omega)
            obtain ⟨rfl, -, rfl⟩ : ga = ga' ∧ k = Y.length ∧ q7 = ca := by simpa using hve
            rw [hrow.1] at hcell hcs hwr
            have hf := hfr t
            have hxg := hcs t htz
            have HWR := Lib.hid (fun y => hwr t y htz)
            have HG := Lib.hid (show w5.heap.size ≤ g ∧ g < w7.heap.size from ⟨hgB, hgU⟩)
            have HJY := Lib.hid hjy
            have HST := Lib.hid (sumsTo_set (S := S) hjy ((Y.getD j []).set t (rw'.getD t 0)))
            clear hyo hsp hc2 hfr hwr hve hrow hgB hgU hcs hjy
            generalize rw'.getD t 0 = yv at *
            go_wp2_with fail
            go_region
            go_wp2
            go_roundw
            case rel => exact ⟨t + 1, Y.set j ((Y.getD j []).set t yv), by omega, by go_num, by rw [List.length_set]; exact HYL.out, sizeOk_set HYO.out HJY.out hyb, (HWR.out yv).mono (Below.refl _ _).drew, by rw [HST.out]; exact MatFresh.far HMF.out (fun g' hg' _ => Below.heap_setCell _ _ _ _ (show g' ≠ g by have := HG.out.2; omega)), (HBL.out.setCell (p := ⟨g, t, none⟩) HG.out.1 _).drew, by simpa using HUW.out⟩
            case measure => simp [intOf]; omega
          · clear hyo hsp
            by_cases htm : t < m
            · obtain rfl : size = t := by omega
              obtain ⟨vs, hown, hel, hfr⟩ := HMF.out
              rw [sumsTo_length] at hown
              have HOV := Lib.hid hown
              have HEV := Lib.hid hel
              have HFV := Lib.hid hfr
              have hwd : Below wr.heap.size wr wr.drew := (Below.refl _ _).drew
              have HWD := Lib.hid hwd
              have hszw : w5.heap.size ≤ wr.heap.size := HBL.out.size
              obtain ⟨bS, oS, heS, xs, hxs, hls⟩ := (HS5.out.mono HBL.out).rowAt (i := j) (by rw [HK.out]; exact hlt)
              obtain ⟨rfl, rfl⟩ : g1 = bS ∧ oS = 0 := by simpa [eq_comm] using heS
              obtain ⟨bY, oY, heY, xy, hxy, hly⟩ := HSP.out.sep.at.rowAt (i := j) (by rw [HYL.out]; exact hlt)
              obtain ⟨rfl, rfl⟩ : ga = bY ∧ oY = 0 := by simpa [eq_comm] using heY
              have hsS := HOK.out (S.getD j []) (getD_mem_row (by rw [HK.out]; exact hlt))
              have hsY := HYO.out (Y.getD j []) (getD_mem_row (by rw [HYL.out]; exact hlt))
              rw [Nat.zero_add] at hxs hxy
              have HAD := Lib.hid (sAdd_any (w := wr.drew) xs xy (S.getD j []) (Y.getD j []) size (hls.mono hwd) (hly.mono hwd) hsS.2 hsY.2 hsS.1 hsY.1 (by omega))
              have HXL : Hid ((xorW (S.getD j []) (Y.getD j [])).length = size) := Lib.hid (by rw [xorW_length (by rw [hsS.1, hsY.1]), hsS.1])
              obtain ⟨s1, cs1, rfl, -, -, -⟩ := hls.bytes size hsS.1
              obtain ⟨s2, cs2, rfl, -, -, -⟩ := hly.bytes size hsY.1
              obtain ⟨y0, y1⟩ := (HY5.out.mono HBL.out).cells
              have HSTP := Lib.hid (sumsTo_succ S Y j)
              clear hown hel hfr hwd heS heY hls hly hsS hsY
              generalize xorW (S.getD j []) (Y.getD j []) = XR at *
              go_wp2_with fail
              go_region_law (first
                | (go_simp; go_at_call 26; refine HAD.out.mono ?_; rintro e w4 ⟨v4, rfl, ho4, hb4⟩; have HO4 := Lib.hid ho4; have HBD := Lib.hid (HWD.out.trans (hb4.mono HWD.out.size)); have HB4 := Lib.hid (HBL.out.trans (HBD.out.mono hszw)); have hsz4 := HB4.out.size; have hsz7 := Nat.le_trans HUW.out HBD.out.size; have hv4 := owns_kept HOV.out HBD.out; have HV4 := Lib.hid hv4; have HE4 := Lib.hid (fun i => (HEV.out i).mono HBD.out); obtain ⟨a4, c4, rfl, -, -⟩ := own_open ho4; clear ho4 hb4 hv4 hxs hxy y0 y1)
                | (refine step_append_lies _ rfl (.tmp 67) (.tmp 78) 44 rfl w7.heap.size 52 j0 (.slice none 0 0) 1 24 Tryz.underlying44 hj0 jz0 jz1 jz2 rfl (by decide) u7 j vs (by simp [Act.eval]) (HV4.out.alloc _) ⟨w4.heap.size, 0, none⟩ 1 1 [.slice a4 size c4] (by simp [Act.eval]) rfl (cell_one_new _ _ _) (fun x hx => by simp at hx; subst hx; rfl) (by decide) (by unfold maxLen; omega) (by omega) (by simp; omega) _ rfl ?_; intro g2 q2 w6 hown1 hgrow1 _ _; have HB6 := Lib.hid ((HB4.out.alloc hsz4 _).grown hgrow1 (by simp; omega) (fun k hk => Nat.le_trans HU.out ((HV4.out.lt k hk).1))); have HSP6 := Lib.hid (((HSP.out.mono HBD.out).mono ((Below.refl _ _).alloc (Nat.le_refl _) _)).grown HGA.out hgrow1 (fun b hb => (HV4.out.lt b hb).1)); have HM6 : Hid (MatFresh byteV 5 w7.heap.size 52 w6 _ (sumsTo S Y j ++ [XR])) := Lib.hid (MatFresh.app HFV.out (fun b hb => Nat.le_trans HUW.out ((HO4.out.lt b hb).1)) (by decide) (by rw [sumsTo_length]; exact HV4.out) HE4.out (ElAt.own (n := XR.length) (by rw [HXL.out]; exact HO4.out)) (by rw [sumsTo_length]; exact hown1) hgrow1); have HZ6 := Lib.hid (show w7.heap.size ≤ w6.heap.size by have := hgrow1.size; simp at this; omega); clear hown1 hgrow1))
              all_goals go_wp2
              all_goals exact ⟨⟨j + 1, Y, by omega, by go_num, HYL.out, HYO.out, HSP6.out, by rw [HSTP.out]; exact HM6.out, HB6.out, HZ6.out⟩, by simp [intOf]; omega⟩
            · clear htn
              obtain ⟨vs, hown, hel, hfr⟩ := HMF.out
              rw [sumsTo_length] at hown
              have HOV := Lib.hid hown
              have HEV := Lib.hid hel
              have HFV := Lib.hid hfr
              have hwd : Below wr.heap.size wr wr.drew := (Below.refl _ _).drew
              have HWD := Lib.hid hwd
              have hszw : w5.heap.size ≤ wr.heap.size := HBL.out.size
              obtain ⟨bS, oS, heS, xs, hxs, hls⟩ := (HS5.out.mono HBL.out).rowAt (i := j) (by rw [HK.out]; exact hlt)
              obtain ⟨rfl, rfl⟩ : g1 = bS ∧ oS = 0 := by simpa [eq_comm] using heS
              obtain ⟨bY, oY, heY, xy, hxy, hly⟩ := HSP.out.sep.at.rowAt (i := j) (by rw [HYL.out]; exact hlt)
              obtain ⟨rfl, rfl⟩ : ga = bY ∧ oY = 0 := by simpa [eq_comm] using heY
              have hsS := HOK.out (S.getD j []) (getD_mem_row (by rw [HK.out]; exact hlt))
              have hsY := HYO.out (Y.getD j []) (getD_mem_row (by rw [HYL.out]; exact hlt))
              rw [Nat.zero_add] at hxs hxy
              have HAD := Lib.hid (sAdd_any (w := wr.drew) xs xy (S.getD j []) (Y.getD j []) size (hls.mono hwd) (hly.mono hwd) hsS.2 hsY.2 hsS.1 hsY.1 (by omega))
              have HXL : Hid ((xorW (S.getD j []) (Y.getD j [])).length = size) := Lib.hid (by rw [xorW_length (by rw [hsS.1, hsY.1]), hsS.1])
              obtain ⟨s1, cs1, rfl, -, -, -⟩ := hls.bytes size hsS.1
              obtain ⟨s2, cs2, rfl, -, -, -⟩ := hly.bytes size hsY.1
              obtain ⟨y0, y1⟩ := (HY5.out.mono HBL.out).cells
              have HSTP := Lib.hid (sumsTo_succ S Y j)
              clear hown hel hfr hwd heS heY hls hly hsS hsY
              generalize xorW (S.getD j []) (Y.getD j []) = XR at *
              go_wp2_with fail
              go_region_law (first
                | (go_simp; go_at_call 26; refine HAD.out.mono ?_; rintro e w4 ⟨v4, rfl, ho4, hb4⟩; have HO4 := Lib.hid ho4; have HBD := Lib.hid (HWD.out.trans (hb4.mono HWD.out.size)); have HB4 := Lib.hid (HBL.out.trans (HBD.out.mono hszw)); have hsz4 := HB4.out.size; have hsz7 := Nat.le_trans HUW.out HBD.out.size; have hv4 := owns_kept HOV.out HBD.out; have HV4 := Lib.hid hv4; have HE4 := Lib.hid (fun i => (HEV.out i).mono HBD.out); obtain ⟨a4, c4, rfl, -, -⟩ := own_open ho4; clear ho4 hb4 hv4 hxs hxy y0 y1)
                | (refine step_append_lies _ rfl (.tmp 67) (.tmp 78) 44 rfl w7.heap.size 52 j0 (.slice none 0 0) 1 24 Tryz.underlying44 hj0 jz0 jz1 jz2 rfl (by decide) u7 j vs (by simp [Act.eval]) (HV4.out.alloc _) ⟨w4.heap.size, 0, none⟩ 1 1 [.slice a4 size c4] (by simp [Act.eval]) rfl (cell_one_new _ _ _) (fun x hx => by simp at hx; subst hx; rfl) (by decide) (by unfold maxLen; omega) (by omega) (by simp; omega) _ rfl ?_; intro g2 q2 w6 hown1 hgrow1 _ _; have HB6 := Lib.hid ((HB4.out.alloc hsz4 _).grown hgrow1 (by simp; omega) (fun k hk => Nat.le_trans HU.out ((HV4.out.lt k hk).1))); have HSP6 := Lib.hid (((HSP.out.mono HBD.out).mono ((Below.refl _ _).alloc (Nat.le_refl _) _)).grown HGA.out hgrow1 (fun b hb => (HV4.out.lt b hb).1)); have HM6 : Hid (MatFresh byteV 5 w7.heap.size 52 w6 _ (sumsTo S Y j ++ [XR])) := Lib.hid (MatFresh.app HFV.out (fun b hb => Nat.le_trans HUW.out ((HO4.out.lt b hb).1)) (by decide) (by rw [sumsTo_length]; exact HV4.out) HE4.out (ElAt.own (n := XR.length) (by rw [HXL.out]; exact HO4.out)) (by rw [sumsTo_length]; exact hown1) hgrow1); have HZ6 := Lib.hid (show w7.heap.size ≤ w6.heap.size by have := hgrow1.size; simp at this; omega); clear hown1 hgrow1))
              all_goals go_wp2
              all_goals exact ⟨⟨j + 1, Y, by omega, by go_num, HYL.out, HYO.out, HSP6.out, by rw [HSTP.out]; exact HM6.out, HB6.out, HZ6.out⟩, by simp [intOf]; omega⟩
      · clear HM5 HMM
        obtain ⟨vs, hown, hel, hfr⟩ := HMF.out
        rw [sumsTo_length] at hown
        have HOV := Lib.hid hown
        have HEV := Lib.hid hel
        have HFV := Lib.hid hfr
        have hwd : Below wr.heap.size wr wr.drew := (Below.refl _ _).drew
        have HWD := Lib.hid hwd
        have hszw : w5.heap.size ≤ wr.heap.size := HBL.out.size
        obtain ⟨bS, oS, heS, xs, hxs, hls⟩ := (HS5.out.mono HBL.out).rowAt (i := j) (by rw [HK.out]; exact hlt)
        obtain ⟨rfl, rfl⟩ : g1 = bS ∧ oS = 0 := by simpa [eq_comm] using heS
        obtain ⟨bY, oY, heY, xy, hxy, hly⟩ := HSP.out.sep.at.rowAt (i := j) (by rw [HYL.out]; exact hlt)
        obtain ⟨rfl, rfl⟩ : ga = bY ∧ oY = 0 := by simpa [eq_comm] using heY
        have hsS := HOK.out (S.getD j []) (getD_mem_row (by rw [HK.out]; exact hlt))
        have hsY := HYO.out (Y.getD j []) (getD_mem_row (by rw [HYL.out]; exact hlt))
        rw [Nat.zero_add] at hxs hxy
        have HAD := Lib.hid (sAdd_any (w := wr.drew) xs xy (S.getD j []) (Y.getD j []) size (hls.mono hwd) (hly.mono hwd) hsS.2 hsY.2 hsS.1 hsY.1 (by omega))
        have HXL : Hid ((xorW (S.getD j []) (Y.getD j [])).length = size) := Lib.hid (by rw [xorW_length (by rw [hsS.1, hsY.1]), hsS.1])
        obtain ⟨s1, cs1, rfl, -, -, -⟩ := hls.bytes size hsS.1
        obtain ⟨s2, cs2, rfl, -, -, -⟩ := hly.bytes size hsY.1
        obtain ⟨y0, y1⟩ := (HY5.out.mono HBL.out).cells
        have HSTP := Lib.hid (sumsTo_succ S Y j)
        clear hown hel hfr hwd heS heY hls hly hsS hsY
        generalize xorW (S.getD j []) (Y.getD j []) = XR at *
        go_wp2_with fail
        go_region_law (first
          | (go_simp; go_at_call 26; refine HAD.out.mono ?_; rintro e w4 ⟨v4, rfl, ho4, hb4⟩; have HO4 := Lib.hid ho4; have HBD := Lib.hid (HWD.out.trans (hb4.mono HWD.out.size)); have HB4 := Lib.hid (HBL.out.trans (HBD.out.mono hszw)); have hsz4 := HB4.out.size; have hsz7 := Nat.le_trans HUW.out HBD.out.size; have hv4 := owns_kept HOV.out HBD.out; have HV4 := Lib.hid hv4; have HE4 := Lib.hid (fun i => (HEV.out i).mono HBD.out); obtain ⟨a4, c4, rfl, -, -⟩ := own_open ho4; clear ho4 hb4 hv4 hxs hxy y0 y1)
          | (refine step_append_lies _ rfl (.tmp 67) (.tmp 78) 44 rfl w7.heap.size 52 j0 (.slice none 0 0) 1 24 Tryz.underlying44 hj0 jz0 jz1 jz2 rfl (by decide) u7 j vs (by simp [Act.eval]) (HV4.out.alloc _) ⟨w4.heap.size, 0, none⟩ 1 1 [.slice a4 size c4] (by simp [Act.eval]) rfl (cell_one_new _ _ _) (fun x hx => by simp at hx; subst hx; rfl) (by decide) (by unfold maxLen; omega) (by omega) (by simp; omega) _ rfl ?_; intro g2 q2 w6 hown1 hgrow1 _ _; have HB6 := Lib.hid ((HB4.out.alloc hsz4 _).grown hgrow1 (by simp; omega) (fun k hk => Nat.le_trans HU.out ((HV4.out.lt k hk).1))); have HSP6 := Lib.hid (((HSP.out.mono HBD.out).mono ((Below.refl _ _).alloc (Nat.le_refl _) _)).grown HGA.out hgrow1 (fun b hb => (HV4.out.lt b hb).1)); have HM6 : Hid (MatFresh byteV 5 w7.heap.size 52 w6 _ (sumsTo S Y j ++ [XR])) := Lib.hid (MatFresh.app HFV.out (fun b hb => Nat.le_trans HUW.out ((HO4.out.lt b hb).1)) (by decide) (by rw [sumsTo_length]; exact HV4.out) HE4.out (ElAt.own (n := XR.length) (by rw [HXL.out]; exact HO4.out)) (by rw [sumsTo_length]; exact hown1) hgrow1); have HZ6 := Lib.hid (show w7.heap.size ≤ w6.heap.size by have := hgrow1.size; simp at this; omega); clear hown1 hgrow1))
        all_goals go_wp2
        all_goals exact ⟨⟨j + 1, Y, by omega, by go_num, HYL.out, HYO.out, HSP6.out, by rw [HSTP.out]; exact HM6.out, HB6.out, HZ6.out⟩, by simp [intOf]; omega⟩
    · obtain rfl : j = k := by omega
      clear HSP7 HCP HMM HM5
      have HSE := Lib.hid (Seed_ok (w := wr) j hl1 (by omega) (PairsAt.mono HT.out (HB5.out.trans (HBL.out.mono HB5.out.size))) (HBT.out.mono (HB5.out.trans (HBL.out.mono HB5.out.size))))
      have HZO := Lib.hid (sumsTo_ok (j := j) HOK.out HYO.out (Nat.le_of_eq HK.out.symm) (Nat.le_of_eq HYL.out.symm))
      have HZL := Lib.hid (sumsTo_length S Y j)
      have HXY := Lib.hid (fun t (ht : t < j) => show (S.getD t []).length = (Y.getD t []).length by rw [(HOK.out _ (getD_mem_row (by rw [HK.out]; exact ht))).1, (HYO.out _ (getD_mem_row (by rw [HYL.out]; exact ht))).1])
      obtain ⟨vz, hvz, -, -⟩ := HMF.out
      obtain ⟨az, qz, rfl, -, -⟩ := own_open hvz
      rw [sumsTo_length] at HMF ⊢
      clear hvz
      have HX8 := Lib.hid (HX5.out.mono HBL.out)
      have HY8 := Lib.hid (HY5.out.mono HBL.out)
      obtain ⟨c0, c1, c2, c3, c4⟩ := HX8.out.cells
      go_wp2_with fail
      refine HSE.out.mono ?_
      rintro e w8 ⟨s', h', l', p', sd, rfl, hof, hsd, hb8⟩
      obtain ⟨rfl, rfl, rfl, rfl⟩ := hof.unique HOF.out
      have HSD := Lib.hid hsd
      have HB8 := Lib.hid (HBL.out.trans (hb8.mono HBL.out.size))
      have HY8 := Lib.hid (HY5.out.mono HB8.out)
      have HX8 := Lib.hid (HX5.out.mono HB8.out)
      have HYM := Lib.hid (HSP.out.sep.at.mono hb8)
      have HZM := Lib.hid (HMF.out.own.at.mono hb8)
      have hl1' : 0 < l' := by have := HOF.out.2.2.1; omega
      have hlb : l' ≤ 157 := (OfP.bounds HOF.out hl1 (by omega)).2.2.2.2.1
      have HMA := Lib.hid fun (V : World) (x : Value) (T : List (List Nat)) (hV : Below w5.heap.size w5 V) (hx : MatAt byteV V x T) (hTl : T.length = j) (hTo : SizeOk T size) => Middle_full (w := V) j s' h' l' p' sd size x T HOF.out hl1 (by omega) HSD.out.1 hs1 (by omega) hx hTl hTo (PairsAt.mono HT.out (HB5.out.trans (hV.mono HB5.out.size))) (HBT.out.mono (HB5.out.trans (hV.mono HB5.out.size))) HSD.out.2.1
      unfold parV parC at HMA
      clear hof hsd hb8 c0 c1 c2 c3 c4 HSE HMF HSP
      obtain ⟨c0, c1, c2, c3, c4⟩ := HX8.out.cells
      obtain ⟨y0, y1⟩ := HY8.out.cells
      go_wp2_with fail
      refine (HMA.out _ _ _ HB8.out (HS5.out.mono HB8.out) HK.out HOK.out).mono ?_
      rintro e w9 ⟨va, A, rfl, hma, hta, hca, hb9⟩
      have HB9 := Lib.hid (HB8.out.trans (hb9.mono HB8.out.size))
      have HTA := Lib.hid hta
      have HCA := Lib.hid hca
      have HYM := Lib.hid (HYM.out.mono hb9)
      have HZM := Lib.hid (HZM.out.mono hb9)
      obtain ⟨vsa, hva, -, -⟩ := id hma
      rw [hta.1] at hva
      obtain ⟨aa, qa, rfl, -, haa⟩ := own_open hva
      obtain ⟨ba, rfl⟩ := haa hl1'
      have HA := Lib.hid hma.own.at
      have HY9 := Lib.hid (HY8.out.mono hb9)
      have HX9 := Lib.hid (HX8.out.mono hb9)
      clear hma hta hca hb9 hva haa c0 c1 c2 c3 c4 y0 y1
      obtain ⟨c0, c1, c2, c3, c4⟩ := HX9.out.cells
      obtain ⟨y0, y1⟩ := HY9.out.cells
      go_wp2_with fail
      refine (HMA.out _ _ _ HB9.out HYM.out HYL.out HYO.out).mono ?_
      rintro e wa ⟨vb, B, rfl, hmb, htb, hcb, hb10⟩
      have HB10 := Lib.hid (HB9.out.trans (hb10.mono HB9.out.size))
      have HTB := Lib.hid htb
      have HCB := Lib.hid hcb
      have HZM := Lib.hid (HZM.out.mono hb10)
      have HA := Lib.hid (HA.out.mono hb10)
      obtain ⟨vsb, hvb, -, -⟩ := id hmb
      rw [htb.1] at hvb
      obtain ⟨ab, qb, rfl, -, hab⟩ := own_open hvb
      obtain ⟨bb, rfl⟩ := hab hl1'
      have HBB := Lib.hid hmb.own.at
      have HY10 := Lib.hid (HY9.out.mono hb10)
      have HX10 := Lib.hid (HX9.out.mono hb10)
      clear hmb htb hcb hb10 hvb hab c0 c1 c2 c3 c4 y0 y1
      obtain ⟨c0, c1, c2, c3, c4⟩ := HX10.out.cells
      obtain ⟨y0, y1⟩ := HY10.out.cells
      go_wp2_with fail
      refine (HMA.out _ _ _ HB10.out HZM.out HZL.out HZO.out).mono ?_
      rintro e wc ⟨vc, C, rfl, hmc, htc, hcc, hb11⟩
      have HB11 := Lib.hid (HB10.out.trans (hb11.mono HB10.out.size))
      rw [sysE_sumsTo] at htc hcc
      have HTS : Hid (∀ t, t < l' → xorW (A.getD t []) (B.getD t []) = C.getD t []) := Lib.hid fun t ht => tells_sum HXY.out HOF.out.2.2.1 HTA.out HTB.out htc HCA.out HCB.out hcc ht
      have HTC := Lib.hid htc
      have HA := Lib.hid (HA.out.mono hb11)
      have HBB := Lib.hid (HBB.out.mono hb11)
      obtain ⟨vsc, hvc, -, -⟩ := id hmc
      rw [htc.1] at hvc
      obtain ⟨ac, qc, rfl, -, hac⟩ := own_open hvc
      obtain ⟨bc, rfl⟩ := hac hl1'
      have HCC := Lib.hid hmc.own.at
      have HX11 := Lib.hid (HX10.out.mono hb11)
      clear hmc htc hcc hb11 hvc hac c0 c1 c2 c3 c4 y0 y1
      obtain ⟨c0, c1, c2, c3, c4⟩ := HX11.out.cells
      go_wp2_with fail
      clear HY5 HY8 HY9 HY10 HX5 HX8 HX9 HX10 HMA c0 c1 c2 c3 c4
      obtain ⟨wo, hwo⟩ : ∃ wo, wo = wc := ⟨_, rfl⟩
      subst hwo
      go_loopw [18] (fun i wr => ∃ t : Nat, t ≤ l' ∧ i = .int .i64 t ∧ Below wo.heap.size wo wr) (fun i _ => l' - (intOf i).toNat)
      case atStart => exact ⟨0, Nat.zero_le _, rfl, Below.refl _ _⟩
      case round =>
        obtain ⟨t, ht, rfl, hbel⟩ := hrel
        have HBE := Lib.hid hbel
        obtain ⟨c0, c1, c2, c3, c4⟩ := (HX11.out.mono hbel).cells
        clear hbel
        by_cases htl : t < l'
        · have hwd : Below wr.heap.size wr wr.drew := (Below.refl _ _).drew
          obtain ⟨b1, o1, e1, xa, hxa, hla⟩ := (HA.out.mono HBE.out).rowAt (i := t) (by rw [HTA.out.1]; exact htl)
          obtain ⟨rfl, rfl⟩ : ba = b1 ∧ o1 = 0 := by simpa [eq_comm] using e1
          obtain ⟨b2, o2, e2, xb, hxb, hlb⟩ := (HBB.out.mono HBE.out).rowAt (i := t) (by rw [HTB.out.1]; exact htl)
          obtain ⟨rfl, rfl⟩ : bb = b2 ∧ o2 = 0 := by simpa [eq_comm] using e2
          obtain ⟨b3, o3, e3, xc, hxc, hlc⟩ := (HCC.out.mono HBE.out).rowAt (i := t) (by rw [HTC.out.1]; exact htl)
          obtain ⟨rfl, rfl⟩ : bc = b3 ∧ o3 = 0 := by simpa [eq_comm] using e3
          rw [Nat.zero_add] at hxa hxb hxc
          have hA := HTA.out.row _ (getD_mem_row (by rw [HTA.out.1]; exact htl))
          have hB := HTB.out.row _ (getD_mem_row (by rw [HTB.out.1]; exact htl))
          have hC := HTC.out.row _ (getD_mem_row (by rw [HTC.out.1]; exact htl))
          have HAD := Lib.hid (sAdd_any (w := wr.drew) xa xb _ _ size (hla.mono hwd) (hlb.mono hwd) hA.2 hB.2 hA.1 hB.1 (by omega))
          obtain ⟨a1, q1', rfl, -, -, -⟩ := hla.bytes size hA.1
          obtain ⟨a2, q2', rfl, -, -, -⟩ := hlb.bytes size hB.1
          obtain ⟨a3, q3', rfl, -, -, -⟩ := hlc.bytes size hC.1
          rw [← HTS.out t htl] at hlc
          have HLC := Lib.hid (hlc.mono hwd)
          have HWD := Lib.hid hwd
          have hcl1 := World.block_lt_of_cell? wr _ hxa
          have hcl2 := World.block_lt_of_cell? wr _ hxb
          have hcl3 := World.block_lt_of_cell? wr _ hxc
          have HSAT : Hid (∀ V, Below wr.drew.heap.size wr.drew V → V.cell? ⟨ba, t, none⟩ = some (.slice a1 size q1') ∧ V.cell? ⟨bb, t, none⟩ = some (.slice a2 size q2') ∧ V.cell? ⟨bc, t, none⟩ = some (.slice a3 size q3') ∧ (convert 52 9 (.slice a3 size q3')).run Tryz.prog V = .ok (.string (strN (xorW (A.getD t []) (B.getD t [])))) V) := Lib.hid fun V hV =>
            have hb := hwd.trans (hV.mono hwd.size)
            ⟨(hb.cell (p := ⟨ba, t, none⟩) hcl1).trans hxa, (hb.cell (p := ⟨bb, t, none⟩) hcl2).trans hxb, (hb.cell (p := ⟨bc, t, none⟩) hcl3).trans hxc, (HLC.out.mono hV).str⟩
          have HSD0 := Lib.hid (HSAT.out wr.drew (Below.refl _ _))
          have hne : ((size : Int) != (size : Int)) = false := by simp
          clear hla hlb hlc hA hB hC hwd e1 e2 e3 hcl1 hcl2 hcl3 HLC
          generalize xorW (A.getD t []) (B.getD t []) = XR at *
          go_wp2_with fail
          go_region_held_law (fun w' => w'.cell? ⟨ba, t, none⟩ = some (.slice a1 size q1') ∧ w'.cell? ⟨bb, t, none⟩ = some (.slice a2 size q2') ∧ w'.cell? ⟨bc, t, none⟩ = some (.slice a3 size q3') ∧ (convert 52 9 (.slice a3 size q3')).run Tryz.prog w' = .ok (.string (strN XR)) w')
            (first | exact HSD0.out | exact HSAT.out _ hb4 | exact HSAT.out _ HBV.out | go_keep)
            (first
            | (go_at_call 26; (with_reducible refine HAD.out.mono ?_); rintro e wz ⟨v4, rfl, ho4, hb4⟩; have HBV := Lib.hid hb4; have HBZ := Lib.hid (HBE.out.trans ((HWD.out.trans (hb4.mono HWD.out.size)).mono HBE.out.size)); have hk4 := (ListAt.of_owns ho4).str; obtain ⟨a4, c4', rfl, -, -⟩ := own_open ho4; clear ho4 hb4))
          all_goals go_wp2
          all_goals exact ⟨⟨t + 1, by omega, by go_num, HBZ.out⟩, by simp [intOf]; omega⟩
        · obtain rfl : t = l' := by omega
          go_wp2_with fail
          refine (HAW.out _ (HB5.out.trans ((HB11.out.trans (HBE.out.mono HB11.out.size)).mono HB5.out.size))).mono ?_
          rintro e wz ⟨rfl, hbz⟩
          have HBZ := Lib.hid ((HB5.out.trans ((HB11.out.trans (HBE.out.mono HB11.out.size)).mono HB5.out.size)).trans (hbz.mono (HB5.out.trans ((HB11.out.trans (HBE.out.mono HB11.out.size)).mono HB5.out.size)).size))
          clear hbz
          go_wp2
          go_ret
          exact ⟨rfl, HBZ.out⟩
end Go.Proofs.YticoaioeeppapaaGreatDoor
