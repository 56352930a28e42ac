import Derived.Test.YtfibolkgpffjkaaGreatDoorG32
import Derived.Test.YtfibolkgpffjkaaGreatDoorG49
import Derived.Test.YtfibolkgpffjkaaGreatDoorG28
import Derived.BigQuiet
import Derived.Deep.RegionHeldLaw
import Derived.Laws.CopyOwn

section
/- The twelfth layer's laws: EncodeSource. -/
namespace Go.Proofs.YtfibolkgpffjkaaGreatDoor
open Go.RowKit Go.Extern.Stop Go.Stop Go.Extern

/-- The source symbols of this law. -/
def srcB (fl : List Nat) (i : Nat) : Nat := if i < fl.length then fl.getD i 0 else i
def srcR (fl : List Nat) (i : Nat) : List Nat := [srcB fl i, 3 * i % 256]
def srcL (fl : List Nat) (j : Nat) : List (List Nat) := (List.range j).map (srcR fl)
theorem srcL_length (fl : List Nat) (j : Nat) : (srcL fl j).length = j := by simp [srcL]
theorem srcL_succ (fl : List Nat) (j : Nat) : srcL fl (j + 1) = srcL fl j ++ [srcR fl j] := by
  unfold srcL
  rw [List.range_succ, List.map_append]
  rfl
theorem srcL_ok {fl : List Nat} (ho : Octets fl) {j : Nat} (hj : j ≤ 128) : SizeOk (srcL fl j) 2 := fun r hr => by
  obtain ⟨i, hi, rfl⟩ := List.mem_map.1 hr
  have := List.mem_range.1 hi
  refine ⟨rfl, fun x hx => ?_⟩
  rcases List.mem_cons.1 hx with rfl | hx
  · unfold srcB
    split
    · exact ho.getD i
    · omega
  · rw [List.mem_singleton.1 hx]
    omega
/-- A row of two bytes, laid. -/
theorem row2_at (w : World) (x y : Nat) : (w.alloc (.cells #[.int .u8 (x : Int), .int .u8 (y : Int)] 5)).ownsRow w.heap.size 5 1 (.slice (some ⟨w.heap.size, 0, none⟩) 2 2) 2 ([x, y].map byteV) :=
  own_of_heap (base := w.heap.size) (e := 5) (Nat.le_refl _) rfl (by decide) (heap_alloc_new w (.cells #[.int .u8 (x : Int), .int .u8 (y : Int)] 5))

set_option maxRecDepth 1000000 in
set_option maxHeartbeats 20000000 in
theorem source12 {w : World} (N : Int) (v : Value) (fl : List Nat) (hv : ListAt byteV w v fl) (ho : Octets fl) (hT : DgTab w) (hB : Tab w) :
    Calls Tryz.prog 5 #[.int .i64 N, v] w fun e w' => e = .returned (.bool true) ∧ Below w.heap.size w w' := by
  obtain ⟨i0, hi, hz0, hz1, hz2⟩ := info_parts info_sym
  have HT := Lib.hid hT
  have HBT := Lib.hid hB
  have HAW : Hid (∀ V, Below w.heap.size w V → Calls Tryz.prog 17 #[] V fun e w' => e = .returned (.bool true) ∧ Below V.heap.size V w') := Lib.hid fun V hV => awake12 V (PairsAt.mono hT hV) (hB.mono hV)
  have HOC := Lib.hid ho
  obtain ⟨k, hk, hk1, hk2⟩ : ∃ k : Nat, wrap64 (1 + wrap64 ((IntKind.u64.wrap N).tmod 128)) = (k : Int) ∧ 1 ≤ k ∧ k ≤ 128 := by
    have hw : 0 ≤ IntKind.u64.wrap N := by rw [IntKind.wrap_u64]; omega
    have e : (IntKind.u64.wrap N).tmod 128 = (IntKind.u64.wrap N) % 128 := Int.tmod_eq_emod_of_nonneg hw
    have h0 : 0 ≤ (IntKind.u64.wrap N) % 128 := Int.emod_nonneg _ (by decide)
    have h4 : (IntKind.u64.wrap N) % 128 < 128 := Int.emod_lt_of_pos _ (by decide)
    rw [e, IntWalk.wrap64_in ((IntKind.u64.wrap N) % 128) (by omega), IntWalk.wrap64_in _ (by omega)]
    exact ⟨(1 + (IntKind.u64.wrap N) % 128).toNat, by omega, by omega, by omega⟩
  have HKK := Lib.hid hk
  have hfl := hv.len
  obtain ⟨q, hq⟩ : ∃ q, fl.length = q := ⟨_, rfl⟩
  have HQ := Lib.hid hq
  obtain ⟨av, cv, rfl, -, -, hcv⟩ := hv.bytes q hq
  have HCV := Lib.hid hcv
  rw [hq] at hfl
  clear hT hB hv ho hcv hq hk
  go_enter Tryz.func5, Tryz.ntmps5
  go_upto_region 2 with fail
  simp only [HKK.out]
  go_wp2_with fail
  go_loopw [6, 7] (fun o i wr => ∃ j : Nat, j ≤ k ∧ i = .int .i64 j ∧ MatFresh byteV 5 w.heap.size 38 wr o (srcL fl j) ∧ Below w.heap.size w wr) (fun _ i _ => k - (intOf i).toNat)
  case atStart => exact ⟨0, Nat.zero_le _, rfl, MatFresh.start w (Nat.le_refl _), (Below.refl _ _).alloc (Nat.le_refl _) _⟩
  case round =>
    obtain ⟨j, hj, rfl, hm, hbel⟩ := hrel
    have hsz := hbel.size
    by_cases hjk : j < k
    · obtain ⟨vs, hown, hel, hfr⟩ := hm
      rw [srcL_length] at hown
      have h3a : wrap64 (3 * (j : Int)) = ((3 * j : Nat) : Int) := by rw [IntWalk.wrap64_in _ (by omega)]; omega
      have h3b : IntKind.i64.wrap (3 * (j : Int)) = ((3 * j : Nat) : Int) := by rw [IntWalk.i64_in _ (by omega)]; omega
      have h3c : IntKind.u8.wrap ((3 * j : Nat) : Int) = ((3 * j % 256 : Nat) : Int) := by rw [IntKind.wrap_u8]; omega
      have h3d : IntKind.u8.wrap (j : Int) = (j : Int) := by rw [IntKind.wrap_u8]; omega
      by_cases hjq : j < q
      · obtain ⟨b, off, rfl, hcc⟩ := HCV.out (by omega)
        have hx0 := (hbel.cell (p := ⟨b, off + j, none⟩) (World.block_lt_of_cell? w _ (hcc j hjq))).trans (hcc j hjq)
        have HSR : Hid (srcR fl j = [fl.getD j 0, 3 * j % 256]) := Lib.hid (by unfold srcR srcB; rw [if_pos (by rw [HQ.out]; exact hjq)])
        clear hcc
        generalize 3 * j = t3 at *
        generalize t3 % 256 = y at *
        generalize fl.getD j 0 = x at *
        have HO := Lib.hid hown
        have HEL := Lib.hid hel
        have HFR := Lib.hid hfr
        have HBL := Lib.hid hbel
        clear hown hel hfr hbel
        go_wp2_with (at_builtin; refine wpList_append_own _ rfl (.tmp 39) (.tmp 45) 22 rfl w.heap.size 38 i0 (.slice none 0 0) 1 24 Tryz.underlying22 hi hz0 hz1 hz2 rfl (by decide) u6 j vs rfl ((HO.out.alloc _).alloc _) ⟨wr.heap.size + 1, 0, none⟩ 1 1 [.slice (some ⟨wr.heap.size, 0, none⟩) 2 2] rfl rfl (by have := cell_one_new (wr.alloc (.cells #[.int .u8 (x : Int), .int .u8 (y : Int)] 5)) (.slice (some ⟨wr.heap.size, 0, none⟩) 2 2) 38; rwa [World.size_alloc] at this) (fun x hx => by simp at hx; subst hx; rfl) (by unfold maxLen; omega) (by omega) (by simp; omega) ?_; intro v4 w4 hown1 hgrow1 _; have HB4 := Lib.hid (((HBL.out.alloc hsz _).alloc (by simp; omega) _).grown hgrow1 (by simp; omega) (fun k hk => (HO.out.lt k hk).1)); have HM4 : Hid (MatFresh byteV 5 w.heap.size 38 w4 v4 (srcL fl j ++ [[x, y]])) := Lib.hid (MatFresh.app (w := wr.alloc (.cells #[.int .u8 (x : Int), .int .u8 (y : Int)] 5)) HFR.out (own_ge hsz) (by decide) (by rw [srcL_length]; exact HO.out.alloc _) (fun i => (HEL.out i).mono ((Below.refl _ _).alloc (Nat.le_refl _) _)) (ElAt.own (row2_at wr x y)) (by rw [srcL_length]; exact hown1) hgrow1); clear hown1 hgrow1)
        go_roundw
        case rel => exact ⟨j + 1, by omega, by go_num, by rw [srcL_succ, HSR.out]; exact HM4.out, HB4.out⟩
        case measure => simp [intOf]; omega
      · obtain ⟨x, HSR, h3e⟩ : ∃ x, Hid (srcR fl j = [x, 3 * j % 256]) ∧ IntKind.u8.wrap (j : Int) = (x : Int) := ⟨j, Lib.hid (by unfold srcR srcB; rw [if_neg (by rw [HQ.out]; exact hjq)]), h3d⟩
        clear h3d
        generalize 3 * j = t3 at *
        generalize t3 % 256 = y at *
        have HO := Lib.hid hown
        have HEL := Lib.hid hel
        have HFR := Lib.hid hfr
        have HBL := Lib.hid hbel
        clear hown hel hfr hbel
        go_wp2_with (at_builtin; refine wpList_append_own _ rfl (.tmp 39) (.tmp 45) 22 rfl w.heap.size 38 i0 (.slice none 0 0) 1 24 Tryz.underlying22 hi hz0 hz1 hz2 rfl (by decide) u6 j vs rfl ((HO.out.alloc _).alloc _) ⟨wr.heap.size + 1, 0, none⟩ 1 1 [.slice (some ⟨wr.heap.size, 0, none⟩) 2 2] rfl rfl (by have := cell_one_new (wr.alloc (.cells #[.int .u8 (x : Int), .int .u8 (y : Int)] 5)) (.slice (some ⟨wr.heap.size, 0, none⟩) 2 2) 38; rwa [World.size_alloc] at this) (fun x hx => by simp at hx; subst hx; rfl) (by unfold maxLen; omega) (by omega) (by simp; omega) ?_; intro v4 w4 hown1 hgrow1 _; have HB4 := Lib.hid (((HBL.out.alloc hsz _).alloc (by simp; omega) _).grown hgrow1 (by simp; omega) (fun k hk => (HO.out.lt k hk).1)); have HM4 : Hid (MatFresh byteV 5 w.heap.size 38 w4 v4 (srcL fl j ++ [[x, y]])) := Lib.hid (MatFresh.app (w := wr.alloc (.cells #[.int .u8 (x : Int), .int .u8 (y : Int)] 5)) HFR.out (own_ge hsz) (by decide) (by rw [srcL_length]; exact HO.out.alloc _) (fun i => (HEL.out i).mono ((Below.refl _ _).alloc (Nat.le_refl _) _)) (ElAt.own (row2_at wr x y)) (by rw [srcL_length]; exact hown1) hgrow1); clear hown1 hgrow1)
        go_roundw
        case rel => exact ⟨j + 1, by omega, by go_num, by rw [srcL_succ, HSR.out]; exact HM4.out, HB4.out⟩
        case measure => simp [intOf]; omega
    · obtain rfl : j = k := by omega
      obtain ⟨wu, hwu⟩ : ∃ wu, wu = wr := ⟨_, rfl⟩
      subst hwu
      obtain ⟨vs0, hvs0, -, -⟩ := id hm
      rw [srcL_length] at hvs0
      obtain ⟨a6, c6, rfl, -, h6⟩ := own_open hvs0
      obtain ⟨g6, rfl⟩ := h6 (by omega)
      have HOK := Lib.hid (srcL_ok HOC.out hk2)
      have HSL := Lib.hid (srcL_length fl j)
      generalize srcL fl j = S at *
      have HB := Lib.hid hbel
      have HS := Lib.hid hm.own.at
      have HCP := Lib.hid (sCopy_sep (w := wu) _ S hm.own.at (by rw [HSL.out]; omega) (fun r hr => by rw [(HOK.out r hr).1]; omega))
      clear hm hvs0 h6 hbel
      go_wp2_with fail
      refine HCP.out.mono ?_
      rintro e w2 ⟨v2, rfl, hsp, hb2⟩
      have HSP2 := Lib.hid hsp.inside
      have HB2 := Lib.hid hb2
      have hU : wu.heap.size ≤ w2.heap.size := hb2.size
      have HU := Lib.hid hU
      obtain ⟨vs2, hvs2, -⟩ := id hsp
      rw [HSL.out] at hvs2
      obtain ⟨a2, q2, rfl, -, hg2⟩ := own_open hvs2
      obtain ⟨ga, rfl⟩ := hg2 (by omega)
      have HGA : Hid (ga < w2.heap.size) := Lib.hid ((hvs2.lt ga rfl).2)
      have hbw2 := HB.out.trans (hb2.mono hsz)
      have HNW := Lib.hid (EnNew_ok (w := w2) j 2 _ S hsp.at HSL.out hk1 hk2 (by decide) (by decide) HOK.out (PairsAt.mono HT.out hbw2) (HBT.out.mono hbw2))
      clear hsp hb2 hU hvs2 hg2 hbw2
      go_wp2_with fail
      refine HNW.out.mono ?_
      rintro e w3 ⟨g, s, h, l, p, sd, vm, V, rfl, hen, hb3⟩
      have HEN := Lib.hid hen
      have HSP3 := Lib.hid (HSP2.out.mono hb3)
      have HB3 := Lib.hid (HB2.out.trans (hb3.mono HB2.out.size))
      clear hen hb3
      go_wp2_with fail
      go_loopw [12] (fun i wx => ∃ (t : Nat) (Y : List (List Nat)), t ≤ j ∧ i = .int .i64 t ∧ Y.length = j ∧ SizeOk Y 2 ∧ SepIn wx wu.heap.size w2.heap.size (.slice (some ⟨ga, 0, none⟩) j q2) Y ∧ EncAt wx w2.heap.size g j s h l p sd 2 vm V S ∧ Below wu.heap.size wu wx) (fun i _ => j - (intOf i).toNat)
      case atStart => exact ⟨0, S, Nat.zero_le _, rfl, HSL.out, HOK.out, HSP3.out, HEN.out, HB3.out⟩
      case round =>
        obtain ⟨t, Y, ht, rfl, hyl, hyo, hsp, hen, hbel⟩ := hrel
        have HYL := Lib.hid hyl
        have HYO := Lib.hid hyo
        have HEX := Lib.hid hen
        have HBL := Lib.hid hbel
        by_cases htj : t < j
        · have hjy : t < Y.length := by omega
          have hrow := hyo (Y.getD t []) (getD_mem_row hjy)
          obtain ⟨ga', ca, gr, cr, hve, -, hcell, hgB, hgU, hcs, hfr, hwr⟩ := hsp.row hjy (by rw [hrow.1]; omega)
          obtain ⟨rfl, -, rfl⟩ : ga = ga' ∧ j = Y.length ∧ q2 = ca := by simpa using hve
          rw [hrow.1] at hcell hcs hwr
          have hx := hcs 0 (by decide)
          have hf := hfr 0
          have hyb := hrow.2.getD 0
          have HWR := Lib.hid (fun y => hwr 0 y (by decide))
          have hge : IntKind.u8.wrap (255 - (((Y.getD t []).getD 0 0 : Nat) : Int)) = ((255 - (Y.getD t []).getD 0 0 : Nat) : Int) := by
            rw [IntKind.wrap_u8]
            omega
          have HG := Lib.hid (show wu.heap.size ≤ gr ∧ gr < w2.heap.size from ⟨hgB, hgU⟩)
          have HJY := Lib.hid hjy
          clear hyl hyo hsp hen hbel hrow hcs hfr hwr hve hgB hgU hjy
          generalize (Y.getD t []).getD 0 0 = yv at *
          go_wp2_with fail
          go_region
          go_wp2
          go_roundw
          case rel => exact ⟨t + 1, Y.set t ((Y.getD t []).set 0 (255 - yv)), by omega, by go_num, by rw [List.length_set]; exact HYL.out, sizeOk_set HYO.out HJY.out (by omega), (HWR.out (255 - yv)).mono (Below.refl _ _).drew, EncAt.far HEX.out (fun x hx _ => Below.heap_setCell _ _ _ _ (show x ≠ gr by have := HG.out.2; omega)), (HBL.out.setCell (p := ⟨gr, 0, none⟩) HG.out.1 _).drew⟩
          case measure => simp [intOf]; omega
        · obtain rfl : t = j := by omega
          have HSX := Lib.hid (HS.out.mono hbel)
          have HTX := Lib.hid (PairsAt.mono HT.out (HB.out.trans (hbel.mono hsz)))
          have HBX := Lib.hid (HB.out.trans (hbel.mono hsz))
          clear hyl hyo hsp hen hbel
          go_wp2_with fail
          obtain ⟨wn, hwn⟩ : ∃ wn, wn = wr := ⟨_, rfl⟩
          subst hwn
          go_loopw [13] (fun i wx => ∃ j : Nat, j ≤ t ∧ i = .int .i64 j ∧ Below wn.heap.size wn wx) (fun i _ => t - (intOf i).toNat)
          case atStart => exact ⟨0, Nat.zero_le _, rfl, Below.refl _ _⟩
          case round =>
            obtain ⟨j, hj, rfl, hbel⟩ := hrel
            have HBL := Lib.hid hbel
            have hzx := hbel.size
            by_cases hjt : j < t
            · have HSY := Lib.hid (EnSym_ok (HEX.out.mono hbel) j (by omega) (PairsAt.mono HTX.out hbel))
              have HSE : Hid (symE l p sd 2 V j = S.getD j []) := Lib.hid (HEX.out.source HSL.out HOK.out hjt)
              clear hbel
              go_wp2_with fail
              refine HSY.out.mono ?_
              rintro e w6 ⟨v6, rfl, ho6, hb6⟩
              rw [HSE.out] at ho6
              have hr := HOK.out (S.getD j []) (getD_mem_row (by rw [HSL.out]; exact hjt))
              have hb36 := HBL.out.trans (hb6.mono hzx)
              have HB6 := Lib.hid hb36
              have hs6 := ListAt.of_owns (n := (S.getD j []).length) (f := byteV) (l := S.getD j []) (by rw [hr.1]; exact ho6)
              obtain ⟨bl, ol, hle, xl, hxl, hll⟩ := (HSX.out.mono hb36).rowAt (i := j) (by rw [HSL.out]; exact hjt)
              obtain ⟨rfl, rfl⟩ : g6 = bl ∧ ol = 0 := by simpa [eq_comm] using hle
              have hk1 : ∀ nd, (convert 38 9 v6).run Tryz.prog (w6.drewN nd) = .ok (.string (strN (S.getD j []))) (w6.drewN nd) := fun nd => (hs6.mono (below_draws (Below.refl _ _) nd)).str
              have hk2 : ∀ nd, (convert 38 9 xl).run Tryz.prog (w6.drewN nd) = .ok (.string (strN (S.getD j []))) (w6.drewN nd) := fun nd => (hll.mono (below_draws (Below.refl _ _) nd)).str
              obtain ⟨xa, xc, rfl, -, -, -⟩ := hll.bytes 2 hr.1
              obtain ⟨a6, c6, rfl, -, h6⟩ := own_open ho6
              obtain ⟨gs, rfl⟩ := h6 (by decide)
              have hlg := ho6.lt gs rfl
              have hgs : wn.heap.size ≤ gs := Nat.le_trans hzx hlg.1
              have HGS := Lib.hid hgs
              obtain ⟨yv, hyv, hyb⟩ : ∃ yv : Nat, w6.cell? ⟨gs, 0, none⟩ = some (.int .u8 (yv : Int)) ∧ yv < 256 := by
                refine ⟨(S.getD j []).getD 0 0, ?_, hr.2.getD 0⟩
                have key : ∀ (R : List Nat) (t : Nat), t < R.length → (R.map byteV)[t]? = some (.int .u8 ((R.getD t 0 : Nat) : Int)) := fun R t ht => by
                  simp [List.getD_eq_getElem?_getD, ht, byteV]
                rw [ho6.cellAt 0 (by decide)]
                exact key _ 0 (by omega)
              have hfz : w6.frozen? ⟨gs, 0, none⟩ = false := ho6.frozenAt 0
              have hge : IntKind.u8.wrap (255 - (yv : Int)) = ((255 - yv : Nat) : Int) := by
                rw [IntKind.wrap_u8]
                omega
              rw [Nat.zero_add] at hxl
              clear ho6 hb6 hb36 hs6 hle hll h6 hr hlg hgs
              generalize strN (S.getD j []) = str at *
              go_wp2
              go_quiet (fail)
              go_wp2
              exact ⟨⟨j + 1, by omega, by go_num, (below_draws HB6.out _).setCell (p := ⟨gs, 0, none⟩) HGS.out _⟩, by simp [intOf]; omega⟩
            · have HSY := Lib.hid (EnSym_ok (HEX.out.mono hbel) 0 (by omega) (PairsAt.mono HTX.out hbel))
              have HSE : Hid (symE l p sd 2 V 0 = S.getD 0 []) := Lib.hid (HEX.out.source HSL.out HOK.out (by omega))
              clear hbel
              go_wp2_with fail
              refine HSY.out.mono ?_
              rintro e w6 ⟨v6, rfl, ho6, hb6⟩
              rw [HSE.out] at ho6
              have hr := HOK.out (S.getD 0 []) (getD_mem_row (by rw [HSL.out]; omega))
              have hb36 := HBL.out.trans (hb6.mono hzx)
              have HB6 := Lib.hid (HBX.out.trans (hb36.mono HBX.out.size))
              have hs6 := ListAt.of_owns (n := (S.getD 0 []).length) (f := byteV) (l := S.getD 0 []) (by rw [hr.1]; exact ho6)
              obtain ⟨bl, ol, hle, xl, hxl, hll⟩ := (HSX.out.mono hb36).rowAt (i := 0) (by rw [HSL.out]; omega)
              obtain ⟨rfl, rfl⟩ : g6 = bl ∧ ol = 0 := by simpa [eq_comm] using hle
              obtain ⟨xa, xc, rfl, -, -, -⟩ := hll.bytes 2 hr.1
              obtain ⟨a6, c6, rfl, -, -⟩ := own_open ho6
              rw [Nat.zero_add] at hxl
              have hlb := World.block_lt_of_cell? w6 _ hxl
              have hwd : Below w6.heap.size w6 w6.drew := (Below.refl _ _).drew
              have HWD := Lib.hid hwd
              have HSAT : Hid (∀ Z, Below w6.drew.heap.size w6.drew Z → Z.cell? ⟨g6, 0, none⟩ = some (.slice xa 2 xc) ∧ (convert 38 9 (.slice xa 2 xc)).run Tryz.prog Z = .ok (.string (strN (S.getD 0 []))) Z ∧ (convert 38 9 (.slice a6 2 c6)).run Tryz.prog Z = .ok (.string (strN (S.getD 0 []))) Z) := Lib.hid fun Z hZ =>
                have hb := HWD.out.trans (hZ.mono HWD.out.size)
                ⟨(hb.cell (p := ⟨g6, 0, none⟩) hlb).trans hxl, (hll.mono hb).str, (hs6.mono hb).str⟩
              have HSD0 := Lib.hid (HSAT.out w6.drew (Below.refl _ _))
              have HAWD := Lib.hid (HAW.out w6.drew (HB6.out.trans (hwd.mono HB6.out.size)))
              clear ho6 hb6 hb36 hs6 hle hll hr hxl hlb hwd
              generalize strN (S.getD 0 []) = str at *
              go_wp2_with fail
              go_region_held_law (fun w' => w'.cell? ⟨g6, 0, none⟩ = some (.slice xa 2 xc) ∧ (convert 38 9 (.slice xa 2 xc)).run Tryz.prog w' = .ok (.string str) w' ∧ (convert 38 9 (.slice a6 2 c6)).run Tryz.prog w' = .ok (.string str) w')
                (first | exact HSD0.out | exact HSAT.out _ HBV.out | go_keep)
                (first
                | (go_at_call 17; (with_reducible refine HAWD.out.mono ?_); rintro e wz ⟨rfl, hbz⟩; have HBV := Lib.hid hbz; have HBZ := Lib.hid (HB6.out.trans ((HWD.out.trans (hbz.mono HWD.out.size)).mono HB6.out.size)); clear hbz))
              all_goals
                go_wp2
                go_ret
                exact ⟨rfl, HBZ.out⟩
end Go.Proofs.YtfibolkgpffjkaaGreatDoor
end

section
/- copy into a row of bytes of the call's own, beside rows of the same kind: no other block turns. -/
namespace Go.Proofs.YtfibolkgpffjkaaGreatDoor
open Go.RowKit Go.Extern.Stop Go.Stop Go.Extern

/-- copy, where what is told of the world behind it is that one row alone has turned. -/
theorem wpList_copy_far {P : Program} {w : World} {ops : Array Oper} {rest : List Oper} {o : Oper} {a : Act} {Q : Exit → Act → World → Prop} (hgd : o.guard = none) (d s : Operand) (dT sT : TypeId)
    (ho : o.op = .call { callee := .builtin .copy, args := #[d, s], argTypes := #[dT, sT] }) (elem : TypeId) (hu : P.underlying dT = some (.slice elem)) (hsz : (P.info? elem).map (·.size) = some 1)
    (sp : Option Addr) (dLen dCap sLen sCap : Nat) (g : Nat) (hd : a.eval d = .slice (some ⟨g, 0, none⟩) dLen dCap) (hs : a.eval s = .slice sp sLen sCap)
    (cur : List Value) (t : TypeId) (hg : w.heap[g]? = some (.cells cur.toArray t (0, 0))) (cs : List Value) (hn : cs.length = Nat.min sLen dLen)
    (hpos : 0 < cs.length → ∃ ad, sp = some ad ∧ ∀ j v, cs[j]? = some v → w.cell? (ad.add j) = some v) (hfit : cs.length ≤ cur.length) (h1 : ∀ v ∈ cs, v.oneCell' = true)
    (h : ∀ w', w'.heap[g]? = some (.cells (splice cur 0 cs).toArray t (0, 0)) → w.grownBy w' (some g) → wpList P ops Q rest (a.put o.dst (goInt cs.length)) w') :
    wpList P ops Q (o :: rest) a w := by
  rcases Nat.eq_zero_or_pos cs.length with h0 | h0
  · obtain rfl : cs = [] := List.eq_nil_of_length_eq_zero h0
    exact wpList_copy_nothing hgd d s dT sT ho elem hu hsz _ sp dLen dCap sLen sCap hd hs hn.symm (h w (by simpa [splice] using hg) (World.grownBy.refl _ _))
  · obtain ⟨ad, rfl, hsrc⟩ := hpos h0
    refine wpList_copy_own hgd d s dT sT ho elem hu hsz g 0 dLen dCap ad sLen sCap hd hs cur.toArray t hg cs hn hsrc (by simpa using hfit) h1 (h _ ?_ ⟨rfl, rfl, rfl, by simp [World.setRow], fun k _ hk => setRow_other w g k _ (fun e => hk (congrArg some e))⟩)
    have := setRow_heap w g _ (splice cur 0 cs).toArray t _ hg
    simpa [splice] using this

/-- A row that has been copied into. -/
def cpRow (r s : List Nat) : List Nat := s.take r.length ++ r.drop s.length
theorem cpRow_length (r s : List Nat) : (cpRow r s).length = r.length := by
  unfold cpRow
  rw [List.length_append, List.length_take, List.length_drop]
  omega
theorem cpRow_octets {r s : List Nat} (hr : Octets r) (hs : Octets s) : Octets (cpRow r s) := fun x hx => by
  rcases List.mem_append.1 hx with h | h
  · exact hs x (List.mem_of_mem_take h)
  · exact hr x (List.mem_of_mem_drop h)
theorem cpRow_cells (r s : List Nat) : ((s.take r.length).map byteV) ++ ((r.map byteV).drop ((s.take r.length).map byteV).length) = (cpRow r s).map byteV := by
  unfold cpRow
  rw [List.map_append, List.map_drop]
  congr 1
  rw [List.length_map, List.length_take]
  by_cases h : s.length ≤ r.length
  · rw [Nat.min_eq_right h]
  · rw [Nat.min_eq_left (by omega), List.drop_of_length_le (by rw [List.length_map]; exact Nat.le_refl _), List.drop_of_length_le (by rw [List.length_map]; omega)]

section
variable {w w' : World} {B U : Nat} {v : Value} {L : List (List Nat)}
/-- A row of it, to be copied into. -/
theorem SepIn.into (h : SepIn w B U v L) {i : Nat} (hi : i < L.length) (hp : 0 < (L.getD i []).length) : ∃ ga ca g c, ∃ cur : List Value, v = .slice (some ⟨ga, 0, none⟩) L.length ca ∧ w.cell? ⟨ga, i, none⟩ = some (.slice (some ⟨g, 0, none⟩) (L.getD i []).length c) ∧ B ≤ g ∧ g < U ∧
    w.heap[g]? = some (.cells cur.toArray 5 (0, 0)) ∧ (L.getD i []).length ≤ cur.length ∧
    ∀ (s : List Nat) (w' : World), w'.heap[g]? = some (.cells (splice cur 0 ((s.take (L.getD i []).length).map byteV)).toArray 5 (0, 0)) → w.grownBy w' (some g) → SepIn w' B U v (L.set i (cpRow (L.getD i []) s)) := by
  obtain ⟨ga, ca, g, c, hv, -, hcell, hgB, hgU, -⟩ := h.row hi hp
  obtain ⟨vs, h1, h2, h3, h5⟩ := h
  have hl : vs.length = L.length := by have := h1.1; omega
  have hr := h2 i hi
  have hvi : vs.getD i nilS = .slice (some ⟨g, 0, none⟩) (L.getD i []).length c := by
    have hc := h1
    rw [hv] at hc
    have hc := hc.cellAt i (by omega)
    have e : vs[i]? = some (vs.getD i nilS) := by
      rw [List.getD_eq_getElem?_getD, List.getElem?_eq_getElem (by omega)]
      rfl
    rw [e, hcell] at hc
    exact (Option.some.inj hc).symm
  rw [hvi] at hr
  obtain ⟨cur, hcur, hnc, hcm, hcs, htk⟩ : ∃ cur : Array Value, w.heap[g]? = some (.cells cur 5 (0, 0)) ∧ (L.getD i []).length ≤ c ∧ c ≤ maxLen ∧ cur.size = c * 1 ∧ cur.toList.take ((L.getD i []).length * 1) = (L.getD i []).map byteV := by
    rcases hr.2 with ⟨e, _⟩ | ⟨g', cap, cur, e, _, hh, k1, k2, k3, k4⟩
    · cases e
    · injection e with e1 e2 e3
      injection e1 with e1
      injection e1 with e1
      subst e1 e3
      exact ⟨cur, hh, k1, k2, k3, k4⟩
  have hcl2 : cur.toList.length = cur.size := Array.length_toList
  refine ⟨ga, ca, g, c, cur.toList, hv, hcell, hgB, hgU, by simpa using hcur, by omega, fun s w' hw' hg => ?_⟩
  have hvb : v.ownBlock ≠ some g := fun e => by
    rw [hv] at e
    have eg : ga = g := by simpa [Value.ownBlock] using e
    rw [hv] at h1
    rcases h1.2 with ⟨e2, _⟩ | ⟨g', cap, cur', e2, _, hh, _⟩
    · cases e2
    · have e3 : ga = g' := by simpa [Value.ownBlock] using congrArg Value.ownBlock e2
      rw [← e3, eg, hcur] at hh
      simp at hh
  have hk : w'.ownsRow B 38 1 v L.length vs := h1.kept hg (by
    cases hb : v.ownBlock with
    | none => exact .inl rfl
    | some b => exact .inr (by rw [← hb]; exact hvb))
  refine ⟨vs, by rw [List.length_set]; exact hk, fun j hj => ?_, fun a b hab hb => h3 a b hab (by rwa [List.length_set] at hb), fun a ha => h5 a (by rwa [List.length_set] at ha)⟩
  rw [List.length_set] at hj
  rw [getD_set _ _ _ _ _ hi]
  by_cases e : j = i
  · subst e
    rw [if_pos rfl, hvi, cpRow_length]
    have hcl : ((s.take (L.getD j []).length).map byteV).length ≤ (L.getD j []).length := by
      rw [List.length_map, List.length_take]
      omega
    refine ⟨by rw [List.length_map, cpRow_length]; omega, .inr ⟨g, c, _, rfl, hgB, hw', hnc, hcm, ?_, ?_⟩⟩
    · have := length_splice cur.toList 0 ((s.take (L.getD j []).length).map byteV) (by omega)
      rw [List.size_toArray, this]
      omega
    · rw [← cpRow_cells]
      rw [Nat.mul_one] at htk ⊢
      rw [← htk]
      show (splice cur.toList 0 ((s.take (L.getD j []).length).map byteV)).take (L.getD j []).length = _
      unfold splice
      rw [List.take_zero, List.nil_append, Nat.zero_add, List.take_append, List.take_of_length_le hcl]
      congr 1
      rw [List.drop_take]
  · rw [if_neg e]
    refine (h2 j hj).kept hg ?_
    cases hb : (vs.getD j nilS).ownBlock with
    | none => exact .inl rfl
    | some b =>
      refine .inr fun e2 => ?_
      have hbg : b = g := by simpa using e2
      subst hbg
      rcases Nat.lt_or_gt_of_ne e with h' | h'
      · have := h3 j i h' hi b b hb (by rw [hvi]; rfl)
        omega
      · have := h3 i j h' hj b b (by rw [hvi]; rfl) hb
        omega
end
end Go.Proofs.YtfibolkgpffjkaaGreatDoor
end
