import Derived.Test.YtfibolkgpffjkaaGreatDoorG32
import Derived.Test.YtfibolkgpffjkaaGreatDoorG41
import Derived.Test.YtfibolkgpffjkaaGreatDoorG49
import Derived.Test.YtfibolkgpffjkaaGreatDoorG37
import Derived.BigQuiet
import Derived.Deep.RegionHeldLaw
import Derived.Deep.RegionHeld3

section
/- The twelfth layer's laws: EncodePlays. -/
namespace Go.Proofs.YtfibolkgpffjkaaGreatDoor
open Go.RowKit Go.Extern.Stop Go.Stop Go.Extern

set_option maxRecDepth 1000000 in
set_option maxHeartbeats 20000000 in
theorem plays12 {w : World} (n0 : Int) (v : Value) (M : List (List Nat)) (ve : Value) (es : List Int) (hv : MatAt byteV w v M) (ho : ∀ r ∈ M, Octets r) (hes : ListAt intV w ve es) (hT : DgTab w) (hB : Tab w) (hg : Laid w) :
    Calls Tryz.prog 3 #[.agg #[.int .i64 n0, v], ve] w fun e w' => e = .returned (.bool true) ∧ Below w.heap.size w w' := by
  obtain ⟨w1, hw1, hb1, hby⟩ := blk_laid w n0 v
  have HW1 := Lib.hid hw1
  have HB1 := Lib.hid hb1
  have HBY := Lib.hid hby
  obtain ⟨y0, y1⟩ := hby.cells
  have HT := Lib.hid hT
  have HBT := Lib.hid hB
  have HAW : Hid (∀ V, Below w.heap.size w V → Calls Tryz.prog 17 #[] V fun e w' => e = .returned (.bool true) ∧ Below V.heap.size V w') := Lib.hid fun V hV => awake12 V (PairsAt.mono hT hV) (hB.mono hV)
  have HFIT := Lib.hid (fit12 (w := w1) n0 v M (hv.mono hb1) ho)
  obtain ⟨av, cv, rfl, -, -, -⟩ := hv.opens
  generalize M.length = ml at *
  have HG := Lib.hid hg
  have hel := hes.len
  obtain ⟨ae, ce, rfl, -, -, hec⟩ := hes
  have HEC : Hid (0 < es.length → ∃ b off, ae = some ⟨b, off, none⟩ ∧ ∀ j, j < es.length → w.cell? ⟨b, off + j, none⟩ = some (.int .i64 (es.getD j 0))) := Lib.hid fun hp => by
    obtain ⟨b, off, e, hc⟩ := hec hp
    refine ⟨b, off, e, fun j hj => ?_⟩
    rw [hc j hj]
    simp [intV, List.getD_eq_getElem?_getD, hj]
  clear hg hec
  generalize es.length = q at *
  clear hw1 hb1 hby hT hB hv ho
  go_enter Tryz.func3, Tryz.ntmps3
  go_upto_region 1 with fail
  rw [← HW1.out]
  go_wp2_with fail
  refine HFIT.out.mono ?_
  rintro e w2 ⟨size, u1, S, rfl, hs1, hs2, hl1, hl2, hok, hsy, hb2⟩
  have hy2 := HBY.out.mono hb2
  have hb02 := HB1.out.trans (hb2.mono HB1.out.size)
  have hgl := hy2.lt
  obtain ⟨vs, hvs, -⟩ := id hsy
  obtain ⟨a1, q1, rfl, -, hg1⟩ := own_open hvs
  obtain ⟨g1, rfl⟩ := hg1 (by omega)
  obtain ⟨k, hk⟩ : ∃ k, S.length = k := ⟨_, rfl⟩
  rw [hk] at hl1 hl2 hsy ⊢
  obtain ⟨w3, hw3⟩ : ∃ w3, w3 = (w2.setCell ⟨w.heap.size, 0, none⟩ (.int .i64 (size : Int))).setCell ⟨w.heap.size, 1, none⟩ (.slice (some ⟨g1, 0, none⟩) k q1) := ⟨_, rfl⟩
  have HW3 := Lib.hid hw3
  have HY3 : Hid (BlkBox w3 w.heap.size size (.slice (some ⟨g1, 0, none⟩) k q1)) := Lib.hid (by rw [hw3]; exact hy2.store _ _)
  have HS3 : Hid (MatAt byteV w3 (.slice (some ⟨g1, 0, none⟩) k q1) S) := Lib.hid (by
    rw [hw3]
    have h1 := hsy.set hy2 0 (.int .i64 (size : Int))
    exact (h1.set (heap_setCell_at (j := 0) (u := .int .i64 (size : Int)) hy2) 1 (.slice (some ⟨g1, 0, none⟩) k q1)).at)
  have HB3 : Hid (Below w.heap.size w w3) := Lib.hid (by
    rw [hw3]
    exact (hb02.setCell (p := ⟨w.heap.size, 0, none⟩) (Nat.le_refl _) _).setCell (p := ⟨w.heap.size, 1, none⟩) (Nat.le_refl _) _)
  have HK := Lib.hid hk
  have HOK := Lib.hid hok
  obtain ⟨z0, z1⟩ := hy2.cells
  obtain ⟨f0, f1⟩ := hy2.free
  clear hw3 hsy hvs hok hb2 hb02 hk hy2 hg1 y0 y1
  go_upto_region 2 with fail
  rw [← HW3.out]
  obtain ⟨y0, y1⟩ := HY3.out.cells
  clear z0 z1 f0 f1
  have HNW := Lib.hid (EnNew_ok k size _ S HS3.out HK.out hl1 (by omega) hs1 (by omega) HOK.out (PairsAt.mono HT.out HB3.out) (HBT.out.mono HB3.out))
  go_wp2_with fail
  refine HNW.out.mono ?_
  rintro e w4 ⟨g, s, h, l, p, sd, vm, V, rfl, hen, hb4⟩
  have HEN := Lib.hid hen
  have HY4 := Lib.hid (HY3.out.mono hb4)
  have HB34 := Lib.hid hb4
  have HB4 := Lib.hid (HB3.out.trans (hb4.mono HB3.out.size))
  have HT4 := Lib.hid (PairsAt.mono HT.out HB4.out)
  clear hen hb4 y0 y1
  have hbd : Below w4.heap.size w4 w4.drew := (Below.refl _ _).drew
  have HKK := Lib.hid (EnK_any (HEN.out.mono hbd))
  have HSD : Hid (w4.drew.cell? ⟨w.heap.size, 1, none⟩ = some (.slice (some ⟨g1, 0, none⟩) k q1)) := Lib.hid HY4.out.cells.2
  have hkk : ((k : Int) != (k : Int)) = false := by simp
  have HBD := Lib.hid hbd
  clear hbd
  go_upto_region 3 with fail
  go_region_held3 (fun w' => w'.cell? ⟨w.heap.size, 1, none⟩ = some (.slice (some ⟨g1, 0, none⟩) k q1))
    (first | exact HSD.out | go_keep)
    (first
    | (go_at_call 12; (with_reducible refine HKK.out.mono ?_); rintro e w3 ⟨rfl, rfl⟩))
  all_goals
    have HB4D := Lib.hid (HB4.out.trans (HBD.out.mono HB4.out.size))
    obtain ⟨y0, y1⟩ := (HY4.out.mono HBD.out).cells
    have HRN := Lib.hid (rEnNew_any (w := w4.drew) k size _ S ((HS3.out.mono HB34.out).mono HBD.out) HK.out hl1 (by omega) hs1 (by omega) HOK.out)
    unfold rEnV at HRN
    go_wp2_with fail
    refine HRN.out.mono ?_
    rintro e w5 ⟨s', h', l', p', sd', vm', U, rfl, hof, hsd, hmu, htu, hb5⟩
    obtain ⟨rfl, rfl, rfl, rfl⟩ := HEN.out.of.unique hof
    obtain rfl := HEN.out.seed.unique hsd
    obtain rfl := Tells.unique HEN.out.cons HEN.out.tells htu
    obtain ⟨au, cu, rfl, -, -, -⟩ := hmu.opens
    obtain ⟨W6, hW6, hbW6, hbx6⟩ := ren_laid w5 k s h l p sd size (.slice au V.length cu)
    have hb45 := HBD.out.trans (hb5.mono HBD.out.size)
    have hb46 := hb45.trans (hbW6.mono hb45.size)
    have HW6 := Lib.hid hW6
    have HBX6 := Lib.hid hbx6
    have HMU := Lib.hid (hmu.mono hbW6)
    have HEN6 := Lib.hid (HEN.out.mono hb46)
    have HT6 := Lib.hid (PairsAt.mono HT4.out hb46)
    have HBW6 := Lib.hid (HB4.out.trans (hb46.mono HB4.out.size))
    clear hof hsd hmu htu hb5 hW6 hbW6 hbx6 hb45 hb46 y0 y1
    go_upto_region 6 with fail
    rw [← HW6.out]
    obtain ⟨g6, hg6⟩ : ∃ g6, w5.heap.size = g6 := ⟨_, rfl⟩
    rw [hg6] at HBX6 ⊢
    clear hg6
    go_wp2_with fail
    go_loopw [8] (fun i wr => ∃ j : Nat, j ≤ q ∧ j ≤ 30 ∧ i = .int .i64 j ∧ Below W6.heap.size W6 wr) (fun i _ => 30 - (intOf i).toNat)
    case atStart => exact ⟨0, Nat.zero_le _, Nat.zero_le _, rfl, Below.refl _ _⟩
    case round =>
      obtain ⟨j, hj, hj30, rfl, hbel⟩ := hrel
      have HBL := Lib.hid hbel
      have HBWR := Lib.hid (HBW6.out.trans (hbel.mono HBW6.out.size))
      by_cases hlt : j < q ∧ j < 30
      · obtain ⟨hjq, hj3⟩ := hlt
        have d2 : decide ((j : Int) < 30) = true := decide_eq_true (by omega)
        obtain ⟨be, oe, rfl, hec⟩ := HEC.out (by omega)
        have hx0 := hec j hjq
        have hxr := (HBWR.out.cell (p := ⟨be, oe + j, none⟩) (World.block_lt_of_cell? w _ hx0)).trans hx0
        have hbe := World.block_lt_of_cell? wr _ hxr
        obtain ⟨x, hx⟩ : ∃ x, es.getD j 0 = x := ⟨_, rfl⟩
        rw [hx] at hxr
        clear hec hx0 hx
        by_cases hbad : x < 0 ∨ 65536 ≤ x
        · have HSN := Lib.hid (EnSym_no (HEN6.out.mono hbel) x hbad)
          clear hbel
          by_cases hneg : x < 0
          · have d1 : decide (x < 0) = true := decide_eq_true hneg
            clear hbad
            go_wp2_with fail
            refine HSN.out.mono ?_
            rintro e w7 ⟨E, rfl, hea, hb7⟩
            have HEA := Lib.hid hea
            have HB7 := Lib.hid (HBL.out.trans (hb7.mono HBL.out.size))
            have hx7 := (hb7.cell (p := ⟨be, oe + j, none⟩) hbe).trans hxr
            obtain ⟨u, xx, rfl⟩ := hea.some (by decide)
            clear hea hb7 hxr
            go_wp2_with fail
            refine (tells_ans 1 nameEnSym _ HEA.out (HG.out.mono (HBW6.out.trans (HB7.out.mono HBW6.out.size)))).mono ?_
            rintro e w8 ⟨rfl, hb8⟩
            have HB8 := Lib.hid (HB7.out.trans (hb8.mono HB7.out.size))
            clear hb8 hx7
            go_wp2
            go_roundw
            case rel => exact ⟨j + 1, by omega, by omega, by go_num, HB8.out⟩
            case measure => simp [intOf]; omega
          · have d1 : decide (x < 0) = false := decide_eq_false hneg
            have d3 : decide (65535 < x) = true := decide_eq_true (by omega)
            clear hbad
            go_wp2_with fail
            refine HSN.out.mono ?_
            rintro e w7 ⟨E, rfl, hea, hb7⟩
            have HEA := Lib.hid hea
            have HB7 := Lib.hid (HBL.out.trans (hb7.mono HBL.out.size))
            have hx7 := (hb7.cell (p := ⟨be, oe + j, none⟩) hbe).trans hxr
            obtain ⟨u, xx, rfl⟩ := hea.some (by decide)
            clear hea hb7 hxr
            go_wp2_with fail
            refine (tells_ans 1 nameEnSym _ HEA.out (HG.out.mono (HBW6.out.trans (HB7.out.mono HBW6.out.size)))).mono ?_
            rintro e w8 ⟨rfl, hb8⟩
            have HB8 := Lib.hid (HB7.out.trans (hb8.mono HB7.out.size))
            clear hb8 hx7
            go_wp2
            go_roundw
            case rel => exact ⟨j + 1, by omega, by omega, by go_num, HB8.out⟩
            case measure => simp [intOf]; omega
        · obtain ⟨n, rfl⟩ : ∃ n : Nat, x = (n : Int) := ⟨x.toNat, by omega⟩
          have hn : n < 65536 := by omega
          have d1 : decide ((n : Int) < 0) = false := decide_eq_false (by omega)
          have d3 : decide (65535 < (n : Int)) = false := decide_eq_false (by omega)
          have HSY := Lib.hid (EnSym_ok (HEN6.out.mono hbel) n hn (PairsAt.mono HT6.out hbel))
          clear hbad hbel
          go_wp2_with fail
          refine HSY.out.mono ?_
          rintro e w7 ⟨v7, rfl, ho7, hb7⟩
          have hb67 := HBL.out.trans (hb7.mono HBL.out.size)
          have HB7 := Lib.hid hb67
          have hx7 := (hb7.cell (p := ⟨be, oe + j, none⟩) hbe).trans hxr
          have hbe7 := World.block_lt_of_cell? w7 _ hx7
          have hs7 := ListAt.of_owns (n := (symE l p sd size V n).length) (f := byteV) (l := symE l p sd size V n) (by rw [symE_length]; exact ho7)
          obtain ⟨a7, c7, rfl, -, -⟩ := own_open ho7
          have hwd : Below w7.heap.size w7 w7.drew := (Below.refl _ _).drew
          have HWD := Lib.hid hwd
          have HRS := Lib.hid (rEnSym_any (w := w7.drew) k s h l p sd size n _ V HEN6.out.of hl1 (by omega) HEN6.out.seed.1 hn ((HMU.out.mono hb67).mono hwd) HEN6.out.tells.1 (fun r hr => HEN6.out.tells.row r hr) (by omega))
          unfold rEnV at HRS
          have HSAT : Hid (∀ Z, Below w7.drew.heap.size w7.drew Z → (Z.cell? ⟨g6, 0, none⟩ = some (.int .i64 (k : Int)) ∧ Z.cell? ⟨g6, 1, none⟩ = some (.int .i64 (s : Int)) ∧ Z.cell? ⟨g6, 2, none⟩ = some (.int .i64 (h : Int)) ∧ Z.cell? ⟨g6, 3, none⟩ = some (.int .i64 (l : Int)) ∧ Z.cell? ⟨g6, 4, none⟩ = some (.int .i64 (p : Int)) ∧
              Z.cell? ⟨g6, 5, none⟩ = some (.int .i64 (sd : Int)) ∧ Z.cell? ⟨g6, 6, none⟩ = some (.int .i64 (size : Int)) ∧ Z.cell? ⟨g6, 7, none⟩ = some (.slice au V.length cu)) ∧ Z.cell? ⟨be, oe + j, none⟩ = some (.int .i64 (n : Int)) ∧ (convert 38 9 (.slice a7 size c7)).run Tryz.prog Z = .ok (.string (strN (symE l p sd size V n))) Z) := Lib.hid fun Z hZ =>
            have hb := HWD.out.trans (hZ.mono HWD.out.size)
            ⟨(HBX6.out.mono (HB7.out.trans (hb.mono HB7.out.size))).cells, (hb.cell (p := ⟨be, oe + j, none⟩) hbe7).trans hx7, (hs7.mono hb).str⟩
          have HSD0 := Lib.hid (HSAT.out w7.drew (Below.refl _ _))
          clear ho7 hb7 hb67 hs7 hxr
          generalize hsy : symE l p sd size V n = SY at *
          have HL9 : Hid (SY.length = size) := Lib.hid (by rw [← hsy]; exact symE_length _ _ _ _ _ _)
          clear hsy hwd
          go_wp2_with fail
          go_region_held_law (fun w' => (w'.cell? ⟨g6, 0, none⟩ = some (.int .i64 (k : Int)) ∧ w'.cell? ⟨g6, 1, none⟩ = some (.int .i64 (s : Int)) ∧ w'.cell? ⟨g6, 2, none⟩ = some (.int .i64 (h : Int)) ∧ w'.cell? ⟨g6, 3, none⟩ = some (.int .i64 (l : Int)) ∧ w'.cell? ⟨g6, 4, none⟩ = some (.int .i64 (p : Int)) ∧
              w'.cell? ⟨g6, 5, none⟩ = some (.int .i64 (sd : Int)) ∧ w'.cell? ⟨g6, 6, none⟩ = some (.int .i64 (size : Int)) ∧ w'.cell? ⟨g6, 7, none⟩ = some (.slice au V.length cu)) ∧ w'.cell? ⟨be, oe + j, none⟩ = some (.int .i64 (n : Int)) ∧ (convert 38 9 (.slice a7 size c7)).run Tryz.prog w' = .ok (.string (strN SY)) w')
            (first | exact HSD0.out | exact HSAT.out _ HBV.out | go_keep)
            (first
            | (go_at_call 16; (with_reducible refine HRS.out.mono ?_); rintro e w9 ⟨v9, rfl, ho9, hb9⟩; have HBV := Lib.hid hb9; have HB9 := Lib.hid (HB7.out.trans ((HWD.out.trans (hb9.mono HWD.out.size)).mono HB7.out.size)); have hk9 := (ListAt.of_owns (f := byteV) (l := SY) (n := SY.length) (by rw [HL9.out]; exact ho9)).str; obtain ⟨a9, c9, rfl, -, -⟩ := own_open ho9; clear ho9 hb9))
          all_goals go_wp2
          all_goals exact ⟨⟨j + 1, by omega, by omega, by go_num, HB9.out⟩, by simp [intOf]; omega⟩
      · clear hbel
        by_cases hjq : j < q
        · have d2 : decide ((j : Int) < 30) = false := decide_eq_false (by omega)
          clear hlt
          go_wp2_with fail
          refine (HAW.out _ HBWR.out).mono ?_
          rintro e wz ⟨rfl, hbz⟩
          have HBZ := Lib.hid (HBWR.out.trans (hbz.mono HBWR.out.size))
          clear hbz
          go_wp2
          go_ret
          exact ⟨rfl, HBZ.out⟩
        · clear hlt
          go_wp2_with fail
          refine (HAW.out _ HBWR.out).mono ?_
          rintro e wz ⟨rfl, hbz⟩
          have HBZ := Lib.hid (HBWR.out.trans (hbz.mono HBWR.out.size))
          clear hbz
          go_wp2
          go_ret
          exact ⟨rfl, HBZ.out⟩
end Go.Proofs.YtfibolkgpffjkaaGreatDoor
end
