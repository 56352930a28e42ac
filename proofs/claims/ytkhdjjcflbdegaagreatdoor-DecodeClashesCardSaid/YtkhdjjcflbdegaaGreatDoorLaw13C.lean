/- The thirteenth layer's laws: DecodeClashes. -/
import Derived.Test.YtkhdjjcflbdegaaGreatDoorH5
import Derived.Test.YtkhdjjcflbdegaaGreatDoorG37
import Derived.Test.YtkhdjjcflbdegaaGreatDoorMade
import Derived.BigQuiet
import Derived.Deep.RegionHeldLaw
import Derived.Deep.RegionHeld3
namespace Go.Proofs.YtkhdjjcflbdegaaGreatDoor
open Go.RowKit Go.Extern.Stop Go.Stop Go.Extern

set_option maxRecDepth 1000000 in
set_option maxHeartbeats 20000000 in
theorem clashes13 {w : World} (n0 : Int) (v : Value) (M : List (List Nat)) (ve : Value) (es : List Int) (hv : MatAt byteV w v M) (ho : ∀ r ∈ M, Octets r) (hes : ListAt intV w ve es) (tn : Nat) (ht : tn < 256) (hT : DgTab w) (hB : Tab w) (hg : Laid w) :
    Calls Tryz.prog 8 #[.agg #[.int .i64 n0, v], ve, .int .u8 (tn : Int)] w fun e w' => e = .returned (.bool true) ∧ Below w.heap.size w w' := by
  obtain ⟨w1, hw1, hb1, hby⟩ := blk_laid w n0 v
  have HW1 := Lib.hid hw1
  have HB1 := Lib.hid hb1
  have HBY := Lib.hid hby
  obtain ⟨y0, y1⟩ := hby.cells
  have HT := Lib.hid hT
  have HBT := Lib.hid hB
  have HG := Lib.hid hg
  have HAW : Hid (∀ V, Below w.heap.size w V → Calls Tryz.prog 10 #[] V fun e w' => e = .returned (.bool true) ∧ Below V.heap.size V w') := Lib.hid fun V hV => awake13 V (PairsAt.mono hT hV) (hB.mono hV)
  have HFIT := Lib.hid (fit13 (w := w1) n0 v M (hv.mono hb1) ho)
  obtain ⟨av, cv, rfl, -, -, -⟩ := hv.opens
  generalize M.length = ml at *
  have hel := hes.len
  obtain ⟨ae, ce, rfl, -, -, hec⟩ := hes
  have HEC : Hid (0 < es.length → ∃ b off, ae = some ⟨b, off, none⟩ ∧ ∀ j, j < es.length → w.cell? ⟨b, off + j, none⟩ = some (.int .i64 (es.getD j 0))) := Lib.hid fun hp => by
    obtain ⟨b, off, e, hc⟩ := hec hp
    refine ⟨b, off, e, fun j hj => ?_⟩
    rw [hc j hj]
    simp [intV, List.getD_eq_getElem?_getD, hj]
  clear hec
  generalize es.length = q at *
  clear hw1 hb1 hby hT hB hv ho hg
  go_enter Tryz.func8, Tryz.ntmps8
  go_upto_region 1 with fail
  rw [← HW1.out]
  go_wp2_with fail
  refine HFIT.out.mono ?_
  rintro e w2 ⟨size, u1, S, rfl, hs1, hs2, hl1, hl2, hok, hsy, hb2⟩
  have hy2 := HBY.out.mono hb2
  have hb02 := HB1.out.trans (hb2.mono HB1.out.size)
  have hgl := hy2.lt
  obtain ⟨vs, hvs, -⟩ := id hsy
  obtain ⟨a1, q1, rfl, -, hg1⟩ := own_open hvs
  obtain ⟨g1, rfl⟩ := hg1 (by omega)
  obtain ⟨k, hk⟩ : ∃ k, S.length = k := ⟨_, rfl⟩
  rw [hk] at hl1 hl2 hsy ⊢
  obtain ⟨w3, hw3⟩ : ∃ w3, w3 = (w2.setCell ⟨w.heap.size, 0, none⟩ (.int .i64 (size : Int))).setCell ⟨w.heap.size, 1, none⟩ (.slice (some ⟨g1, 0, none⟩) k q1) := ⟨_, rfl⟩
  have HW3 := Lib.hid hw3
  have HY3 : Hid (BlkBox w3 w.heap.size size (.slice (some ⟨g1, 0, none⟩) k q1)) := Lib.hid (by rw [hw3]; exact hy2.store _ _)
  have HS3 : Hid (MatAt byteV w3 (.slice (some ⟨g1, 0, none⟩) k q1) S) := Lib.hid (by
    rw [hw3]
    have h1 := hsy.set hy2 0 (.int .i64 (size : Int))
    exact (h1.set (heap_setCell_at (j := 0) (u := .int .i64 (size : Int)) hy2) 1 (.slice (some ⟨g1, 0, none⟩) k q1)).at)
  have HB3 : Hid (Below w.heap.size w w3) := Lib.hid (by
    rw [hw3]
    exact (hb02.setCell (p := ⟨w.heap.size, 0, none⟩) (Nat.le_refl _) _).setCell (p := ⟨w.heap.size, 1, none⟩) (Nat.le_refl _) _)
  have HK := Lib.hid hk
  have HOK := Lib.hid hok
  obtain ⟨z0, z1⟩ := hy2.cells
  obtain ⟨f0, f1⟩ := hy2.free
  clear hw3 hsy hvs hok hb2 hb02 hk hy2 hg1 y0 y1
  go_upto_region 2 with fail
  rw [← HW3.out]
  obtain ⟨y0, y1⟩ := HY3.out.cells
  clear z0 z1 f0 f1
  by_cases hz : tn = 0 ∨ q = 0
  · rcases Nat.eq_zero_or_pos tn with h0 | h0
    · subst h0
      clear hz
      go_wp2_with fail
      refine (HAW.out w3 HB3.out).mono ?_
      rintro e wz ⟨rfl, hbz⟩
      have HBZ := Lib.hid (HB3.out.trans (hbz.mono HB3.out.size))
      clear hbz
      go_wp2
      go_ret
      exact ⟨rfl, HBZ.out⟩
    · have hq0 : q = 0 := by omega
      have htn : ((tn : Int) == 0) = false := by simp; omega
      have hqi : ((q : Int) == 0) = true := by simp; omega
      clear hz
      go_wp2_with fail
      refine (HAW.out w3 HB3.out).mono ?_
      rintro e wz ⟨rfl, hbz⟩
      have HBZ := Lib.hid (HB3.out.trans (hbz.mono HB3.out.size))
      clear hbz
      go_wp2
      go_ret
      exact ⟨rfl, HBZ.out⟩
  have htn : ((tn : Int) == 0) = false := by simp; omega
  have hqi : ((q : Int) == 0) = false := by simp; omega
  have hqp : 0 < q := by omega
  have htp : 0 < tn := by omega
  clear hz
  have HRN := Lib.hid (rEnNew_any (w := w3) k size _ S HS3.out HK.out hl1 (by omega) hs1 (by omega) HOK.out)
  unfold rEnV at HRN
  go_wp2_with fail
  refine HRN.out.mono ?_
  rintro e w4 ⟨s, h, l, p, sd, vm, V, rfl, hof, hsd, hmv, htv, hb4⟩
  have HX : Hid (BlkS k s h l p sd size S V) := Lib.hid ⟨hof, hsd, hl1, by omega, hs1, by omega, HK.out, HOK.out, htv⟩
  obtain ⟨au, cu, rfl, -, -, -⟩ := hmv.opens
  rw [htv.1] at hmv ⊢
  obtain ⟨W5, hW5, hbW5, hbx5⟩ := ren_laid w4 k s h l p sd size (.slice au l cu)
  have hb35 := hb4.trans (hbW5.mono hb4.size)
  have HW5 := Lib.hid hW5
  have HBX5 := Lib.hid hbx5
  have HMV := Lib.hid (hmv.mono hbW5)
  have HY5 := Lib.hid (HY3.out.mono hb35)
  have HS5 := Lib.hid (HS3.out.mono hb35)
  have hb05 := HB3.out.trans (hb35.mono HB3.out.size)
  have HB5 := Lib.hid hb05
  have HT5 := Lib.hid (PairsAt.mono HT.out hb05)
  have HBT5 := Lib.hid (HBT.out.mono hb05)
  have HG5 := Lib.hid (HG.out.mono hb05)
  have HNW := Lib.hid (DeNew_ok (w := W5) k size hl1 (by omega) hs1 (by omega) (PairsAt.mono HT.out hb05) (HBT.out.mono hb05))
  clear hof hsd hmv htv hb4 hW5 hbW5 hbx5 hb35 hb05 y0 y1
  go_upto_region 5 with fail
  rw [← HW5.out]
  obtain ⟨g6, hg6⟩ : ∃ g6, w4.heap.size = g6 := ⟨_, rfl⟩
  rw [hg6] at HBX5 ⊢
  clear hg6
  obtain ⟨y0, y1⟩ := HY5.out.cells
  have HRS : Hid (∀ Z (n : Nat), n < 65536 → Below W5.heap.size W5 Z → Calls Tryz.prog 27 #[.agg #[.int .i64 (k : Int), .int .i64 (s : Int), .int .i64 (h : Int), .int .i64 (l : Int), .int .i64 (p : Int), .int .i64 (sd : Int), .int .i64 (size : Int), .slice au l cu], .int .i64 (n : Int)] Z fun e w' => ∃ v', e = .returned v' ∧ w'.ownsRow Z.heap.size 5 1 v' size ((symE l p sd size V n).map byteV) ∧ Below Z.heap.size Z w') := Lib.hid fun Z n hn hZ =>
    rEnSym_any k s h l p sd size n _ V HX.out.of HX.out.k1 HX.out.k2 HX.out.seed.1 hn (HMV.out.mono hZ) HX.out.tells.1 (fun r hr => HX.out.tells.row r hr) (by omega)
  have HSAT : Hid (∀ Z, Below W5.heap.size W5 Z → (Z.cell? ⟨g6, 0, none⟩ = some (.int .i64 (k : Int)) ∧ Z.cell? ⟨g6, 1, none⟩ = some (.int .i64 (s : Int)) ∧ Z.cell? ⟨g6, 2, none⟩ = some (.int .i64 (h : Int)) ∧ Z.cell? ⟨g6, 3, none⟩ = some (.int .i64 (l : Int)) ∧ Z.cell? ⟨g6, 4, none⟩ = some (.int .i64 (p : Int)) ∧
      Z.cell? ⟨g6, 5, none⟩ = some (.int .i64 (sd : Int)) ∧ Z.cell? ⟨g6, 6, none⟩ = some (.int .i64 (size : Int)) ∧ Z.cell? ⟨g6, 7, none⟩ = some (.slice au l cu)) ∧ Z.cell? ⟨w.heap.size, 1, none⟩ = some (.slice (some ⟨g1, 0, none⟩) k q1)) := Lib.hid fun Z hZ => ⟨(HBX5.out.mono hZ).cells, (HY5.out.mono hZ).cells.2⟩
  go_wp2_with fail
  refine HNW.out.mono ?_
  rintro e w6 ⟨g, b, kb, s', h', l', p', sd', rfl, hd, hb6⟩
  obtain ⟨rfl, rfl, rfl, rfl⟩ := HX.out.of.unique hd.of
  obtain rfl := HX.out.seed.unique hd.seed
  have HD6 := Lib.hid (hd.fresh (symE l p sd size V))
  have HB6 := Lib.hid hb6
  clear hd hb6 y0 y1
  go_wp2_with fail
  obtain ⟨m0, hm0⟩ : ∃ m0, m0 = esiN (es.getD 0 0) := ⟨_, rfl⟩
  have HE0 := Lib.hid hm0
  clear hm0
  go_loopw [10] (fun i wr => ∃ (j : Nat) (fs : List Nat), j ≤ q ∧ j ≤ 20 ∧ i = .int .i64 j ∧ (0 < j → m0 ∈ fs) ∧ DecAt AnyB wr W5.heap.size g b kb k s h l p sd size (kdS k s h l p sd size V fs) false ∧ Below W5.heap.size W5 wr) (fun i _ => 20 - (intOf i).toNat)
  case atStart => exact ⟨0, [], Nat.zero_le _, Nat.zero_le _, rfl, (fun h => absurd h (Nat.lt_irrefl 0)), HD6.out, HB6.out⟩
  case round =>
    obtain ⟨j, fs, hj, hj20, rfl, hin, hd, hbel⟩ := hrel
    clear HD6 HB6
    have HD := Lib.hid hd
    have HBL := Lib.hid hbel
    have HBWR := Lib.hid (HB5.out.trans (hbel.mono HB5.out.size))
    have HIN := Lib.hid hin
    by_cases hlt : j < q ∧ j < 20
    · obtain ⟨hjq, hj3⟩ := hlt
      have d2 : decide ((j : Int) < 20) = true := decide_eq_true (by omega)
      obtain ⟨be, oe, rfl, hec⟩ := HEC.out (by omega)
      have hx0 := hec j hjq
      have hxr := (HBWR.out.cell (p := ⟨be, oe + j, none⟩) (World.block_lt_of_cell? w _ hx0)).trans hx0
      obtain ⟨n, hnE⟩ : ∃ n, n = esiN (es.getD j 0) := ⟨_, rfl⟩
      have hnw : (IntKind.u64.wrap (es.getD j 0)).tmod 65536 = (n : Int) := by rw [hnE]; exact esi_mod _
      have hn : n < 65536 := by rw [hnE]; exact esiN_lt _
      have HNE := Lib.hid hnE
      have HMEM : Hid (m0 ∈ fs ++ [n]) := Lib.hid (by
        rcases Nat.eq_zero_or_pos j with h0 | h0
        · exact List.mem_append_right _ (List.mem_singleton.2 (by rw [HE0.out, hnE, h0]))
        · exact List.mem_append_left _ (HIN.out h0))
      clear hec hx0 hnE hin
      generalize es.getD j 0 = x at *
      clear hd hbel
      obtain ⟨⟨e0, e1, e2, e3, e4, e5, e6, e7⟩, -⟩ := HSAT.out wr HBL.out
      go_wp2_with fail
      refine (HRS.out wr n hn HBL.out).mono ?_
      rintro e w7 ⟨v7, rfl, ho7, hb7⟩
      have hb57 := HBL.out.trans (hb7.mono HBL.out.size)
      have HB7 := Lib.hid hb57
      have HAD := Lib.hid (src_add HX.out (HD.out.mono hb7) n hn v7 (ListAt.of_owns ho7) (PairsAt.mono HT5.out hb57) (HBT5.out.mono hb57))
      obtain ⟨a7, c7, rfl, -, -⟩ := own_open ho7
      clear ho7 hb7 hb57 e0 e1 e2 e3 e4 e5 e6 e7
      go_wp2_with fail
      refine HAD.out.mono ?_
      rintro e w8 ⟨kd, hkd, rfl, hrk, ht8, hd8⟩
      have HB8 := Lib.hid (HB7.out.trans (ht8.below hd8.gg hd8.gb hd8.gk HB7.out.size))
      have HD8 := Lib.hid hd8
      clear hkd hrk ht8 hd8
      go_wp2
      go_roundw
      case rel => exact ⟨j + 1, fs ++ [n], by omega, by omega, by go_num, fun _ => HMEM.out, HD8.out, HB8.out⟩
      case measure => simp [intOf]; omega
    · have HMEM : Hid (m0 ∈ fs) := Lib.hid (hin (by omega))
      clear hin
      clear hd hbel
      by_cases hjq : j < q
      · have d2 : decide ((j : Int) < 20) = false := decide_eq_false (by omega)
        clear hlt
        obtain ⟨be, oe, rfl, hec⟩ := HEC.out hqp
        have hx0 := hec 0 hqp
        have hxr := (HBWR.out.cell (p := ⟨be, oe + 0, none⟩) (World.block_lt_of_cell? w _ hx0)).trans hx0
        rw [Nat.add_zero] at hxr
        have hnw : (IntKind.u64.wrap (es.getD 0 0)).tmod 65536 = (m0 : Int) := by rw [HE0.out]; exact esi_mod _
        have hn : m0 < 65536 := by rw [HE0.out]; exact esiN_lt _
        clear hec hx0
        generalize es.getD 0 0 = x at *
        obtain ⟨⟨e0, e1, e2, e3, e4, e5, e6, e7⟩, -⟩ := HSAT.out wr HBL.out
        go_wp2_with fail
        refine (HRS.out wr m0 hn HBL.out).mono ?_
        rintro e w7 ⟨v7, rfl, ho7, hb7⟩
        obtain ⟨SY, hSY⟩ : ∃ SY, symE l p sd size V m0 = SY := ⟨_, rfl⟩
        have hSl : SY.length = size := by rw [← hSY]; exact symE_length ..
        have hSo : Octets SY := by rw [← hSY]; exact HX.out.oct m0
        rw [hSY] at ho7
        have hsz1 := HX.out.z1
        obtain ⟨a7, c7, rfl, -, ha7⟩ := own_open ho7
        obtain ⟨ga, rfl⟩ := ha7 (by omega)
        have hga : wr.heap.size ≤ ga := (ho7.lt ga rfl).1
        obtain ⟨z, hz⟩ : ∃ z, SY.getD 0 0 = z := ⟨_, rfl⟩
        have hc0 : w7.cell? ⟨ga, 0, none⟩ = some (.int .u8 (z : Int)) := by
          rw [ho7.cellAt 0 (by omega), ← hz]
          simp [List.getD_eq_getElem?_getD, hSl, byteV, show 0 < size by omega]
        have hf0 := ho7.frozenAt 0
        have hz256 : z < 256 := by rw [← hz]; exact hSo.getD 0
        have hbx := bits_xor_u8_nat z tn hz256 ht
        obtain ⟨w8, hw8⟩ : ∃ w8, w8 = w7.setCell ⟨ga, 0, none⟩ (.int .u8 ((z ^^^ tn : Nat) : Int)) := ⟨_, rfl⟩
        have HW8 := Lib.hid hw8
        have ho8 : w8.ownsRow wr.heap.size 5 1 (.slice (some ⟨ga, 0, none⟩) size c7) size ((SY.set 0 (z ^^^ tn)).map byteV) := by
          rw [hw8, List.map_set]
          exact (ho7.stored 0 _).1
        have hb8 : Below wr.heap.size wr w8 := by rw [hw8]; exact hb7.setCell (p := ⟨ga, 0, none⟩) hga _
        have HB8 := Lib.hid (HBL.out.trans (hb8.mono HBL.out.size))
        have hne : SY ≠ SY.set 0 (z ^^^ tn) := fun e => by
          have h1 : SY.getD 0 0 = (SY.set 0 (z ^^^ tn)).getD 0 0 := congrArg (fun r => r.getD 0 0) e
          rw [getD_set _ _ _ _ _ (by omega), if_pos rfl, hz] at h1
          have h2 : z ^^^ (z ^^^ tn) = z ^^^ z := by rw [← h1]
          rw [← Nat.xor_assoc, Nat.xor_self, Nat.zero_xor] at h2
          omega
        have hso2 : Octets (SY.set 0 (z ^^^ tn)) := fun y hy => by
          rcases List.mem_or_eq_of_mem_set hy with h | h
          · exact hSo y h
          · rw [h]; exact Nat.xor_lt_two_pow (n := 8) hz256 ht
        have hK3 : kindV l (kdS k s h l p sd size V fs) (eqL l (rowE l p sd m0) (SY.set 0 (z ^^^ tn))) = 3 :=
          kind_other (size := size) (y := SY) (cons_in HX.out.cons (sysD_in HX.out.tells HX.out.src fs)) (fun c hc => rowE_lt c hc) hSl (by rw [List.length_set]; exact hSl) hSo hso2 (.mem (by rw [← hSY]; exact sysD_mem HMEM.out)) hne
        have HAD : Hid (Calls Tryz.prog 16 #[.pointer (some ⟨g, 0, none⟩), .int .i64 (m0 : Int), .slice (some ⟨ga, 0, none⟩) size c7] w8 fun e w' => e = .returned (.tuple #[.int .i64 3, .nilIface]) ∧ DTouch g b kb w8 w' ∧ ∃ K', DecAt AnyB w' W5.heap.size g b kb k s h l p sd size K' true) := Lib.hid (by
          refine (DeAdd_ok (HD.out.mono hb8) (fun _ _ => trivial) m0 hn _ _ (ListAt.of_owns ho8) (by rw [List.length_set]; exact hSl) hso2 (PairsAt.mono HT5.out HB8.out) (HBT5.out.mono HB8.out)).mono ?_
          rintro o w' ⟨rfl, h1, h2⟩
          rw [hK3] at h2 ⊢
          exact ⟨rfl, h1, _, h2⟩)
        clear ho7 hb7 hSY hSl hSo hsz1 ha7 hga hz hz256 hw8 ho8 hb8 hne hso2 hK3 e0 e1 e2 e3 e4 e5 e6 e7
        go_upto_region 16 with fail
        rw [← HW8.out]
        go_wp2_with fail
        refine HAD.out.mono ?_
        rintro e w9 ⟨rfl, ht9, K', hd9⟩
        have hb9 := HB8.out.trans (ht9.below hd9.gg hd9.gb hd9.gk HB8.out.size)
        have HB9 := Lib.hid hb9
        have HD9 := Lib.hid hd9
        obtain ⟨⟨e0, e1, e2, e3, e4, e5, e6, e7⟩, -⟩ := HSAT.out w9 hb9
        clear ht9 hd9 hb9 hc0 hf0 hbx hxr
        go_wp2_with fail
        refine (HRS.out w9 m0 hn HB9.out).mono ?_
        rintro e w10 ⟨v10, rfl, ho10, hb10⟩
        have HB10 := Lib.hid (HB9.out.trans (hb10.mono HB9.out.size))
        have HD10 := Lib.hid (HD9.out.mono hb10)
        obtain ⟨a10, c10, rfl, -, -⟩ := own_open ho10
        clear ho10 hb10 e0 e1 e2 e3 e4 e5 e6 e7
        go_wp2_with fail
        refine (DeAdd_over HD10.out _ _).mono ?_
        rintro e w11 ⟨E1, rfl, he1, hb11⟩
        have HB11 := Lib.hid (HB10.out.trans (hb11.mono HB10.out.size))
        have HD11 := Lib.hid (HD10.out.mono hb11)
        have HE1 := Lib.hid he1
        obtain ⟨u1, x1, rfl⟩ := he1.some (by decide)
        clear he1 hb11
        go_wp2_with fail
        refine (DeSrc_over HD11.out (HG5.out.mono HB11.out)).mono ?_
        rintro e w12 ⟨E2, rfl, he2, hb12⟩
        have HB12 := Lib.hid (HB11.out.trans (hb12.mono HB11.out.size))
        have HD12 := Lib.hid (HD11.out.mono hb12)
        have HE1' := Lib.hid (HE1.out.mono hb12)
        have HE2 := Lib.hid he2
        obtain ⟨u2, x2, rfl⟩ := he2.some (by decide)
        clear he2 hb12
        go_wp2_with fail
        refine (DeClashed_any HD12.out).mono ?_
        rintro e wc ⟨rfl, rfl⟩
        go_wp2_with fail
        refine (DeDone_any HD12.out).mono ?_
        rintro e wc ⟨rfl, rfl⟩
        have hdn : doneB l K' true = false := by unfold doneB; simp
        rw [hdn]
        clear hdn
        go_wp2_with fail
        refine (tells_ans 7 nameDeAdd _ HE1'.out (HG5.out.mono HB12.out)).mono ?_
        rintro e w13 ⟨rfl, hb13⟩
        have HB13 := Lib.hid (HB12.out.trans (hb13.mono HB12.out.size))
        have HE2' := Lib.hid (HE2.out.mono hb13)
        clear hb13
        go_wp2_with fail
        refine (tells_ans 7 nameDeSource _ HE2'.out (HG5.out.mono HB13.out)).mono ?_
        rintro e w14 ⟨rfl, hb14⟩
        have HB14 := Lib.hid (HB5.out.trans ((HB13.out.trans (hb14.mono HB13.out.size)).mono HB5.out.size))
        clear hb14
        go_wp2_with fail
        refine (HAW.out _ HB14.out).mono ?_
        rintro e wz ⟨rfl, hbz⟩
        have HBZ := Lib.hid (HB14.out.trans (hbz.mono HB14.out.size))
        clear hbz
        go_wp2
        go_ret
        exact ⟨rfl, HBZ.out⟩
      · clear hlt
        obtain ⟨be, oe, rfl, hec⟩ := HEC.out hqp
        have hx0 := hec 0 hqp
        have hxr := (HBWR.out.cell (p := ⟨be, oe + 0, none⟩) (World.block_lt_of_cell? w _ hx0)).trans hx0
        rw [Nat.add_zero] at hxr
        have hnw : (IntKind.u64.wrap (es.getD 0 0)).tmod 65536 = (m0 : Int) := by rw [HE0.out]; exact esi_mod _
        have hn : m0 < 65536 := by rw [HE0.out]; exact esiN_lt _
        clear hec hx0
        generalize es.getD 0 0 = x at *
        obtain ⟨⟨e0, e1, e2, e3, e4, e5, e6, e7⟩, -⟩ := HSAT.out wr HBL.out
        go_wp2_with fail
        refine (HRS.out wr m0 hn HBL.out).mono ?_
        rintro e w7 ⟨v7, rfl, ho7, hb7⟩
        obtain ⟨SY, hSY⟩ : ∃ SY, symE l p sd size V m0 = SY := ⟨_, rfl⟩
        have hSl : SY.length = size := by rw [← hSY]; exact symE_length ..
        have hSo : Octets SY := by rw [← hSY]; exact HX.out.oct m0
        rw [hSY] at ho7
        have hsz1 := HX.out.z1
        obtain ⟨a7, c7, rfl, -, ha7⟩ := own_open ho7
        obtain ⟨ga, rfl⟩ := ha7 (by omega)
        have hga : wr.heap.size ≤ ga := (ho7.lt ga rfl).1
        obtain ⟨z, hz⟩ : ∃ z, SY.getD 0 0 = z := ⟨_, rfl⟩
        have hc0 : w7.cell? ⟨ga, 0, none⟩ = some (.int .u8 (z : Int)) := by
          rw [ho7.cellAt 0 (by omega), ← hz]
          simp [List.getD_eq_getElem?_getD, hSl, byteV, show 0 < size by omega]
        have hf0 := ho7.frozenAt 0
        have hz256 : z < 256 := by rw [← hz]; exact hSo.getD 0
        have hbx := bits_xor_u8_nat z tn hz256 ht
        obtain ⟨w8, hw8⟩ : ∃ w8, w8 = w7.setCell ⟨ga, 0, none⟩ (.int .u8 ((z ^^^ tn : Nat) : Int)) := ⟨_, rfl⟩
        have HW8 := Lib.hid hw8
        have ho8 : w8.ownsRow wr.heap.size 5 1 (.slice (some ⟨ga, 0, none⟩) size c7) size ((SY.set 0 (z ^^^ tn)).map byteV) := by
          rw [hw8, List.map_set]
          exact (ho7.stored 0 _).1
        have hb8 : Below wr.heap.size wr w8 := by rw [hw8]; exact hb7.setCell (p := ⟨ga, 0, none⟩) hga _
        have HB8 := Lib.hid (HBL.out.trans (hb8.mono HBL.out.size))
        have hne : SY ≠ SY.set 0 (z ^^^ tn) := fun e => by
          have h1 : SY.getD 0 0 = (SY.set 0 (z ^^^ tn)).getD 0 0 := congrArg (fun r => r.getD 0 0) e
          rw [getD_set _ _ _ _ _ (by omega), if_pos rfl, hz] at h1
          have h2 : z ^^^ (z ^^^ tn) = z ^^^ z := by rw [← h1]
          rw [← Nat.xor_assoc, Nat.xor_self, Nat.zero_xor] at h2
          omega
        have hso2 : Octets (SY.set 0 (z ^^^ tn)) := fun y hy => by
          rcases List.mem_or_eq_of_mem_set hy with h | h
          · exact hSo y h
          · rw [h]; exact Nat.xor_lt_two_pow (n := 8) hz256 ht
        have hK3 : kindV l (kdS k s h l p sd size V fs) (eqL l (rowE l p sd m0) (SY.set 0 (z ^^^ tn))) = 3 :=
          kind_other (size := size) (y := SY) (cons_in HX.out.cons (sysD_in HX.out.tells HX.out.src fs)) (fun c hc => rowE_lt c hc) hSl (by rw [List.length_set]; exact hSl) hSo hso2 (.mem (by rw [← hSY]; exact sysD_mem HMEM.out)) hne
        have HAD : Hid (Calls Tryz.prog 16 #[.pointer (some ⟨g, 0, none⟩), .int .i64 (m0 : Int), .slice (some ⟨ga, 0, none⟩) size c7] w8 fun e w' => e = .returned (.tuple #[.int .i64 3, .nilIface]) ∧ DTouch g b kb w8 w' ∧ ∃ K', DecAt AnyB w' W5.heap.size g b kb k s h l p sd size K' true) := Lib.hid (by
          refine (DeAdd_ok (HD.out.mono hb8) (fun _ _ => trivial) m0 hn _ _ (ListAt.of_owns ho8) (by rw [List.length_set]; exact hSl) hso2 (PairsAt.mono HT5.out HB8.out) (HBT5.out.mono HB8.out)).mono ?_
          rintro o w' ⟨rfl, h1, h2⟩
          rw [hK3] at h2 ⊢
          exact ⟨rfl, h1, _, h2⟩)
        clear ho7 hb7 hSY hSl hSo hsz1 ha7 hga hz hz256 hw8 ho8 hb8 hne hso2 hK3 e0 e1 e2 e3 e4 e5 e6 e7
        go_upto_region 16 with fail
        rw [← HW8.out]
        go_wp2_with fail
        refine HAD.out.mono ?_
        rintro e w9 ⟨rfl, ht9, K', hd9⟩
        have hb9 := HB8.out.trans (ht9.below hd9.gg hd9.gb hd9.gk HB8.out.size)
        have HB9 := Lib.hid hb9
        have HD9 := Lib.hid hd9
        obtain ⟨⟨e0, e1, e2, e3, e4, e5, e6, e7⟩, -⟩ := HSAT.out w9 hb9
        clear ht9 hd9 hb9 hc0 hf0 hbx hxr
        go_wp2_with fail
        refine (HRS.out w9 m0 hn HB9.out).mono ?_
        rintro e w10 ⟨v10, rfl, ho10, hb10⟩
        have HB10 := Lib.hid (HB9.out.trans (hb10.mono HB9.out.size))
        have HD10 := Lib.hid (HD9.out.mono hb10)
        obtain ⟨a10, c10, rfl, -, -⟩ := own_open ho10
        clear ho10 hb10 e0 e1 e2 e3 e4 e5 e6 e7
        go_wp2_with fail
        refine (DeAdd_over HD10.out _ _).mono ?_
        rintro e w11 ⟨E1, rfl, he1, hb11⟩
        have HB11 := Lib.hid (HB10.out.trans (hb11.mono HB10.out.size))
        have HD11 := Lib.hid (HD10.out.mono hb11)
        have HE1 := Lib.hid he1
        obtain ⟨u1, x1, rfl⟩ := he1.some (by decide)
        clear he1 hb11
        go_wp2_with fail
        refine (DeSrc_over HD11.out (HG5.out.mono HB11.out)).mono ?_
        rintro e w12 ⟨E2, rfl, he2, hb12⟩
        have HB12 := Lib.hid (HB11.out.trans (hb12.mono HB11.out.size))
        have HD12 := Lib.hid (HD11.out.mono hb12)
        have HE1' := Lib.hid (HE1.out.mono hb12)
        have HE2 := Lib.hid he2
        obtain ⟨u2, x2, rfl⟩ := he2.some (by decide)
        clear he2 hb12
        go_wp2_with fail
        refine (DeClashed_any HD12.out).mono ?_
        rintro e wc ⟨rfl, rfl⟩
        go_wp2_with fail
        refine (DeDone_any HD12.out).mono ?_
        rintro e wc ⟨rfl, rfl⟩
        have hdn : doneB l K' true = false := by unfold doneB; simp
        rw [hdn]
        clear hdn
        go_wp2_with fail
        refine (tells_ans 7 nameDeAdd _ HE1'.out (HG5.out.mono HB12.out)).mono ?_
        rintro e w13 ⟨rfl, hb13⟩
        have HB13 := Lib.hid (HB12.out.trans (hb13.mono HB12.out.size))
        have HE2' := Lib.hid (HE2.out.mono hb13)
        clear hb13
        go_wp2_with fail
        refine (tells_ans 7 nameDeSource _ HE2'.out (HG5.out.mono HB13.out)).mono ?_
        rintro e w14 ⟨rfl, hb14⟩
        have HB14 := Lib.hid (HB5.out.trans ((HB13.out.trans (hb14.mono HB13.out.size)).mono HB5.out.size))
        clear hb14
        go_wp2_with fail
        refine (HAW.out _ HB14.out).mono ?_
        rintro e wz ⟨rfl, hbz⟩
        have HBZ := Lib.hid (HB14.out.trans (hbz.mono HB14.out.size))
        clear hbz
        go_wp2
        go_ret
        exact ⟨rfl, HBZ.out⟩
end Go.Proofs.YtkhdjjcflbdegaaGreatDoor
