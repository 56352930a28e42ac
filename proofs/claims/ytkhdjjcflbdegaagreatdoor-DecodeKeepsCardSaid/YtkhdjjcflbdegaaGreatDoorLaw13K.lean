/- The thirteenth layer's laws: DecodeKeeps. -/
import Derived.Test.YtkhdjjcflbdegaaGreatDoorH5
import Derived.Test.YtkhdjjcflbdegaaGreatDoorG37
import Derived.Test.YtkhdjjcflbdegaaGreatDoorMade
import Derived.BigQuiet
import Derived.Deep.RegionHeldLaw
import Derived.Deep.RegionHeld3
namespace Go.Proofs.YtkhdjjcflbdegaaGreatDoor
open Go.RowKit Go.Extern.Stop Go.Stop Go.Extern

set_option maxRecDepth 1000000 in
set_option maxHeartbeats 20000000 in
theorem keeps13 {w : World} (n0 : Int) (v : Value) (M : List (List Nat)) (ve : Value) (es : List Int) (hv : MatAt byteV w v M) (ho : ∀ r ∈ M, Octets r) (hes : ListAt intV w ve es) (hT : DgTab w) (hB : Tab w) (hg : Laid w) :
    Calls Tryz.prog 7 #[.agg #[.int .i64 n0, v], ve] w fun e w' => e = .returned (.bool true) ∧ Below w.heap.size w w' := by
  obtain ⟨w1, hw1, hb1, hby⟩ := blk_laid w n0 v
  have HW1 := Lib.hid hw1
  have HB1 := Lib.hid hb1
  have HBY := Lib.hid hby
  obtain ⟨y0, y1⟩ := hby.cells
  have HT := Lib.hid hT
  have HBT := Lib.hid hB
  have HG := Lib.hid hg
  have HAW : Hid (∀ V, Below w.heap.size w V → Calls Tryz.prog 10 #[] V fun e w' => e = .returned (.bool true) ∧ Below V.heap.size V w') := Lib.hid fun V hV => awake13 V (PairsAt.mono hT hV) (hB.mono hV)
  have HFIT := Lib.hid (fit13 (w := w1) n0 v M (hv.mono hb1) ho)
  obtain ⟨av, cv, rfl, -, -, -⟩ := hv.opens
  generalize M.length = ml at *
  have hel := hes.len
  obtain ⟨ae, ce, rfl, -, -, hec⟩ := hes
  have HEC : Hid (0 < es.length → ∃ b off, ae = some ⟨b, off, none⟩ ∧ ∀ j, j < es.length → w.cell? ⟨b, off + j, none⟩ = some (.int .i64 (es.getD j 0))) := Lib.hid fun hp => by
    obtain ⟨b, off, e, hc⟩ := hec hp
    refine ⟨b, off, e, fun j hj => ?_⟩
    rw [hc j hj]
    simp [intV, List.getD_eq_getElem?_getD, hj]
  clear hec
  generalize es.length = q at *
  clear hw1 hb1 hby hT hB hv ho hg
  go_enter Tryz.func7, Tryz.ntmps7
  go_upto_region 1 with fail
  rw [← HW1.out]
  go_wp2_with fail
  refine HFIT.out.mono ?_
  rintro e w2 ⟨size, u1, S, rfl, hs1, hs2, hl1, hl2, hok, hsy, hb2⟩
  have hy2 := HBY.out.mono hb2
  have hb02 := HB1.out.trans (hb2.mono HB1.out.size)
  have hgl := hy2.lt
  obtain ⟨vs, hvs, -⟩ := id hsy
  obtain ⟨a1, q1, rfl, -, hg1⟩ := own_open hvs
  obtain ⟨g1, rfl⟩ := hg1 (by omega)
  obtain ⟨k, hk⟩ : ∃ k, S.length = k := ⟨_, rfl⟩
  rw [hk] at hl1 hl2 hsy ⊢
  obtain ⟨w3, hw3⟩ : ∃ w3, w3 = (w2.setCell ⟨w.heap.size, 0, none⟩ (.int .i64 (size : Int))).setCell ⟨w.heap.size, 1, none⟩ (.slice (some ⟨g1, 0, none⟩) k q1) := ⟨_, rfl⟩
  have HW3 := Lib.hid hw3
  have HY3 : Hid (BlkBox w3 w.heap.size size (.slice (some ⟨g1, 0, none⟩) k q1)) := Lib.hid (by rw [hw3]; exact hy2.store _ _)
  have HS3 : Hid (MatAt byteV w3 (.slice (some ⟨g1, 0, none⟩) k q1) S) := Lib.hid (by
    rw [hw3]
    have h1 := hsy.set hy2 0 (.int .i64 (size : Int))
    exact (h1.set (heap_setCell_at (j := 0) (u := .int .i64 (size : Int)) hy2) 1 (.slice (some ⟨g1, 0, none⟩) k q1)).at)
  have HB3 : Hid (Below w.heap.size w w3) := Lib.hid (by
    rw [hw3]
    exact (hb02.setCell (p := ⟨w.heap.size, 0, none⟩) (Nat.le_refl _) _).setCell (p := ⟨w.heap.size, 1, none⟩) (Nat.le_refl _) _)
  have HK := Lib.hid hk
  have HOK := Lib.hid hok
  obtain ⟨z0, z1⟩ := hy2.cells
  obtain ⟨f0, f1⟩ := hy2.free
  clear hw3 hsy hvs hok hb2 hb02 hk hy2 hg1 y0 y1
  go_upto_region 2 with fail
  rw [← HW3.out]
  obtain ⟨y0, y1⟩ := HY3.out.cells
  clear z0 z1 f0 f1
  have HRN := Lib.hid (rEnNew_any (w := w3) k size _ S HS3.out HK.out hl1 (by omega) hs1 (by omega) HOK.out)
  unfold rEnV at HRN
  go_wp2_with fail
  refine HRN.out.mono ?_
  rintro e w4 ⟨s, h, l, p, sd, vm, V, rfl, hof, hsd, hmv, htv, hb4⟩
  have HX : Hid (BlkS k s h l p sd size S V) := Lib.hid ⟨hof, hsd, hl1, by omega, hs1, by omega, HK.out, HOK.out, htv⟩
  obtain ⟨au, cu, rfl, -, -, -⟩ := hmv.opens
  rw [htv.1] at hmv ⊢
  obtain ⟨W5, hW5, hbW5, hbx5⟩ := ren_laid w4 k s h l p sd size (.slice au l cu)
  have hb35 := hb4.trans (hbW5.mono hb4.size)
  have HW5 := Lib.hid hW5
  have HBX5 := Lib.hid hbx5
  have HMV := Lib.hid (hmv.mono hbW5)
  have HY5 := Lib.hid (HY3.out.mono hb35)
  have HS5 := Lib.hid (HS3.out.mono hb35)
  have hb05 := HB3.out.trans (hb35.mono HB3.out.size)
  have HB5 := Lib.hid hb05
  have HT5 := Lib.hid (PairsAt.mono HT.out hb05)
  have HBT5 := Lib.hid (HBT.out.mono hb05)
  have HG5 := Lib.hid (HG.out.mono hb05)
  have HNW := Lib.hid (DeNew_ok (w := W5) k size hl1 (by omega) hs1 (by omega) (PairsAt.mono HT.out hb05) (HBT.out.mono hb05))
  clear hof hsd hmv htv hb4 hW5 hbW5 hbx5 hb35 hb05 y0 y1
  go_upto_region 3 with fail
  rw [← HW5.out]
  obtain ⟨g6, hg6⟩ : ∃ g6, w4.heap.size = g6 := ⟨_, rfl⟩
  rw [hg6] at HBX5 ⊢
  clear hg6
  obtain ⟨y0, y1⟩ := HY5.out.cells
  have HRS : Hid (∀ Z (n : Nat), n < 65536 → Below W5.heap.size W5 Z → Calls Tryz.prog 27 #[.agg #[.int .i64 (k : Int), .int .i64 (s : Int), .int .i64 (h : Int), .int .i64 (l : Int), .int .i64 (p : Int), .int .i64 (sd : Int), .int .i64 (size : Int), .slice au l cu], .int .i64 (n : Int)] Z fun e w' => ∃ v', e = .returned v' ∧ w'.ownsRow Z.heap.size 5 1 v' size ((symE l p sd size V n).map byteV) ∧ Below Z.heap.size Z w') := Lib.hid fun Z n hn hZ =>
    rEnSym_any k s h l p sd size n _ V HX.out.of HX.out.k1 HX.out.k2 HX.out.seed.1 hn (HMV.out.mono hZ) HX.out.tells.1 (fun r hr => HX.out.tells.row r hr) (by omega)
  have HSAT : Hid (∀ Z, Below W5.heap.size W5 Z → (Z.cell? ⟨g6, 0, none⟩ = some (.int .i64 (k : Int)) ∧ Z.cell? ⟨g6, 1, none⟩ = some (.int .i64 (s : Int)) ∧ Z.cell? ⟨g6, 2, none⟩ = some (.int .i64 (h : Int)) ∧ Z.cell? ⟨g6, 3, none⟩ = some (.int .i64 (l : Int)) ∧ Z.cell? ⟨g6, 4, none⟩ = some (.int .i64 (p : Int)) ∧
      Z.cell? ⟨g6, 5, none⟩ = some (.int .i64 (sd : Int)) ∧ Z.cell? ⟨g6, 6, none⟩ = some (.int .i64 (size : Int)) ∧ Z.cell? ⟨g6, 7, none⟩ = some (.slice au l cu)) ∧ Z.cell? ⟨w.heap.size, 1, none⟩ = some (.slice (some ⟨g1, 0, none⟩) k q1)) := Lib.hid fun Z hZ => ⟨(HBX5.out.mono hZ).cells, (HY5.out.mono hZ).cells.2⟩
  go_wp2_with fail
  refine HNW.out.mono ?_
  rintro e w6 ⟨g, b, kb, s', h', l', p', sd', rfl, hd, hb6⟩
  obtain ⟨rfl, rfl, rfl, rfl⟩ := HX.out.of.unique hd.of
  obtain rfl := HX.out.seed.unique hd.seed
  have HD6 := Lib.hid (hd.fresh (symE l p sd size V))
  have HB6 := Lib.hid hb6
  clear hd hb6 y0 y1
  go_wp2_with fail
  go_loopw [8] (fun i wr => ∃ (j : Nat) (fs : List Nat), j ≤ q ∧ j ≤ 30 ∧ i = .int .i64 j ∧ DecAt AnyB wr W5.heap.size g b kb k s h l p sd size (kdS k s h l p sd size V fs) false ∧ Below W5.heap.size W5 wr) (fun i _ => 30 - (intOf i).toNat)
  case atStart => exact ⟨0, [], Nat.zero_le _, Nat.zero_le _, rfl, HD6.out, HB6.out⟩
  case round =>
    obtain ⟨j, fs, hj, hj30, rfl, hd, hbel⟩ := hrel
    clear HD6 HB6
    have HD := Lib.hid hd
    have HBL := Lib.hid hbel
    have HBWR := Lib.hid (HB5.out.trans (hbel.mono HB5.out.size))
    by_cases hlt : j < q ∧ j < 30
    · obtain ⟨hjq, hj3⟩ := hlt
      have d2 : decide ((j : Int) < 30) = true := decide_eq_true (by omega)
      obtain ⟨be, oe, rfl, hec⟩ := HEC.out (by omega)
      have hx0 := hec j hjq
      have hxr := (HBWR.out.cell (p := ⟨be, oe + j, none⟩) (World.block_lt_of_cell? w _ hx0)).trans hx0
      obtain ⟨n, hnE⟩ : ∃ n, n = esiN (es.getD j 0) := ⟨_, rfl⟩
      have hnw : (IntKind.u64.wrap (es.getD j 0)).tmod 65536 = (n : Int) := by rw [hnE]; exact esi_mod _
      have hn : n < 65536 := by rw [hnE]; exact esiN_lt _
      have HNE := Lib.hid hnE
      clear hec hx0 hnE
      generalize es.getD j 0 = x at *
      have HDN := Lib.hid (DeDone_any hd)
      have HRK := Lib.hid (DeRank_any hd)
      have HRR : Hid (rkP l (kdS k s h l p sd size V fs) = rankA k s h l p sd fs) := Lib.hid (HX.out.rk fs)
      clear hd hbel
      go_wp2_with fail
      refine HDN.out.mono ?_
      rintro e w7 ⟨rfl, rfl⟩
      go_wp2_with fail
      refine HRK.out.mono ?_
      rintro e w6 ⟨rfl, m6, rfl⟩
      have hb6 : Below wr.heap.size wr (wr.drewN m6) := below_draws (Below.refl _ _) m6
      obtain ⟨w6, hw6⟩ : ∃ w6, w6 = wr.drewN m6 := ⟨_, rfl⟩
      rw [← hw6] at hb6 ⊢
      clear hw6
      rw [HRR.out]
      have HB6 := Lib.hid (HBL.out.trans (hb6.mono HBL.out.size))
      have HD6 := Lib.hid (HD.out.mono hb6)
      have HSY := Lib.hid (HRS.out w6 n hn HB6.out)
      obtain ⟨⟨e0, e1, e2, e3, e4, e5, e6, e7⟩, -⟩ := HSAT.out w6 HB6.out
      clear hb6
      go_wp2_with fail
      refine HSY.out.mono ?_
      rintro e w7 ⟨v7, rfl, ho7, hb7⟩
      have hb57 := HB6.out.trans (hb7.mono HB6.out.size)
      have HB7 := Lib.hid hb57
      have HAD := Lib.hid (src_add HX.out (HD6.out.mono hb7) n hn v7 (ListAt.of_owns ho7) (PairsAt.mono HT5.out hb57) (HBT5.out.mono hb57))
      obtain ⟨a7, c7, rfl, -, -⟩ := own_open ho7
      clear ho7 hb7 hb57 e0 e1 e2 e3 e4 e5 e6 e7
      go_wp2_with fail
      refine HAD.out.mono ?_
      rintro e w8 ⟨kd, hkd, rfl, hrk, ht8, hd8⟩
      have HD8 := Lib.hid hd8
      have hb8 := HB7.out.trans (ht8.below hd8.gg hd8.gb hd8.gk HB7.out.size)
      have HB8 := Lib.hid hb8
      have hrl : rankA k s h l p sd (fs ++ [n]) ≤ l := by rw [← HX.out.rk]; exact rkP_le _ _
      have hl157 : l ≤ 157 := (HX.out.of.bounds HX.out.k1 HX.out.k2).2.2.2.2.1
      have hwas : rankA k s h l p sd fs = l → kd = 2 := fun h => by omega
      have HWB : Hid (∀ bw, doneB l (kdS k s h l p sd size V fs) false = bw → bw = true → kd = 2) := Lib.hid fun bw e1 e2 => by
        rw [e2] at e1
        unfold doneB at e1
        rw [HX.out.rk] at e1
        exact hwas (by simpa using e1)
      obtain ⟨bw, hbw⟩ : ∃ bw, doneB l (kdS k s h l p sd size V fs) false = bw := ⟨_, rfl⟩
      have HW2 := Lib.hid (HWB.out bw hbw)
      rw [hbw]
      have hsl : w8.cell? ⟨g6, 3, none⟩ = some (.int .i64 (l : Int)) := (HSAT.out _ hb8).1.2.2.2.1
      have HRQ : Hid (∀ nd, Calls Tryz.prog 17 #[.pointer (some ⟨g, 0, none⟩)] (w8.drewN nd) fun e w' => e = .returned (.int .i64 ((rankA k s h l p sd (fs ++ [n]) : Nat) : Int)) ∧ ∃ m, w' = (w8.drewN nd).drewN m) := Lib.hid fun nd => by
        have := DeRank_any (hd8.mono (below_draws (Below.refl _ _) nd))
        rwa [HX.out.rk] at this
      have HRN : Hid (rankA k s h l p sd (fs ++ [n] ++ [n]) = rankA k s h l p sd (fs ++ [n])) := Lib.hid (rank_known (List.mem_append_right _ (List.mem_singleton.2 rfl)))
      clear HWB hbw hwas ht8 hd8 hb8
      generalize rankA k s h l p sd fs = r at *
      obtain ⟨r8, hr8⟩ : ∃ r8, rankA k s h l p sd (fs ++ [n]) = r8 := ⟨_, rfl⟩
      have HR8 := Lib.hid hr8
      rw [hr8] at HRQ HRN hrk hrl
      clear hr8
      rcases hkd with rfl | rfl
      · obtain rfl : r8 = r + 1 := by omega
        obtain rfl : bw = false := by
          cases bw
          · rfl
          · exact absurd (HW2.out rfl) (by decide)
        have hrb : ((r + 1 : Nat) : Int) = (r : Int) + 2 - 1 := by omega
        rw [hrb] at HRQ
        have HRB := Lib.hid hrb
        clear hrk hrb HW2
        go_wp2_with fail
        go_quiet (exact Calls.quiet_of (HRQ.out _))
        obtain ⟨w9, hw9⟩ : ∃ w9, w9 = w8.drewN nq := ⟨_, rfl⟩
        have HB9 : Hid (Below w8.heap.size w8 w9) := Lib.hid (by rw [hw9]; exact below_draws (Below.refl _ _) nq)
        have HR9 : Hid (Calls Tryz.prog 17 #[.pointer (some ⟨g, 0, none⟩)] w9 fun e w' => e = .returned (.int .i64 ((r : Int) + 2 - 1)) ∧ ∃ m, w' = w9.drewN m) := Lib.hid (by rw [hw9]; exact HRQ.out nq)
        rw [← hw9]
        clear hw9 hsl HRQ
        go_wp2_with fail
        refine HR9.out.mono ?_
        rintro e w11 ⟨rfl, m11, rfl⟩
        obtain ⟨w11, hw11⟩ : ∃ w11, w11 = w9.drewN m11 := ⟨_, rfl⟩
        have HB11 : Hid (Below w8.heap.size w8 w11) := Lib.hid (by rw [hw11]; exact below_draws HB9.out m11)
        rw [← hw11]
        have HB11W := Lib.hid (HB8.out.trans (HB11.out.mono HB8.out.size))
        have HSY11 := Lib.hid (HRS.out w11 n hn HB11W.out)
        obtain ⟨⟨e0, e1, e2, e3, e4, e5, e6, e7⟩, -⟩ := HSAT.out w11 HB11W.out
        clear hw11 HR9
        go_wp2_with fail
        refine HSY11.out.mono ?_
        rintro e w12 ⟨v12, rfl, ho12, hb12⟩
        have hb512 := HB11W.out.trans (hb12.mono HB11W.out.size)
        have HB12 := Lib.hid hb512
        have HAD12 := Lib.hid (src_add HX.out ((HD8.out.mono HB11.out).mono hb12) n hn v12 (ListAt.of_owns ho12) (PairsAt.mono HT5.out hb512) (HBT5.out.mono hb512))
        obtain ⟨a12, c12, rfl, -, -⟩ := own_open ho12
        clear ho12 hb12 hb512 e0 e1 e2 e3 e4 e5 e6 e7
        go_wp2_with fail
        refine HAD12.out.mono ?_
        rintro e w13 ⟨kd, hkd, rfl, hrk, ht13, hd13⟩
        rw [HRN.out, HR8.out] at hrk
        obtain rfl : kd = 2 := by omega
        have HD13 := Lib.hid hd13
        have hb13 := HB12.out.trans (ht13.below hd13.gg hd13.gb hd13.gk HB12.out.size)
        have HB13 := Lib.hid hb13
        have HRK13 : Hid (Calls Tryz.prog 17 #[.pointer (some ⟨g, 0, none⟩)] w13 fun e w' => e = .returned (.int .i64 ((r : Int) + 2 - 1)) ∧ ∃ m, w' = w13.drewN m) := Lib.hid (by
          have := DeRank_any hd13
          rw [HX.out.rk, HRN.out] at this
          rw [HRB.out] at this
          exact this)
        clear hrk hkd ht13 hd13 hb13
        go_wp2_with fail
        refine HRK13.out.mono ?_
        rintro e w14 ⟨rfl, m14, rfl⟩
        obtain ⟨w14, hw14⟩ : ∃ w14, w14 = w13.drewN m14 := ⟨_, rfl⟩
        have HB14 : Hid (Below W5.heap.size W5 w14) := Lib.hid (by rw [hw14]; exact below_draws HB13.out m14)
        have HD14 := Lib.hid (HD13.out.mono (show Below w13.heap.size w13 w14 by rw [hw14]; exact below_draws (Below.refl _ _) m14))
        rw [← hw14]
        clear hw14 HRK13
        go_wp2
        go_roundw
        case rel => exact ⟨j + 1, _, by omega, by omega, by go_num, HD14.out, HB14.out⟩
        case measure => simp [intOf]; omega
      · obtain rfl : r = r8 := by omega
        clear hrk HW2
        cases bw
        all_goals
          go_wp2_with fail
          go_quiet (exact Calls.quiet_of (HRQ.out _))
          obtain ⟨w9, hw9⟩ : ∃ w9, w9 = w8.drewN nq := ⟨_, rfl⟩
          have HB9 : Hid (Below w8.heap.size w8 w9) := Lib.hid (by rw [hw9]; exact below_draws (Below.refl _ _) nq)
          have HR9 : Hid (Calls Tryz.prog 17 #[.pointer (some ⟨g, 0, none⟩)] w9 fun e w' => e = .returned (.int .i64 ((r : Int))) ∧ ∃ m, w' = w9.drewN m) := Lib.hid (by rw [hw9]; exact HRQ.out nq)
          rw [← hw9]
          clear hw9 hsl HRQ
          go_wp2_with fail
          refine HR9.out.mono ?_
          rintro e w11 ⟨rfl, m11, rfl⟩
          obtain ⟨w11, hw11⟩ : ∃ w11, w11 = w9.drewN m11 := ⟨_, rfl⟩
          have HB11 : Hid (Below w8.heap.size w8 w11) := Lib.hid (by rw [hw11]; exact below_draws HB9.out m11)
          rw [← hw11]
          have HB11W := Lib.hid (HB8.out.trans (HB11.out.mono HB8.out.size))
          have HSY11 := Lib.hid (HRS.out w11 n hn HB11W.out)
          obtain ⟨⟨e0, e1, e2, e3, e4, e5, e6, e7⟩, -⟩ := HSAT.out w11 HB11W.out
          clear hw11 HR9
          go_wp2_with fail
          refine HSY11.out.mono ?_
          rintro e w12 ⟨v12, rfl, ho12, hb12⟩
          have hb512 := HB11W.out.trans (hb12.mono HB11W.out.size)
          have HB12 := Lib.hid hb512
          have HAD12 := Lib.hid (src_add HX.out ((HD8.out.mono HB11.out).mono hb12) n hn v12 (ListAt.of_owns ho12) (PairsAt.mono HT5.out hb512) (HBT5.out.mono hb512))
          obtain ⟨a12, c12, rfl, -, -⟩ := own_open ho12
          clear ho12 hb12 hb512 e0 e1 e2 e3 e4 e5 e6 e7
          go_wp2_with fail
          refine HAD12.out.mono ?_
          rintro e w13 ⟨kd, hkd, rfl, hrk, ht13, hd13⟩
          rw [HRN.out, HR8.out] at hrk
          obtain rfl : kd = 2 := by omega
          have HD13 := Lib.hid hd13
          have hb13 := HB12.out.trans (ht13.below hd13.gg hd13.gb hd13.gk HB12.out.size)
          have HB13 := Lib.hid hb13
          have HRK13 : Hid (Calls Tryz.prog 17 #[.pointer (some ⟨g, 0, none⟩)] w13 fun e w' => e = .returned (.int .i64 ((r : Int))) ∧ ∃ m, w' = w13.drewN m) := Lib.hid (by
            have := DeRank_any hd13
            rw [HX.out.rk, HRN.out] at this
            exact this)
          clear hrk hkd ht13 hd13 hb13
          go_wp2_with fail
          refine HRK13.out.mono ?_
          rintro e w14 ⟨rfl, m14, rfl⟩
          obtain ⟨w14, hw14⟩ : ∃ w14, w14 = w13.drewN m14 := ⟨_, rfl⟩
          have HB14 : Hid (Below W5.heap.size W5 w14) := Lib.hid (by rw [hw14]; exact below_draws HB13.out m14)
          have HD14 := Lib.hid (HD13.out.mono (show Below w13.heap.size w13 w14 by rw [hw14]; exact below_draws (Below.refl _ _) m14))
          rw [← hw14]
          clear hw14 HRK13
          go_wp2
          go_roundw
          case rel => exact ⟨j + 1, _, by omega, by omega, by go_num, HD14.out, HB14.out⟩
          case measure => simp [intOf]; omega
    · clear hd hbel
      by_cases hjq : j < q
      · have d2 : decide ((j : Int) < 30) = false := decide_eq_false (by omega)
        clear hlt
        go_wp2_with fail
        refine (HAW.out _ HBWR.out).mono ?_
        rintro e wz ⟨rfl, hbz⟩
        have HBZ := Lib.hid (HBWR.out.trans (hbz.mono HBWR.out.size))
        clear hbz
        go_wp2
        go_ret
        exact ⟨rfl, HBZ.out⟩
      · clear hlt
        go_wp2_with fail
        refine (HAW.out _ HBWR.out).mono ?_
        rintro e wz ⟨rfl, hbz⟩
        have HBZ := Lib.hid (HBWR.out.trans (hbz.mono HBWR.out.size))
        clear hbz
        go_wp2
        go_ret
        exact ⟨rfl, HBZ.out⟩
end Go.Proofs.YtkhdjjcflbdegaaGreatDoor
