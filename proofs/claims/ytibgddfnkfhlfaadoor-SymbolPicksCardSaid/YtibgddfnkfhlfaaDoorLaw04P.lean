/- The walk of the fourth layer's law SymbolPicks. -/
import Derived.Test.YtibgddfnkfhlfaaDoorLaw04T
namespace Go.Proofs.YtibgddfnkfhlfaaDoor
open Go.RowKit Go.Extern.Stop Go.Stop Go.Extern

set_option maxRecDepth 1000000 in
set_option maxHeartbeats 8000000 in
theorem picks4 {w : World} (vw v : Value) (ws : List Nat) (L : List (List Nat)) (n : Int) (hvw : ListAt wordV w vw ws) (hww : Word ws) (h : MatAt byteV w v L) (hw : ∀ r ∈ L, Octets r) (hn : I64 n) (hg : Laid w) :
    Calls Tryd.prog 5 #[vw, v, .int .i64 n] w fun e w' => e = .returned (.bool true) ∧ Below w.heap.size w w' := by
  have hwlen := hvw.len
  have HM := Lib.hid h
  have HW := Lib.hid hw
  have HN := Lib.hid hn
  have HG := Lib.hid hg
  have HV := Lib.hid hvw
  have HWW := Lib.hid hww
  have hlen := h.len
  obtain ⟨a, cap, rfl, -, -, -⟩ := h.opens
  obtain ⟨aw, cw, rfl, -, -, -⟩ := hvw
  clear h hw hn hg hww
  by_cases h20 : 20 < ws.length
  · have hI : (20 : Int) < (ws.length : Int) := by omega
    go_enter Tryd.func5, Tryd.ntmps5
    go_wp2_with fail
    refine (awake4 _).mono ?_
    rintro e wz ⟨rfl, hbz⟩
    have HBZ := Lib.hid hbz
    clear hbz
    go_wp2
    go_ret
    exact ⟨rfl, HBZ.out⟩
  · have hI : (ws.length : Int) ≤ 20 := by omega
    have hw100 : ws.length ≤ 100000 := by omega
    by_cases hk : checkS L n = 0
    · obtain ⟨m, rfl, hk1, hk2, hrl⟩ := checkS_zero hk
      have HK := Lib.hid hk
      have HRL := Lib.hid hrl
      clear hk hrl
      go_enter Tryd.func5, Tryd.ntmps5
      go_wp2_with fail
      refine (Pick_ok _ _ ws L m HV.out HWW.out hw100 HM.out hk1 hk2 HRL.out HW.out).mono ?_
      intro e w1 hps
      unfold PickSays at hps
      cases hbh : behindB ws L.length with
      | true =>
        rw [hbh, if_pos rfl] at hps
        obtain ⟨E1, rfl, he1, hb1⟩ := hps
        have HBH := Lib.hid hbh
        have HE1 := Lib.hid he1
        have HB1 := Lib.hid hb1
        have hsz1 := hb1.size
        have HV1 := Lib.hid (HV.out.mono hb1)
        have HM1 := Lib.hid (HM.out.mono hb1)
        obtain ⟨u, x, rfl⟩ := he1.some (by decide)
        clear he1 hb1 hbh
        go_wp2_with fail
        refine (refUnpack_any _ ws HV1.out HWW.out hw100).mono ?_
        rintro e w2 ⟨v2, rfl, hc2, hb2⟩
        have HB2 := Lib.hid (HB1.out.trans (hb2.mono hsz1))
        have hsz2 := HB2.out.size
        have HE2 := Lib.hid (HE1.out.mono hb2)
        have HM2 := Lib.hid (HM1.out.mono hb2)
        have hcl := colsOf_length_le ws
        have hcp : 0 < (colsOf ws).length := by
          have := of_decide_eq_true HBH.out
          omega
        have hlast := (behindB_last (n := L.length) hcp).symm.trans HBH.out
        have hle := of_decide_eq_true hlast
        obtain ⟨ca, cc, rfl, hccap, -, hcell⟩ := hc2
        obtain ⟨cb, coff, rfl, hcc⟩ := hcell hcp
        have hx := hcc ((colsOf ws).length - 1) (by omega)
        have hx1 : w2.cell? ⟨cb, coff + ((colsOf ws).length - 1), none⟩ = some (.int .i64 (((colsOf ws).getD ((colsOf ws).length - 1) 0 : Nat) : Int)) := by
          rw [hx, List.getD_eq_getElem?_getD, List.getElem?_eq_getElem (by omega)]; rfl
        have hle64 : (colsOf ws).getD ((colsOf ws).length - 1) 0 ≤ 6400 := by
          have hmem : (colsOf ws).getD ((colsOf ws).length - 1) 0 ∈ colsOf ws := by
            rw [List.getD_eq_getElem?_getD, List.getElem?_eq_getElem (by omega)]; exact List.getElem_mem _
          have := (mem_colsTo.1 (show _ ∈ colsTo ws (64 * ws.length) from hmem)).1
          omega
        clear hb2 hcell hcc hx hlast
        generalize (colsOf ws).getD ((colsOf ws).length - 1) 0 = last at *
        generalize (colsOf ws).length = nc at *
        obtain ⟨nd, hnd⟩ : ∃ nd, nc = nd + 1 := ⟨nc - 1, by omega⟩
        subst hnd
        rw [show nd + 1 - 1 = nd by omega] at hx1
        have hleI : (L.length : Int) ≤ (last : Int) := by omega
        go_wp2_with fail
        refine (sCheck_any _ L (m : Int) HM2.out HN.out).mono ?_
        rintro e w3 ⟨rfl, rfl⟩
        rw [HK.out]
        go_wp2_with fail
        refine (tells_ans 2 namePick _ HE2.out (HG.out.mono HB2.out)).mono ?_
        rintro e w4 ⟨rfl, hb4⟩
        have HB4 := Lib.hid (HB2.out.trans (hb4.mono hsz2))
        clear hb4
        go_wp2_with fail
        refine (awake4 _).mono ?_
        rintro e wz ⟨rfl, hbz⟩
        have HBZ := Lib.hid (HB4.out.trans (hbz.mono HB4.out.size))
        clear hbz
        go_wp2
        go_ret
        exact ⟨rfl, HBZ.out⟩
      | false =>
        rw [hbh, if_neg (by decide)] at hps
        obtain ⟨v1, rfl, ho1, hb1⟩ := hps
        have HCE := Lib.hid (behindB_false hbh)
        have HB1 := Lib.hid hb1
        have hsz1 := hb1.size
        have HS1 := Lib.hid (ListAt.of_owns ho1)
        have HV1 := Lib.hid (HV.out.mono hb1)
        have HM1 := Lib.hid (HM.out.mono hb1)
        obtain ⟨so, sc, rfl, -, -⟩ := own_open ho1
        clear ho1 hb1
        go_wp2_with fail
        refine (refUnpack_any _ ws HV1.out HWW.out hw100).mono ?_
        rintro e w2 ⟨v2, rfl, hc2, hb2⟩
        have HB2 := Lib.hid (HB1.out.trans (hb2.mono hsz1))
        have hsz2 := HB2.out.size
        have HS2 := Lib.hid (HS1.out.mono hb2)
        have HM2 := Lib.hid (HM1.out.mono hb2)
        have HC2 := Lib.hid hc2
        have hcl := colsOf_length_le ws
        have HCL : Hid ((colsOf ws).length ≤ 6400000) := Lib.hid (by omega)
        have HLT : Hid (∀ c ∈ colsOf ws, c < L.length) := Lib.hid fun c hc => by
          rw [HCE.out] at hc; exact (mem_colsTo.1 hc).1
        have HPK : Hid ((colsOf ws).map (fun c => L.getD c []) = pickTo ws L L.length) := Lib.hid (by rw [HCE.out]; rfl)
        have HPL : Hid (∀ r ∈ pickTo ws L L.length, r.length = m) := Lib.hid fun r hr => HRL.out r (pickTo_mem (Nat.le_refl _) r hr)
        have HPW : Hid (∀ r ∈ pickTo ws L L.length, Octets r) := Lib.hid fun r hr => HW.out r (pickTo_mem (Nat.le_refl _) r hr)
        obtain ⟨ca, cc, rfl, hccap, -, hcell⟩ := hc2
        have HNC : Hid ((colsOf ws).length = (pickTo ws L L.length).length) := Lib.hid (by rw [pickTo_length, HCE.out])
        clear hb2 hbh
        by_cases hcp : 0 < (colsOf ws).length
        · have hlast := (behindB_last (n := L.length) hcp).symm
          rw [show behindB ws L.length = false from decide_eq_false (by rw [HCE.out]; omega)] at hlast
          have hle := of_decide_eq_false hlast
          obtain ⟨cb, coff, rfl, hcc⟩ := hcell hcp
          have hx := hcc ((colsOf ws).length - 1) (by omega)
          have hx1 : w2.cell? ⟨cb, coff + ((colsOf ws).length - 1), none⟩ = some (.int .i64 (((colsOf ws).getD ((colsOf ws).length - 1) 0 : Nat) : Int)) := by
            rw [hx, List.getD_eq_getElem?_getD, List.getElem?_eq_getElem (by omega)]; rfl
          have hleI : (((colsOf ws).getD ((colsOf ws).length - 1) 0 : Nat) : Int) < (L.length : Int) := by omega
          clear hcell hcc hx hlast hle
          generalize (colsOf ws).getD ((colsOf ws).length - 1) 0 = last at *
          obtain ⟨nd, hnd⟩ : ∃ nd, (colsOf ws).length = nd + 1 := ⟨(colsOf ws).length - 1, by omega⟩
          rw [hnd] at hx1 HC2 hccap hcp hcl ⊢
          rw [show nd + 1 - 1 = nd by omega] at hx1
          have HND := Lib.hid hnd
          clear hnd
          go_wp2_with fail
          refine (sCheck_any _ L (m : Int) HM2.out HN.out).mono ?_
          rintro e w3 ⟨rfl, rfl⟩
          rw [HK.out]
          go_wp2_with fail
          refine (tells_nil namePick).mono ?_
          rintro e w3 ⟨rfl, rfl⟩
          have hk0 := (HS2.out.mono (Below.refl w2.heap.size w2).drew).str
          have HM2' := Lib.hid (HM2.out.mono (Below.refl w2.heap.size w2).drew)
          have HC2' := Lib.hid (HC2.out.mono (Below.refl w2.heap.size w2).drew)
          have HS2' := Lib.hid (HS2.out.mono (Below.refl w2.heap.size w2).drew)
          have HB2' := Lib.hid HB2.out.drew
          have hszd : w.heap.size ≤ w2.drew.heap.size := HB2'.out.size
          go_wp2_with fail
          go_region_law (first
            | (go_simp; go_at_call 18; refine (sPicked_any _ _ (colsOf ws) L HC2'.out HM2'.out HLT.out HCL.out).mono ?_; rintro e w3 ⟨vp, rfl, hop, hb3⟩; rw [HPK.out] at hop; have HB3 := Lib.hid (HB2'.out.trans (hb3.mono hszd)); have hsz3 := HB3.out.size; have HS3 := Lib.hid (HS2'.out.mono hb3); have hk1 := HS3.out.str; have HMP := Lib.hid hop.at; obtain ⟨po, pc, rfl, -, -, -⟩ := hop.at.opens; clear hop hb3)
            | (go_simp; go_at_call 15; refine (sSum_any _ (pickTo ws L L.length) m HMP.out HPL.out HPW.out (by omega)).mono ?_; rintro e w4 ⟨vd, rfl, hod, hb4⟩; have HB4 := Lib.hid (HB3.out.trans (hb4.mono hsz3)); have hk3 := (HS3.out.mono hb4).str; have hk2 := (ListAt.of_owns hod).str; obtain ⟨do', dc, rfl, -, -⟩ := own_open hod; clear hod hb4)
            | (go_simp; go_at_call 9; refine (awake4 _).mono ?_; rintro e wz ⟨rfl, hbz⟩; have HBZ := Lib.hid (HB4.out.trans (hbz.mono HB4.out.size)); clear hbz))
          all_goals go_wp2
          all_goals go_ret
          all_goals exact ⟨by rfl, HBZ.out⟩
        · have hc0 : (colsOf ws).length = 0 := by omega
          have HND := Lib.hid hc0
          rw [hc0] at HC2 hccap hcp hcl ⊢
          clear hc0 hcell
          go_wp2_with fail
          refine (sCheck_any _ L (m : Int) HM2.out HN.out).mono ?_
          rintro e w3 ⟨rfl, rfl⟩
          rw [HK.out]
          go_wp2_with fail
          refine (tells_nil namePick).mono ?_
          rintro e w3 ⟨rfl, rfl⟩
          have hk0 := (HS2.out.mono (Below.refl w2.heap.size w2).drew).str
          have HM2' := Lib.hid (HM2.out.mono (Below.refl w2.heap.size w2).drew)
          have HC2' := Lib.hid (HC2.out.mono (Below.refl w2.heap.size w2).drew)
          have HS2' := Lib.hid (HS2.out.mono (Below.refl w2.heap.size w2).drew)
          have HB2' := Lib.hid HB2.out.drew
          have hszd : w.heap.size ≤ w2.drew.heap.size := HB2'.out.size
          go_wp2_with fail
          go_region_law (first
            | (go_simp; go_at_call 18; refine (sPicked_any _ _ (colsOf ws) L HC2'.out HM2'.out HLT.out HCL.out).mono ?_; rintro e w3 ⟨vp, rfl, hop, hb3⟩; rw [HPK.out] at hop; have HB3 := Lib.hid (HB2'.out.trans (hb3.mono hszd)); have hsz3 := HB3.out.size; have HS3 := Lib.hid (HS2'.out.mono hb3); have hk1 := HS3.out.str; have HMP := Lib.hid hop.at; obtain ⟨po, pc, rfl, -, -, -⟩ := hop.at.opens; clear hop hb3)
            | (go_simp; go_at_call 15; refine (sSum_any _ (pickTo ws L L.length) m HMP.out HPL.out HPW.out (by omega)).mono ?_; rintro e w4 ⟨vd, rfl, hod, hb4⟩; have HB4 := Lib.hid (HB3.out.trans (hb4.mono hsz3)); have hk3 := (HS3.out.mono hb4).str; have hk2 := (ListAt.of_owns hod).str; obtain ⟨do', dc, rfl, -, -⟩ := own_open hod; clear hod hb4)
            | (go_simp; go_at_call 9; refine (awake4 _).mono ?_; rintro e wz ⟨rfl, hbz⟩; have HBZ := Lib.hid (HB4.out.trans (hbz.mono HB4.out.size)); clear hbz))
          all_goals go_wp2
          all_goals go_ret
          all_goals exact ⟨by rfl, HBZ.out⟩
    · generalize hkk : checkS L n = k at hk
      have HKK := Lib.hid hkk
      have hk1 : (k != 0) = true := by simpa using hk
      have hk2 : (k == 0) = false := by simpa using hk
      clear hkk
      go_enter Tryd.func5, Tryd.ntmps5
      go_wp2_with fail
      refine (Pick_bad _ _ ws L n k HV.out HM.out HN.out HKK.out hk).mono ?_
      rintro e w1 ⟨E1, rfl, he1, hb1⟩
      have HE1 := Lib.hid he1
      have HB1 := Lib.hid hb1
      have hsz1 := hb1.size
      have HV1 := Lib.hid (HV.out.mono hb1)
      have HM1 := Lib.hid (HM.out.mono hb1)
      obtain ⟨u, x, rfl⟩ := he1.some hk
      clear he1 hb1
      go_wp2_with fail
      refine (refUnpack_any _ ws HV1.out HWW.out hw100).mono ?_
      rintro e w2 ⟨v2, rfl, hc2, hb2⟩
      have HB2 := Lib.hid (HB1.out.trans (hb2.mono hsz1))
      have hsz2 := HB2.out.size
      have HE2 := Lib.hid (HE1.out.mono hb2)
      have HM2 := Lib.hid (HM1.out.mono hb2)
      obtain ⟨ca, cc, rfl, -, -, -⟩ := hc2
      clear hb2
      go_wp2_with fail
      refine (sCheck_any _ L n HM2.out HN.out).mono ?_
      rintro e w3 ⟨rfl, rfl⟩
      rw [HKK.out]
      go_wp2_with fail
      refine (tells_ans k namePick _ HE2.out (HG.out.mono HB2.out)).mono ?_
      rintro e w4 ⟨rfl, hb4⟩
      have HB4 := Lib.hid (HB2.out.trans (hb4.mono hsz2))
      clear hb4
      go_wp2_with fail
      refine (awake4 _).mono ?_
      rintro e wz ⟨rfl, hbz⟩
      have HBZ := Lib.hid (HB4.out.trans (hbz.mono HB4.out.size))
      clear hbz
      go_wp2
      go_ret
      exact ⟨rfl, HBZ.out⟩
end Go.Proofs.YtibgddfnkfhlfaaDoor
