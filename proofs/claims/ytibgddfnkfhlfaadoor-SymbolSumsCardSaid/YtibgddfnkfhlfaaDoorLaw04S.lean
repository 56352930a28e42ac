/- The walk of the fourth layer's law SymbolSums. -/
import Derived.Test.YtibgddfnkfhlfaaDoorLaw04T
namespace Go.Proofs.YtibgddfnkfhlfaaDoor
open Go.RowKit Go.Extern.Stop Go.Stop Go.Extern

set_option maxRecDepth 1000000 in
set_option maxHeartbeats 8000000 in
theorem sums4 {w : World} (v : Value) (L : List (List Nat)) (n : Int) (h : MatAt byteV w v L) (hw : ∀ r ∈ L, Octets r) (hn : I64 n) (hL : L.length * 24 ≤ reachBytes) (hR : ∀ r ∈ L, r.length * 1 ≤ reachBytes) (hg : Laid w) :
    Calls Tryd.prog 4 #[v, .int .i64 n] w fun e w' => e = .returned (.bool true) ∧ Below w.heap.size w w' := by
  have HM := Lib.hid h
  have HW := Lib.hid hw
  have HN := Lib.hid hn
  have HG := Lib.hid hg
  have HLR := Lib.hid hL
  have HRR := Lib.hid hR
  obtain ⟨a, cap, rfl, -, -, -⟩ := h.opens
  clear h hw hn hg hL hR
  go_enter Tryd.func4, Tryd.ntmps4
  go_wp2_with fail
  refine (sCopy_any _ L HM.out HLR.out HRR.out).mono ?_
  rintro e w1 ⟨v1, rfl, hm1, hb1⟩
  have HM1 := Lib.hid hm1.at
  have HB1 := Lib.hid hb1
  have hsz1 := hb1.size
  have HML := Lib.hid (HM.out.mono hb1)
  obtain ⟨oa, oc, rfl, -, -, -⟩ := hm1.at.opens
  clear hm1 hb1
  by_cases hk : checkS L n = 0
  · obtain ⟨m, rfl, hk1, hk2, hrl⟩ := checkS_zero hk
    have HK := Lib.hid hk
    have HRL := Lib.hid hrl
    clear hk hrl
    go_wp2_with fail
    refine (Sum_ok _ L m HM1.out hk1 hk2 HRL.out HW.out).mono ?_
    rintro e w2 ⟨v2, rfl, ho2, hb2⟩
    have HB2 := Lib.hid (HB1.out.trans (hb2.mono hsz1))
    have hsz2 := HB2.out.size
    have HS2 := Lib.hid (ListAt.of_owns ho2)
    have HM2 := Lib.hid (HM1.out.mono hb2)
    have HML2 := Lib.hid (HML.out.mono hb2)
    obtain ⟨so, sc, rfl, -, -⟩ := own_open ho2
    clear ho2 hb2
    go_wp2_with fail
    refine (sCheck_any _ L (m : Int) HML2.out HN.out).mono ?_
    rintro e w3 ⟨rfl, rfl⟩
    rw [HK.out]
    go_wp2_with fail
    refine (tells_nil nameSum).mono ?_
    rintro e w3 ⟨rfl, rfl⟩
    go_wp2_with fail
    refine (sSame_any _ _ L HM2.out HML2.out).mono ?_
    rintro e w3 ⟨rfl, hb3⟩
    have HB3 := Lib.hid (HB2.out.trans (hb3.mono hsz2))
    have hsz3 := HB3.out.size
    have HS3 := Lib.hid (HS2.out.mono hb3)
    have HML3 := Lib.hid (HML2.out.mono hb3)
    clear hb3
    have hk0 := (HS3.out.mono (Below.refl w3.heap.size w3).drew).str
    have HML3' := Lib.hid (HML3.out.mono (Below.refl w3.heap.size w3).drew)
    have HS3' := Lib.hid (HS3.out.mono (Below.refl w3.heap.size w3).drew)
    have HB3' := Lib.hid HB3.out.drew
    have hszd : w.heap.size ≤ w3.drew.heap.size := HB3'.out.size
    go_wp2_with fail
    go_region_law (first
      | (go_simp; go_at_call 15; refine (sSum_any _ L m HML3'.out HRL.out HW.out (by omega)).mono ?_; rintro e w4 ⟨vd, rfl, hod, hb4⟩; have HB4 := Lib.hid (HB3'.out.trans (hb4.mono hszd)); have hk1 := (HS3'.out.mono hb4).str; have hk2 := (ListAt.of_owns hod).str; obtain ⟨do', dc, rfl, -, -⟩ := own_open hod; clear hod hb4)
      | (go_simp; go_at_call 9; refine (awake4 _).mono ?_; rintro e wz ⟨rfl, hbz⟩; have HBZ := Lib.hid (HB4.out.trans (hbz.mono HB4.out.size)); clear hbz))
    all_goals go_wp2
    all_goals go_ret
    all_goals exact ⟨by rfl, HBZ.out⟩
  · generalize hkk : checkS L n = k at hk
    have HKK := Lib.hid hkk
    have hk1 : (k != 0) = true := by simpa using hk
    have hk2 : (k == 0) = false := by simpa using hk
    clear hkk
    go_wp2_with fail
    refine (Sum_bad _ L n k HM1.out HN.out HKK.out hk).mono ?_
    rintro e w2 ⟨E2, rfl, he2, hb2⟩
    have HB2 := Lib.hid (HB1.out.trans (hb2.mono hsz1))
    have hsz2 := HB2.out.size
    have HE2 := Lib.hid he2
    have HM2 := Lib.hid (HM1.out.mono hb2)
    have HML2 := Lib.hid (HML.out.mono hb2)
    obtain ⟨u, x, rfl⟩ := he2.some hk
    clear he2 hb2
    go_wp2_with fail
    refine (sCheck_any _ L n HML2.out HN.out).mono ?_
    rintro e w3 ⟨rfl, rfl⟩
    rw [HKK.out]
    go_wp2_with fail
    refine (tells_ans k nameSum _ HE2.out (HG.out.mono HB2.out)).mono ?_
    rintro e w3 ⟨rfl, hb3⟩
    have HB3 := Lib.hid (HB2.out.trans (hb3.mono hsz2))
    have hsz3 := HB3.out.size
    have HM3 := Lib.hid (HM2.out.mono hb3)
    have HML3 := Lib.hid (HML2.out.mono hb3)
    clear hb3
    go_wp2_with fail
    refine (sSame_any _ _ L HM3.out HML3.out).mono ?_
    rintro e w4 ⟨rfl, hb4⟩
    have HB4 := Lib.hid (HB3.out.trans (hb4.mono hsz3))
    clear hb4
    go_wp2_with fail
    refine (awake4 _).mono ?_
    rintro e wz ⟨rfl, hbz⟩
    have HBZ := Lib.hid (HB4.out.trans (hbz.mono HB4.out.size))
    clear hbz
    go_wp2
    go_ret
    exact ⟨rfl, HBZ.out⟩
end Go.Proofs.YtibgddfnkfhlfaaDoor
