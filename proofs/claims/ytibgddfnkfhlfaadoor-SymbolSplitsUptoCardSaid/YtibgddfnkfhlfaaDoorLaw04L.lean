/- The walk of the fourth layer's law SymbolSplits. -/
import Derived.Test.YtibgddfnkfhlfaaDoorLaw04X
import Derived.Test.YtibgddfnkfhlfaaDoorSyN
namespace Go.Proofs.YtibgddfnkfhlfaaDoor
open Go.RowKit Go.Extern.Stop Go.Stop Go.Extern

theorem neqBoolS (p q r : Bool) (h : (p != q) = r) (w : World) : (binOp .neq 4 (.bool p) (.bool q)).run Tryd.prog w = .ok (.bool r) w := by
  subst h; cases p <;> cases q <;> kernel_rfl

set_option maxRecDepth 1000000 in
set_option maxHeartbeats 8000000 in
theorem splits4 {w : World} (va : Value) (xa : List Nat) (n : Int) (ha : ListAt byteV w va xa) (hao : Octets xa) (hn : I64 n) (hal : xa.length ≤ 4194304) (hg : Laid w) :
    Calls Tryd.prog 6 #[va, .int .i64 n] w fun e w' => e = .returned (.bool true) ∧ Below w.heap.size w w' := by
  obtain ⟨j0, hj0, jz0, jz1, jz2⟩ := info_parts info_u8
  have HA := Lib.hid ha
  have HAO := Lib.hid hao
  have HG := Lib.hid hg
  have HN := Lib.hid hn
  have HB0 := Lib.hid ((Below.refl w.heap.size w).alloc (Nat.le_refl _) (.cells #[] 5))
  have HO0 := Lib.hid (World.ownsRow_made (base := w.heap.size) (e := 5) (size := 1) w #[] 0 (Nat.le_refl _) (by decide) rfl)
  have HA0 := Lib.hid (HA.out.mono HB0.out)
  obtain ⟨aa, ca, rfl, -, -, -⟩ := ha
  clear hao hg hn
  obtain ⟨N, hN⟩ : ∃ N, xa.length = N := ⟨_, rfl⟩
  have HNA := Lib.hid hN
  rw [hN] at HA HA0 hal ⊢
  clear hN
  by_cases hk : checkS [] n = 0
  · obtain ⟨m, rfl, hm1, hm2, -⟩ := checkS_zero hk
    have HK := Lib.hid hk
    clear hk
    go_enter Tryd.func6, Tryd.ntmps6
    go_wp2_with (at_builtin; go_loud (refine wpList_append_of (f := byteV) _ rfl (.tmp 10) (.tmp 11) 22 rfl w.heap.size 5 j0 (.int .u8 0) 1 Tryd.underlying22 hj0 jz0 jz1 jz2 rfl _ 0 [] rfl HO0.out _ xa rfl HA0.out (fun y _ => rfl) (by rw [HNA.out]; unfold maxLen; omega) (by rw [HNA.out]; omega) (by simp) ?_; intro own w1 hownA hgrowA; have HB1 := Lib.hid (HB0.out.grown hgrowA (by simp) (fun k hk => (HO0.out.lt k hk).1)); rw [HNA.out, Nat.zero_add, List.nil_append] at hownA; have HO1 := Lib.hid hownA; obtain ⟨oo, oc, rfl, hocap, hog⟩ := own_open hownA; have HOG := Lib.hid hog; clear hownA hgrowA hog))
    have HL1 := Lib.hid (ListAt.of_owns HO1.out)
    have hsz1 := HB1.out.size
    refine (Split_new _ xa m HL1.out hm1 hm2 (by rw [HNA.out]; exact hal)).mono ?_
    rintro e w2 ⟨vs, rfl, hms, hb2⟩
    have HB2 := Lib.hid (HB1.out.trans (hb2.mono hsz1))
    have HO2 := Lib.hid (owns_kept HO1.out hb2)
    have HM2 := Lib.hid hms
    have HML := Lib.hid (splitTo_length xa m (pieces xa m))
    obtain ⟨lo, lc, rfl, -, -, -⟩ := hms.own.at.opens
    rw [splitTo_length] at HM2 ⊢
    have HOL : Hid (∀ b, (Value.slice oo N oc).ownBlock = some b → b < w1.heap.size) := Lib.hid fun b hb => (HO1.out.lt b hb).2
    clear hms hb2
    go_wp2_with fail
    go_loopw [8] (fun i wr => ∃ k : Nat, k ≤ N ∧ i = .int .i64 k ∧ (∃ zs : List Nat, zs.length = N ∧ Octets zs ∧ wr.ownsRow w.heap.size 5 1 (.slice oo N oc) N (zs.map byteV)) ∧ w2.grownBy wr (Value.slice oo N oc).ownBlock ∧ Below w.heap.size w wr ∧ (N = 0 → w2 = wr)) (fun i _ => N - (intOf i).toNat)
    case atStart => exact ⟨0, Nat.zero_le _, rfl, ⟨xa, HNA.out, HAO.out, HO2.out⟩, World.grownBy.refl _ _, HB2.out, fun _ => rfl⟩
    case round =>
      obtain ⟨k, hk, rfl, ⟨zs, hzl, hzo, hown⟩, hgr, hbel, hz⟩ := hrel
      have hsz := hbel.size
      by_cases hlt : k < N
      · obtain ⟨g, rfl⟩ := HOG.out (by omega)
        have hgb := (hown.lt g rfl).1
        have hx1 : wr.cell? ⟨g, k, none⟩ = some (.int .u8 ((zs.getD k 0 : Nat) : Int)) := by
          rw [hown.cellAt k (by omega)]
          simp [List.getD_eq_getElem?_getD, hzl, hlt, byteV]
        have hf1 : wr.frozen? ⟨g, k, none⟩ = false := hown.frozenAt k
        have hzk := hzo.getD k
        have hfl := flip_u8 (zs.getD k 0) hzk
        have HOW := Lib.hid hown
        have HGR := Lib.hid hgr
        have HBW := Lib.hid hbel
        have HZL := Lib.hid hzl
        have HZO := Lib.hid hzo
        clear hown hgr hbel hzl hzo hzk hz
        generalize zs.getD k 0 = x at *
        go_wp2
        go_roundw
        case rel => exact ⟨k + 1, by omega, by go_num, ⟨zs.set k (255 - x), by simpa using HZL.out, HZO.out.set _ _ (by omega), by rw [List.map_set]; exact (HOW.out.stored k (.int .u8 ((255 - x : Nat) : Int))).1⟩, grown_trans HGR.out (HOW.out.stored k (.int .u8 ((255 - x : Nat) : Int))).2, HBW.out.setCell (p := ⟨g, k, none⟩) hgb _, fun h => by omega⟩
        case measure => simp [intOf]; omega
      · have HM3 : Hid (MatAt byteV wr (.slice lo (pieces xa m) lc) (splitTo xa m (pieces xa m))) := Lib.hid (HM2.out.at_kept hgr HOL.out)
        have HB3 := Lib.hid hbel
        have HA3 := Lib.hid (HA.out.mono hbel)
        have HNIL := Lib.hid (MatAt.nil byteV wr)
        have hnb : (binOp .neq 4 (.bool (zeroB xa)) (.bool (zeroB xa))).run Tryd.prog wr = .ok (.bool false) wr := neqBoolS _ _ _ (by simp) _
        clear hown hgr hbel hzo hz
        go_wp2_with fail
        refine (sCheck_any _ [] (m : Int) HNIL.out HN.out).mono ?_
        rintro e w4 ⟨rfl, rfl⟩
        rw [HK.out]
        go_wp2_with fail
        refine (tells_nil nameSplit).mono ?_
        rintro e w4 ⟨rfl, rfl⟩
        go_wp2_with fail
        refine (Zero_any _ xa HA3.out).mono ?_
        rintro e w4 ⟨rfl, rfl⟩
        go_wp2_with fail
        refine (refZero_any _ xa HA3.out).mono ?_
        rintro e w4 ⟨rfl, rfl⟩
        go_wp2_with fail
        refine (refSplit_any _ xa m HA3.out HAO.out hm1 hm2 (by rw [HNA.out]; exact hal)).mono ?_
        rintro e w4 ⟨vd, rfl, hod, hb4⟩
        have HB4 := Lib.hid (HB3.out.trans (hb4.mono hsz))
        have HM4 := Lib.hid (HM3.out.mono hb4)
        have HR4 := Lib.hid hod.at
        have hsz4 := HB4.out.size
        obtain ⟨ro, rc, rfl, -, -, -⟩ := hod.at.opens
        clear hod hb4
        go_wp2_with fail
        refine (sSame_any _ _ _ HM4.out HR4.out).mono ?_
        rintro e w5 ⟨rfl, hb5⟩
        have HB5 := Lib.hid (HB4.out.trans (hb5.mono hsz4))
        clear hb5
        go_wp2_with fail
        refine (awake4 _).mono ?_
        rintro e wz ⟨rfl, hbz⟩
        have HBZ := Lib.hid (HB5.out.trans (hbz.mono HB5.out.size))
        clear hbz
        go_wp2
        go_ret
        exact ⟨rfl, HBZ.out⟩
  · generalize hkk : checkS [] n = kk at hk
    have HKK := Lib.hid hkk
    have hk1 : (kk != 0) = true := by simpa using hk
    have hk2 : (kk == 0) = false := by simpa using hk
    clear hkk
    go_enter Tryd.func6, Tryd.ntmps6
    go_wp2_with (at_builtin; go_loud (refine wpList_append_of (f := byteV) _ rfl (.tmp 10) (.tmp 11) 22 rfl w.heap.size 5 j0 (.int .u8 0) 1 Tryd.underlying22 hj0 jz0 jz1 jz2 rfl _ 0 [] rfl HO0.out _ xa rfl HA0.out (fun y _ => rfl) (by rw [HNA.out]; unfold maxLen; omega) (by rw [HNA.out]; omega) (by simp) ?_; intro own w1 hownA hgrowA; have HB1 := Lib.hid (HB0.out.grown hgrowA (by simp) (fun k hk => (HO0.out.lt k hk).1)); rw [HNA.out, Nat.zero_add, List.nil_append] at hownA; have HO1 := Lib.hid hownA; obtain ⟨oo, oc, rfl, hocap, hog⟩ := own_open hownA; have HOG := Lib.hid hog; clear hownA hgrowA hog))
    have HL1 := Lib.hid (ListAt.of_owns HO1.out)
    have hsz1 := HB1.out.size
    refine (Split_bad _ xa n kk HL1.out HN.out HKK.out hk).mono ?_
    rintro e w2 ⟨E2, rfl, he2, hb2⟩
    have HB2 := Lib.hid (HB1.out.trans (hb2.mono hsz1))
    have HO2 := Lib.hid (owns_kept HO1.out hb2)
    have HE2 := Lib.hid he2
    obtain ⟨u, x, rfl⟩ := he2.some hk
    clear he2 hb2
    go_wp2_with fail
    go_loopw [8] (fun i wr => ∃ k : Nat, k ≤ N ∧ i = .int .i64 k ∧ (∃ zs : List Nat, zs.length = N ∧ Octets zs ∧ wr.ownsRow w.heap.size 5 1 (.slice oo N oc) N (zs.map byteV)) ∧ w2.grownBy wr (Value.slice oo N oc).ownBlock ∧ Below w.heap.size w wr ∧ (N = 0 → w2 = wr)) (fun i _ => N - (intOf i).toNat)
    case atStart => exact ⟨0, Nat.zero_le _, rfl, ⟨xa, HNA.out, HAO.out, HO2.out⟩, World.grownBy.refl _ _, HB2.out, fun _ => rfl⟩
    case round =>
      obtain ⟨k, hk', rfl, ⟨zs, hzl, hzo, hown⟩, hgr, hbel, hz⟩ := hrel
      have hsz := hbel.size
      by_cases hlt : k < N
      · obtain ⟨g, rfl⟩ := HOG.out (by omega)
        have hgb := (hown.lt g rfl).1
        have hx1 : wr.cell? ⟨g, k, none⟩ = some (.int .u8 ((zs.getD k 0 : Nat) : Int)) := by
          rw [hown.cellAt k (by omega)]
          simp [List.getD_eq_getElem?_getD, hzl, hlt, byteV]
        have hf1 : wr.frozen? ⟨g, k, none⟩ = false := hown.frozenAt k
        have hzk := hzo.getD k
        have hfl := flip_u8 (zs.getD k 0) hzk
        have HOW := Lib.hid hown
        have HGR := Lib.hid hgr
        have HBW := Lib.hid hbel
        have HZL := Lib.hid hzl
        have HZO := Lib.hid hzo
        clear hown hgr hbel hzl hzo hzk hz
        generalize zs.getD k 0 = x at *
        go_wp2
        go_roundw
        case rel => exact ⟨k + 1, by omega, by go_num, ⟨zs.set k (255 - x), by simpa using HZL.out, HZO.out.set _ _ (by omega), by rw [List.map_set]; exact (HOW.out.stored k (.int .u8 ((255 - x : Nat) : Int))).1⟩, grown_trans HGR.out (HOW.out.stored k (.int .u8 ((255 - x : Nat) : Int))).2, HBW.out.setCell (p := ⟨g, k, none⟩) hgb _, fun h => by omega⟩
        case measure => simp [intOf]; omega
      · have HE3 : Hid (ErrAns kk nameSplit wr (.iface u x)) := Lib.hid (ErrAns.kept HO2.out hz hgr HE2.out)
        have HB3 := Lib.hid hbel
        have HA3 := Lib.hid (HA.out.mono hbel)
        have HNIL := Lib.hid (MatAt.nil byteV wr)
        clear hown hgr hbel hzo hz
        go_wp2_with fail
        refine (sCheck_any _ [] n HNIL.out HN.out).mono ?_
        rintro e w4 ⟨rfl, rfl⟩
        rw [HKK.out]
        go_wp2_with fail
        refine (tells_ans kk nameSplit _ HE3.out (HG.out.mono HB3.out)).mono ?_
        rintro e w4 ⟨rfl, hb4⟩
        have HB4 := Lib.hid (HB3.out.trans (hb4.mono hsz))
        have hsz4 := HB4.out.size
        have HA4 := Lib.hid (HA3.out.mono hb4)
        have hnb : (binOp .neq 4 (.bool (zeroB xa)) (.bool (zeroB xa))).run Tryd.prog w4 = .ok (.bool false) w4 := neqBoolS _ _ _ (by simp) _
        clear hb4
        go_wp2_with fail
        refine (Zero_any _ xa HA4.out).mono ?_
        rintro e w5 ⟨rfl, rfl⟩
        go_wp2_with fail
        refine (refZero_any _ xa HA4.out).mono ?_
        rintro e w5 ⟨rfl, rfl⟩
        go_wp2_with fail
        refine (awake4 _).mono ?_
        rintro e wz ⟨rfl, hbz⟩
        have HBZ := Lib.hid (HB4.out.trans (hbz.mono HB4.out.size))
        clear hbz
        go_wp2
        go_ret
        exact ⟨rfl, HBZ.out⟩
end Go.Proofs.YtibgddfnkfhlfaaDoor
