/- Package ltrow: right numbers. -/
import Derived.Test.YtedadhoaegjhfaaDoorRight
import Derived.Test.YtedadhoaegjhfaaDoorTrip
import Derived.Test.YtedadhoaegjhfaaDoorLtSort
import Derived.Test.YtedadhoaegjhfaaDoorSyErr
import Derived.Deep.CutBlock
import Derived.Deep.RegionHeld3
namespace Go.Proofs.YtedadhoaegjhfaaDoor
open Go.RowKit Go.Extern.Stop Go.Stop Go.Extern

set_option maxRecDepth 1000000 in
set_option maxHeartbeats 1000000 in
theorem lRight_ok {w : World} (k s h l p : Nat) (H : OfP k s h l p) (hk1 : 1 ≤ k) (hk2 : k ≤ 128) :
    Calls Tryd.prog 21 #[parV k s h l p] w fun e w' => e = .returned .nilIface ∧ Below w.heap.size w w' := by
  obtain ⟨w0, hw0, hb0, hbx⟩ := par_laid w k s h l p
  have HW0 := Lib.hid hw0
  have HB0 := Lib.hid hb0
  have HBX := Lib.hid hbx
  obtain ⟨c0, c1, c2, c3, c4⟩ := hbx.cells
  have HOF := Lib.hid H
  clear hw0 hb0 hbx H
  unfold parV parC
  go_enter Tryd.func21, Tryd.ntmps21
  go_wp2_with fail
  rw [← HW0.out]
  refine (Of_in k hk1 hk2).mono ?_
  rintro e w1 ⟨s', h', l', p', rfl, hof, hb1⟩
  obtain ⟨rfl, rfl, rfl, rfl⟩ := hof.unique HOF.out
  obtain ⟨W, hW, hbW, hby⟩ := par_laid w1 k s' h' l' p'
  have HW := Lib.hid hW
  have HB1 := Lib.hid (hb1.trans (hbW.mono hb1.size))
  have hbx2 := HBX.out.mono HB1.out
  clear c0 c1 c2 c3 c4
  obtain ⟨c0, c1, c2, c3, c4⟩ := hbx2.cells
  obtain ⟨d0, d1, d2, d3, d4⟩ := hby.cells
  clear hb1 hof hW hbW hby hbx2
  unfold parV parC
  go_upto_region 2 with fail
  rw [← HW.out]
  generalize w1.heap.size = g1 at *
  go_wp2_with fail
  refine (Is_nil 1 _).mono ?_
  rintro e w2 ⟨rfl, rfl⟩
  go_wp2
  go_ret
  exact ⟨rfl, HB0.out.trans (HB1.out.mono HB0.out.size)⟩

set_option maxRecDepth 1000000 in
set_option maxHeartbeats 1000000 in
theorem lRight_bad {w : World} (K S H L P : Int) (hb : ¬ Good K S H L P) (hK : I64 K) :
    Calls Tryd.prog 21 #[parV K S H L P] w fun e w' => ∃ E ls, e = .returned E ∧ Chain w' 1 ls E ∧ Below w.heap.size w w' := by
  obtain ⟨w0, hw0, hb0, hbx⟩ := par_laid w K S H L P
  have HW0 := Lib.hid hw0
  have HB0 := Lib.hid hb0
  have HBX := Lib.hid hbx
  obtain ⟨c0, c1, c2, c3, c4⟩ := hbx.cells
  have HBAD := Lib.hid hb
  clear hw0 hb0 hbx hb
  unfold parV parC
  by_cases hr : K < 1 ∨ 128 < K
  · go_enter Tryd.func21, Tryd.ntmps21
    go_upto_region 1 with fail
    rw [← HW0.out]
    go_wp2_with fail
    refine (Of_out K hr).mono ?_
    rintro e w1 ⟨E, rfl, hc, hb1⟩
    have HB1 := Lib.hid (HB0.out.trans (hb1.mono HB0.out.size))
    have hs1 := hb1.size
    obtain ⟨_, ls, hch⟩ := hc.resolve_left (by rintro ⟨h, -⟩; cases h)
    obtain ⟨W, hW, hbW, hby⟩ := par_laid w1 0 0 0 0 0
    have HW := Lib.hid hW
    have HBW := Lib.hid (HB1.out.trans (hbW.mono (Nat.le_trans HB0.out.size hs1)))
    have HCH := Lib.hid (hch.mono hbW)
    obtain ⟨u, x, rfl⟩ := hch.iface
    clear hb1 hc hch c0 c1 c2 c3 c4 hW hbW hby
    unfold parV parC
    go_upto_region 2 with fail
    rw [← HW.out]
    go_wp2_with fail
    refine (Is_num 1 1 _ _ HCH.out).mono ?_
    rintro e w2 ⟨rfl, rfl⟩
    go_wp2
    go_ret
    exact ⟨_, _, rfl, HCH.out, HBW.out⟩
  · obtain ⟨k, rfl⟩ : ∃ k : Nat, K = k := ⟨K.toNat, by omega⟩
    go_enter Tryd.func21, Tryd.ntmps21
    go_upto_region 1 with fail
    rw [← HW0.out]
    go_wp2_with fail
    refine (Of_in k (by omega) (by omega)).mono ?_
    rintro e w1 ⟨s', h', l', p', rfl, hof, hb1⟩
    obtain ⟨W, hW, hbW, hby⟩ := par_laid w1 k s' h' l' p'
    have HW := Lib.hid hW
    have HB1 := Lib.hid (hb1.trans (hbW.mono hb1.size))
    have hbx2 := HBX.out.mono HB1.out
    clear c0 c1 c2 c3 c4
    obtain ⟨c0, c1, c2, c3, c4⟩ := hbx2.cells
    obtain ⟨d0, d1, d2, d3, d4⟩ := hby.cells
    have HNE : Hid (¬ (S = s' ∧ H = h' ∧ L = l' ∧ P = p')) := Lib.hid fun ⟨e1, e2, e3, e4⟩ => HBAD.out ⟨k, s', h', l', p', rfl, e1, e2, e3, e4, by omega, by omega, hof⟩
    clear hb1 hof hW hbW hby hbx2
    unfold parV parC
    go_upto_region 2 with fail
    rw [← HW.out]
    generalize w1.heap.size = g1 at *
    go_wp2_with fail
    refine (Is_nil 1 _).mono ?_
    rintro e w2 ⟨rfl, rfl⟩
    go_wp2
    all_goals first
      | exact (HNE.out ⟨by assumption, by assumption, by assumption, by assumption⟩).elim
      | (go_ret; exact ⟨_, [], rfl, .leaf, HB0.out.trans (HB1.out.mono HB0.out.size)⟩)
end Go.Proofs.YtedadhoaegjhfaaDoor
