/- Package ltrow: walk. -/
import Derived.Test.YtedadhoaegjhfaaDoorLtSort
import Derived.Test.YtedadhoaegjhfaaDoorTrip
import Derived.Test.YtedadhoaegjhfaaDoorLists
import Derived.Deep.LoopGhost
import Derived.Deep.CutBlock
namespace Go.Proofs.YtedadhoaegjhfaaDoor
open Go.RowKit Go.Extern.Stop Go.Stop Go.Extern

theorem take_set {vs : List Int} {k : Nat} {L : List Int} {x : Int} (h : vs.take k = L) (hk : k < vs.length) : (vs.set k x).take (k + 1) = L ++ [x] := by
  subst h
  rw [List.take_set, List.take_succ_eq_append_getElem hk, List.set_append]
  simp [Nat.le_of_lt hk]

set_option maxRecDepth 1000000 in
set_option maxHeartbeats 4000000 in
theorem walk_ok {w : World} (k s h l p d st a : Nat) (hp : IsP p) (hlp : l ≤ p) (hp2 : p ≤ 1000) (hs1 : 1 ≤ st) (hs2 : st < p) (ha : a < p) (hd : d ≤ l) :
    Calls Tryd.prog 31 #[parV k s h l p, tripV d st a] w fun e w' => ∃ g W, e = .returned (.slice (some ⟨g, 0, none⟩) d d) ∧ IsTr l p st a d W ∧ w'.ownsRow w.heap.size 3 1 (.slice (some ⟨g, 0, none⟩) d d) d ((W.map Int.ofNat).map intV) ∧ Below w.heap.size w w' := by
  obtain ⟨i0, hi, hz0, hz1, hz2⟩ := info_parts info_int
  obtain ⟨w0, hw0, hb0, hbx⟩ := par_laid w k s h l p
  obtain ⟨w1, hw1, hb1, hbt⟩ := trip_laid w0 d st a
  have hs0 : w0.heap.size = w.heap.size + 1 := by rw [hw0]; simp
  have hs3 : w1.heap.size = w.heap.size + 2 := by rw [hw1]; simp; omega
  have HW0 := Lib.hid hw0
  have HW1 := Lib.hid hw1
  have HB1 := Lib.hid (hb0.trans (hb1.mono hb0.size))
  rw [hs0] at hbt
  have HBX := Lib.hid (hbx.mono hb1)
  have HBT := Lib.hid hbt
  have HS3 := Lib.hid hs3
  obtain ⟨c0, c1, c2, c3, c4⟩ := HBX.out.cells
  obtain ⟨t0, t1, t2⟩ := HBT.out.cells
  have hsz1 := HB1.out.size
  have hdI : (d : Int) ≤ 1000 := by omega
  have HP := Lib.hid hp
  have hp1 : 2 ≤ p := hp.1
  have hpz : ((p : Int) == 0) = false := by simp; omega
  clear hw0 hw1 hb0 hb1 hbx hbt hs0 hs3 hp
  unfold parV parC tripV tripC
  go_enter Tryd.func31, Tryd.ntmps31
  go_upto_region 1 with fail
  rw [← HW0.out, ← HW1.out]
  go_wp2_with fail
  go_step3
  go_upto_region 2 with (at_make; refine wpList_make_full _ rfl _ _ 35 rfl w1.heap.size 3 i0 (.int .i64 0) 1 Tryd.underlying35 hi hz0 hz1 .i64 .i64 _ _ d rfl rfl rfl rfl (by rw [hz2]; omega) (by unfold maxLen; omega) (Nat.le_refl _) ?_; intro w2 hown0 hgrow0; have hb2 := Lib.hid ((Below.refl w1.heap.size w1).grown hgrow0 (Nat.le_refl _) (fun k hk => by cases hk)); have ho2 := Lib.hid hown0; clear hown0 hgrow0)
  have HB2 := Lib.hid (HB1.out.trans (hb2.out.mono HB1.out.size))
  have HBX2 := Lib.hid (HBX.out.mono hb2.out)
  have HBT2 := Lib.hid (HBT.out.mono hb2.out)
  clear c0 c1 c2 c3 c4 t0 t1 t2
  obtain ⟨c0, c1, c2, c3, c4⟩ := HBX2.out.cells
  obtain ⟨t0, t1, t2⟩ := HBT2.out.cells
  have HGG : Hid (w.heap.size ≠ w1.heap.size ∧ w.heap.size + 1 ≠ w1.heap.size ∧ w.heap.size ≤ w1.heap.size) := Lib.hid (by have := HS3.out; omega)
  clear hsz1
  generalize w1.heap.size = g at *
  go_wp2_with fail
  go_step3
  go_wp2_with fail
  go_loopg [6, 16] d (fun gk nx i wr => ∃ k' j : Nat, k' + gk = d ∧ i = .int .i64 (k' : Int) ∧ nx = .int .i64 (seqA p st a j : Int) ∧ (trW l p st a j).length = k' ∧ j ≤ p ∧ (∃ vs : List Int, vs.length = d ∧ vs.take k' = (trW l p st a j).map Int.ofNat ∧ wr.ownsRow w.heap.size 3 1 (.slice (some ⟨g, 0, none⟩) d d) d (vs.map intV)) ∧ ParBox wr w.heap.size k s h l p ∧ TripBox wr (w.heap.size + 1) d st a ∧ Below w.heap.size w wr)
  case atStart => exact ⟨0, 0, by omega, rfl, by rw [seqA_zero ha], rfl, by omega, ⟨List.replicate d 0, by simp, rfl, by rw [List.map_replicate]; have := ho2.out; rw [Nat.mul_one] at this; exact ownsRow_base (toList_madeCells_one (.int .i64 0) d ▸ this) HGG.out.2.2⟩, HBX2.out, HBT2.out, HB2.out⟩
  case round =>
    clear c0 c1 c2 c3 c4 t0 t1 t2 HBX2 HBT2 HB2 HBX HBT HB1 ho2 hb2 HW0 HW1 HS3
    obtain ⟨k', j, hkd, rfl, rfl, hlen, hj, ⟨vs, hvl, hvt, hown⟩, hx, ht, hbel⟩ := hrel
    have HX := Lib.hid hx
    have HTB := Lib.hid ht
    have HB := Lib.hid hbel
    have HO := Lib.hid hown
    have HVL := Lib.hid hvl
    have HVT := Lib.hid hvt
    have HLEN := Lib.hid hlen
    have HJ := Lib.hid hj
    obtain ⟨c0, c1, c2, c3, c4⟩ := hx.cells
    obtain ⟨t0, t1, t2⟩ := ht.cells
    obtain ⟨go, rfl⟩ : ∃ go, go = gk := ⟨gk, rfl⟩
    cases go with
    | zero =>
      obtain rfl : k' = d := by omega
      have HW : Hid (vs.take vs.length = (trW l p st a j).map Int.ofNat) := Lib.hid (by rw [hvl]; exact hvt)
      clear hkd hlen hj hvl hvt hown hx ht hbel
      go_wp2_with fail
      try rw [Exit.noGoto_ret]
      go_ret
      exact ⟨g, trW l p st a j, rfl, ⟨HLEN.out, j, HJ.out, rfl⟩, by have h1 := HO.out; have e := HW.out; rw [List.take_length] at e; rw [e] at h1; exact h1, HB.out⟩
    | succ go =>
      obtain ⟨ie, hi1, hi2, hi3, hi4⟩ := trW_more (a := a) HP.out hs1 hs2 hlp (show (trW l p st a j).length < l by omega)
      have HI3 := Lib.hid hi3
      have HI4 := Lib.hid hi4
      have hkd1 : k' < d := by omega
      have HGO : Hid (k' + 1 + go = d) := Lib.hid (by omega)
      have hy3 : wr.cell? ⟨g, k', none⟩ = some (.int .i64 (vs.getD k' 0)) := by
        rw [hown.cellAt k' (by omega)]
        simp [List.getD_eq_getElem?_getD, hvl, hkd1, intV]
      have hy4 : wr.frozen? ⟨g, k', none⟩ = false := hown.frozenAt k'
      generalize vs.getD k' 0 = z at hy3
      clear hkd hlen hj hvl hvt hown hx ht hbel hi3 hi4
      obtain ⟨wo, hwo⟩ : ∃ wo, wo = wr := ⟨_, rfl⟩
      subst hwo
      go_wp2_with fail
      go_loopg [6] p (fun gd nx wq => (∃ jj : Nat, nx = .int .i64 (seqA p st a jj : Int) ∧ j ≤ jj ∧ jj ≤ ie ∧ trW l p st a jj = trW l p st a j ∧ ie - jj < gd) ∧ wo = wq)
      case atStart => exact ⟨⟨j, rfl, by omega, hi1, rfl, by omega⟩, rfl⟩
      case round =>
        obtain ⟨⟨jj, rfl, h1, h2, h3, h4⟩, rfl⟩ := hrel
        obtain ⟨gd, rfl⟩ : ∃ gd, gk = gd + 1 := ⟨gk - 1, by omega⟩
        have hsu := seqA_succ p st a jj
        obtain ⟨x, hx⟩ : ∃ x, seqA p st a jj = x := ⟨_, rfl⟩
        obtain ⟨y, hy⟩ : ∃ y, seqA p st a (jj + 1) = y := ⟨_, rfl⟩
        have hxp : x < p := hx ▸ seqA_lt (by omega)
        rw [hx, hy] at hsu
        rw [hx]
        have hmod : ((x : Int) + (st : Int)) % (p : Int) = (y : Int) := by rw [hsu]; push_cast; rfl
        have HXX := Lib.hid hx
        have HYY := Lib.hid hy
        have H3 := Lib.hid h3
        clear hx hy hsu h3
        by_cases hlt : x < l
        · clear h4
          go_wp2_with fail
          go_roundg go
          case measure => omega
          case rel =>
            have hin : trW l p st a (jj + 1) = trW l p st a j ++ [x] := by rw [trW_in (by rw [HXX.out]; exact hlt), HXX.out, H3.out]
            exact ⟨k' + 1, jj + 1, HGO.out, by go_num, by rw [HYY.out, hmod], by rw [hin, List.length_append, HLEN.out]; rfl, by omega,
              ⟨vs.set k' (x : Int), by rw [List.length_set]; exact HVL.out, by rw [take_set HVT.out (by rw [HVL.out]; omega), hin, List.map_append]; rfl, by rw [List.map_set]; exact (HO.out.stored k' (.int .i64 (x : Int))).1⟩,
              HX.out.set HGG.out.1, HTB.out.set HGG.out.2.1, HB.out.setCell (p := ⟨g, k', none⟩) HGG.out.2.2 _⟩
        · go_wp2_with fail
          go_roundg gd
          case measure => omega
          case rel =>
            have hne : jj ≠ ie := by
              rintro rfl
              have := HI3.out
              rw [HXX.out] at this
              exact hlt this
            exact ⟨⟨jj + 1, by rw [HYY.out, hmod], by omega, by omega, by rw [trW_out (by rw [HXX.out]; exact hlt), H3.out], by omega⟩, rfl⟩
end Go.Proofs.YtedadhoaegjhfaaDoor
