import Derived.Test.YtkhdjjcflbdegaaGreatDoorG07
import Derived.Test.YtkhdjjcflbdegaaGreatDoorG18
import Derived.Test.YtkhdjjcflbdegaaGreatDoorG08
import Derived.Deep.LoopGhost
import Derived.Deep.CutBlock
import Derived.Shelf.Sort.Plain
import Derived.Sort.OwnSortedInts
import Derived.Test.YtkhdjjcflbdegaaGreatDoorG20
import Derived.Test.YtkhdjjcflbdegaaGreatDoorG13

section
/- Package ltrow: walk. -/
namespace Go.Proofs.YtkhdjjcflbdegaaGreatDoor
open Go.RowKit Go.Extern.Stop Go.Stop Go.Extern

theorem take_set {vs : List Int} {k : Nat} {L : List Int} {x : Int} (h : vs.take k = L) (hk : k < vs.length) : (vs.set k x).take (k + 1) = L ++ [x] := by
  subst h
  rw [List.take_set, List.take_succ_eq_append_getElem hk, List.set_append]
  simp [Nat.le_of_lt hk]

set_option maxRecDepth 1000000 in
set_option maxHeartbeats 4000000 in
theorem walk_ok {w : World} (k s h l p d st a : Nat) (hp : IsP p) (hlp : l ≤ p) (hp2 : p ≤ 1000) (hs1 : 1 ≤ st) (hs2 : st < p) (ha : a < p) (hd : d ≤ l) :
    Calls Tryz.prog 118 #[parV k s h l p, tripV d st a] w fun e w' => ∃ g W, e = .returned (.slice (some ⟨g, 0, none⟩) d d) ∧ IsTr l p st a d W ∧ w'.ownsRow w.heap.size 3 1 (.slice (some ⟨g, 0, none⟩) d d) d ((W.map Int.ofNat).map intV) ∧ Below w.heap.size w w' := by
  obtain ⟨i0, hi, hz0, hz1, hz2⟩ := info_parts info_int
  obtain ⟨w0, hw0, hb0, hbx⟩ := par_laid w k s h l p
  obtain ⟨w1, hw1, hb1, hbt⟩ := trip_laid w0 d st a
  have hs0 : w0.heap.size = w.heap.size + 1 := by rw [hw0]; simp
  have hs3 : w1.heap.size = w.heap.size + 2 := by rw [hw1]; simp; omega
  have HW0 := Lib.hid hw0
  have HW1 := Lib.hid hw1
  have HB1 := Lib.hid (hb0.trans (hb1.mono hb0.size))
  rw [hs0] at hbt
  have HBX := Lib.hid (hbx.mono hb1)
  have HBT := Lib.hid hbt
  have HS3 := Lib.hid hs3
  obtain ⟨c0, c1, c2, c3, c4⟩ := HBX.out.cells
  obtain ⟨t0, t1, t2⟩ := HBT.out.cells
  have hsz1 := HB1.out.size
  have hdI : (d : Int) ≤ 1000 := by omega
  have HP := Lib.hid hp
  have hp1 : 2 ≤ p := hp.1
  have hpz : ((p : Int) == 0) = false := by simp; omega
  clear hw0 hw1 hb0 hb1 hbx hbt hs0 hs3 hp
  unfold parV parC tripV tripC
  go_enter Tryz.func118, Tryz.ntmps118
  go_upto_region 1 with fail
  rw [← HW0.out, ← HW1.out]
  go_wp2_with fail
  go_step3
  go_upto_region 2 with (at_make; refine wpList_make_full _ rfl _ _ 55 rfl w1.heap.size 3 i0 (.int .i64 0) 1 Tryz.underlying55 hi hz0 hz1 .i64 .i64 _ _ d rfl rfl rfl rfl (by rw [hz2]; omega) (by unfold maxLen; omega) (Nat.le_refl _) ?_; intro w2 hown0 hgrow0; have hb2 := Lib.hid ((Below.refl w1.heap.size w1).grown hgrow0 (Nat.le_refl _) (fun k hk => by cases hk)); have ho2 := Lib.hid hown0; clear hown0 hgrow0)
  have HB2 := Lib.hid (HB1.out.trans (hb2.out.mono HB1.out.size))
  have HBX2 := Lib.hid (HBX.out.mono hb2.out)
  have HBT2 := Lib.hid (HBT.out.mono hb2.out)
  clear c0 c1 c2 c3 c4 t0 t1 t2
  obtain ⟨c0, c1, c2, c3, c4⟩ := HBX2.out.cells
  obtain ⟨t0, t1, t2⟩ := HBT2.out.cells
  have HGG : Hid (w.heap.size ≠ w1.heap.size ∧ w.heap.size + 1 ≠ w1.heap.size ∧ w.heap.size ≤ w1.heap.size) := Lib.hid (by have := HS3.out; omega)
  clear hsz1
  generalize w1.heap.size = g at *
  go_wp2_with fail
  go_step3
  go_wp2_with fail
  go_loopg [6, 16] d (fun gk nx i wr => ∃ k' j : Nat, k' + gk = d ∧ i = .int .i64 (k' : Int) ∧ nx = .int .i64 (seqA p st a j : Int) ∧ (trW l p st a j).length = k' ∧ j ≤ p ∧ (∃ vs : List Int, vs.length = d ∧ vs.take k' = (trW l p st a j).map Int.ofNat ∧ wr.ownsRow w.heap.size 3 1 (.slice (some ⟨g, 0, none⟩) d d) d (vs.map intV)) ∧ ParBox wr w.heap.size k s h l p ∧ TripBox wr (w.heap.size + 1) d st a ∧ Below w.heap.size w wr)
  case atStart => exact ⟨0, 0, by omega, rfl, by rw [seqA_zero ha], rfl, by omega, ⟨List.replicate d 0, by simp, rfl, by rw [List.map_replicate]; have := ho2.out; rw [Nat.mul_one] at this; exact ownsRow_base (toList_madeCells_one (.int .i64 0) d ▸ this) HGG.out.2.2⟩, HBX2.out, HBT2.out, HB2.out⟩
  case round =>
    clear c0 c1 c2 c3 c4 t0 t1 t2 HBX2 HBT2 HB2 HBX HBT HB1 ho2 hb2 HW0 HW1 HS3
    obtain ⟨k', j, hkd, rfl, rfl, hlen, hj, ⟨vs, hvl, hvt, hown⟩, hx, ht, hbel⟩ := hrel
    have HX := Lib.hid hx
    have HTB := Lib.hid ht
    have HB := Lib.hid hbel
    have HO := Lib.hid hown
    have HVL := Lib.hid hvl
    have HVT := Lib.hid hvt
    have HLEN := Lib.hid hlen
    have HJ := Lib.hid hj
    obtain ⟨c0, c1, c2, c3, c4⟩ := hx.cells
    obtain ⟨t0, t1, t2⟩ := ht.cells
    obtain ⟨go, rfl⟩ : ∃ go, go = gk := ⟨gk, rfl⟩
    cases go with
    | zero =>
      obtain rfl : k' = d := by omega
      have HW : Hid (vs.take vs.length = (trW l p st a j).map Int.ofNat) := Lib.hid (by rw [hvl]; exact hvt)
      clear hkd hlen hj hvl hvt hown hx ht hbel
      go_wp2_with fail
      try rw [Exit.noGoto_ret]
      go_ret
      exact ⟨g, trW l p st a j, rfl, ⟨HLEN.out, j, HJ.out, rfl⟩, by have h1 := HO.out; have e := HW.out; rw [List.take_length] at e; rw [e] at h1; exact h1, HB.out⟩
    | succ go =>
      obtain ⟨ie, hi1, hi2, hi3, hi4⟩ := trW_more (a := a) HP.out hs1 hs2 hlp (show (trW l p st a j).length < l by omega)
      have HI3 := Lib.hid hi3
      have HI4 := Lib.hid hi4
      have hkd1 : k' < d := by omega
      have HGO : Hid (k' + 1 + go = d) := Lib.hid (by omega)
      have hy3 : wr.cell? ⟨g, k', none⟩ = some (.int .i64 (vs.getD k' 0)) := by
        rw [hown.cellAt k' (by omega)]
        simp [List.getD_eq_getElem?_getD, hvl, hkd1, intV]
      have hy4 : wr.frozen? ⟨g, k', none⟩ = false := hown.frozenAt k'
      generalize vs.getD k' 0 = z at hy3
      clear hkd hlen hj hvl hvt hown hx ht hbel hi3 hi4
      obtain ⟨wo, hwo⟩ : ∃ wo, wo = wr := ⟨_, rfl⟩
      subst hwo
      go_wp2_with fail
      go_loopg [6] p (fun gd nx wq => (∃ jj : Nat, nx = .int .i64 (seqA p st a jj : Int) ∧ j ≤ jj ∧ jj ≤ ie ∧ trW l p st a jj = trW l p st a j ∧ ie - jj < gd) ∧ wo = wq)
      case atStart => exact ⟨⟨j, rfl, by omega, hi1, rfl, by omega⟩, rfl⟩
      case round =>
        obtain ⟨⟨jj, rfl, h1, h2, h3, h4⟩, rfl⟩ := hrel
        obtain ⟨gd, rfl⟩ : ∃ gd, gk = gd + 1 := ⟨gk - 1, by omega⟩
        have hsu := seqA_succ p st a jj
        obtain ⟨x, hx⟩ : ∃ x, seqA p st a jj = x := ⟨_, rfl⟩
        obtain ⟨y, hy⟩ : ∃ y, seqA p st a (jj + 1) = y := ⟨_, rfl⟩
        have hxp : x < p := hx ▸ seqA_lt (by omega)
        rw [hx, hy] at hsu
        rw [hx]
        have hmod : ((x : Int) + (st : Int)) % (p : Int) = (y : Int) := by rw [hsu]; push_cast; rfl
        have HXX := Lib.hid hx
        have HYY := Lib.hid hy
        have H3 := Lib.hid h3
        clear hx hy hsu h3
        by_cases hlt : x < l
        · clear h4
          go_wp2_with fail
          go_roundg go
          case measure => omega
          case rel =>
            have hin : trW l p st a (jj + 1) = trW l p st a j ++ [x] := by rw [trW_in (by rw [HXX.out]; exact hlt), HXX.out, H3.out]
            exact ⟨k' + 1, jj + 1, HGO.out, by go_num, by rw [HYY.out, hmod], by rw [hin, List.length_append, HLEN.out]; rfl, by omega,
              ⟨vs.set k' (x : Int), by rw [List.length_set]; exact HVL.out, by rw [take_set HVT.out (by rw [HVL.out]; omega), hin, List.map_append]; rfl, by rw [List.map_set]; exact (HO.out.stored k' (.int .i64 (x : Int))).1⟩,
              HX.out.set HGG.out.1, HTB.out.set HGG.out.2.1, HB.out.setCell (p := ⟨g, k', none⟩) HGG.out.2.2 _⟩
        · go_wp2_with fail
          go_roundg gd
          case measure => omega
          case rel =>
            have hne : jj ≠ ie := by
              rintro rfl
              have := HI3.out
              rw [HXX.out] at this
              exact hlt this
            exact ⟨⟨jj + 1, by rw [HYY.out, hmod], by omega, by omega, by rw [trW_out (by rw [HXX.out]; exact hlt), H3.out], by omega⟩, rfl⟩
end Go.Proofs.YtkhdjjcflbdegaaGreatDoor
end

section
/- slices.Sort at lists of numbers, by the shelf's contract (laid by name). -/
namespace Go.Proofs.YtkhdjjcflbdegaaGreatDoor
open Go.Shelf Go.Sort

def Tryz.lays189_ren : Go.Shelf.Ren := ⟨fun | 125 => 134 | 128 => 149 | 129 => 150 | 189 => 119 | 215 => 160 | 216 => 146 | 257 => 133 | 294 => 140 | 295 => 141 | 296 => 142 | 297 => 143 | 298 => 144 | 299 => 145 | 300 => 147 | 301 => 148 | 328 => 155 | 329 => 156 | 330 => 157 | 331 => 158 | 332 => 159 | 343 => 163 | n => n, fun | 0 => 0 | 3 => 3 | 4 => 4 | 5 => 5 | 9 => 9 | 28 => 55 | 46 => 60 | 51 => 194 | 53 => 163 | 131 => 217 | 182 => 212 | 183 => 213 | 218 => 227 | 222 => 231 | 228 => 236 | 229 => 237 | n => n, fun | n => n⟩
theorem Tryz.lays189 : Go.Proofs.Lays.n189 Tryz.prog Tryz.lays189_ren := {
  mixed := by kernel_rfl
  f125 := Tryz.func134.trans (congrArg some (by kernel_rfl))
  f128 := Tryz.func149.trans (congrArg some (by kernel_rfl))
  f129 := Tryz.func150.trans (congrArg some (by kernel_rfl))
  f189 := Tryz.func119.trans (congrArg some (by kernel_rfl))
  f215 := Tryz.func160.trans (congrArg some (by kernel_rfl))
  f216 := Tryz.func146.trans (congrArg some (by kernel_rfl))
  f257 := Tryz.func133.trans (congrArg some (by kernel_rfl))
  f294 := Tryz.func140.trans (congrArg some (by kernel_rfl))
  f295 := Tryz.func141.trans (congrArg some (by kernel_rfl))
  f296 := Tryz.func142.trans (congrArg some (by kernel_rfl))
  f297 := Tryz.func143.trans (congrArg some (by kernel_rfl))
  f298 := Tryz.func144.trans (congrArg some (by kernel_rfl))
  f299 := Tryz.func145.trans (congrArg some (by kernel_rfl))
  f300 := Tryz.func147.trans (congrArg some (by kernel_rfl))
  f301 := Tryz.func148.trans (congrArg some (by kernel_rfl))
  f328 := Tryz.func155.trans (congrArg some (by kernel_rfl))
  f329 := Tryz.func156.trans (congrArg some (by kernel_rfl))
  f330 := Tryz.func157.trans (congrArg some (by kernel_rfl))
  f331 := Tryz.func158.trans (congrArg some (by kernel_rfl))
  f332 := Tryz.func159.trans (congrArg some (by kernel_rfl))
  f343 := Tryz.func163.trans (congrArg some (by kernel_rfl))
  t0 := Tryz.underlying0
  a0 := Tryz.isAgg0
  z0 := Tryz.sizeOf0
  v0 := Tryz.zeroValue0
  t3 := Tryz.underlying3
  a3 := Tryz.isAgg3
  z3 := Tryz.sizeOf3
  v3 := Tryz.zeroValue3
  t4 := Tryz.underlying4
  a4 := Tryz.isAgg4
  z4 := Tryz.sizeOf4
  v4 := Tryz.zeroValue4
  t5 := Tryz.underlying5
  a5 := Tryz.isAgg5
  z5 := Tryz.sizeOf5
  v5 := Tryz.zeroValue5
  t9 := Tryz.underlying9
  a9 := Tryz.isAgg9
  z9 := Tryz.sizeOf9
  v9 := Tryz.zeroValue9
  t28 := Tryz.underlying55
  a28 := Tryz.isAgg55
  z28 := Tryz.sizeOf55
  v28 := Tryz.zeroValue55
  t46 := Tryz.underlying60
  a46 := Tryz.isAgg60
  z46 := Tryz.sizeOf60
  v46 := Tryz.zeroValue60
  t51 := Tryz.underlying194
  a51 := Tryz.isAgg194
  z51 := Tryz.sizeOf194
  v51 := Tryz.zeroValue194
  t53 := Tryz.underlying163
  a53 := Tryz.isAgg163
  z53 := Tryz.sizeOf163
  v53 := Tryz.zeroValue163
  t131 := Tryz.underlying217
  a131 := Tryz.isAgg217
  z131 := Tryz.sizeOf217
  v131 := Tryz.zeroValue217
  t182 := Tryz.underlying212
  a182 := Tryz.isAgg212
  z182 := Tryz.sizeOf212
  v182 := Tryz.zeroValue212
  t183 := Tryz.underlying213
  a183 := Tryz.isAgg213
  z183 := Tryz.sizeOf213
  v183 := Tryz.zeroValue213
  t218 := Tryz.underlying227
  a218 := Tryz.isAgg227
  z218 := Tryz.sizeOf227
  v218 := Tryz.zeroValue227
  t222 := Tryz.underlying231
  a222 := Tryz.isAgg231
  z222 := Tryz.sizeOf231
  v222 := Tryz.zeroValue231
  t228 := Tryz.underlying236
  a228 := Tryz.isAgg236
  z228 := Tryz.sizeOf236
  v228 := Tryz.zeroValue236
  t229 := Tryz.underlying237
  a229 := Tryz.isAgg237
  z229 := Tryz.sizeOf237
  v229 := Tryz.zeroValue237 }
/-- slices.Sort, off its contract: a row of the call's own, of which the capacity is the length. -/
theorem Tryz.slices_Sort_int (blk off cap : Nat) (zs : List Int) (w : World) (hH : Holds (Value.int .i64) w blk off zs.toArray) (hblk : blk < w.heap.size) (hsz : zs.length < 4611686018427387904) :
    Calls Tryz.prog 119 #[.slice (some ⟨blk, off, none⟩) zs.length cap] w fun e w' => e = .returned (.tuple #[]) ∧ ∃ n os, w' = grow (putRow (Value.int .i64) (Sort.ahead w n) blk off (zs.mergeSort fun x y => decide (x ≤ y)).toArray) os :=
  Any.slices_Sort_int Tryz.lays189 blk off cap zs w hH hblk hsz
end Go.Proofs.YtkhdjjcflbdegaaGreatDoor
end

section
/- Package ltrow: Walk and Row where they answer. -/
namespace Go.Proofs.YtkhdjjcflbdegaaGreatDoor
open Go.RowKit Go.Extern.Stop Go.Stop Go.Extern

theorem sort_own {w : World} {base g d : Nat} {L : List Int} (h : w.ownsRow base 3 1 (.slice (some ⟨g, 0, none⟩) d d) d (L.map intV)) (hd : d < 4611686018427387904) :
    Calls Tryz.prog 119 #[.slice (some ⟨g, 0, none⟩) d d] w fun e w' => e = .returned (.tuple #[]) ∧ w'.ownsRow base 3 1 (.slice (some ⟨g, 0, none⟩) d d) d ((L.mergeSort fun x y => decide (x ≤ y)).map intV) ∧ w.grownBy w' (some g) := by
  obtain ⟨hb, hl, hh⟩ := own_full h
  rw [List.length_map] at hl
  subst hl
  have hm : L.length ≤ maxLen := by unfold maxLen; omega
  refine (Tryz.slices_Sort_int g 0 L.length L w (holds_of_blockI hh (by rw [List.take_of_length_le (by simp)]; rfl)) (Array.getElem?_eq_some_iff.1 hh).1 hd).mono ?_
  rintro e w' ⟨rfl, n, os, rfl⟩
  exact ⟨rfl, ownsRow_sortedI (by simp) hb hh (Nat.le_refl _) hm (by simp), grownBy_sortedI _⟩

set_option maxRecDepth 1000000 in
set_option maxHeartbeats 4000000 in
theorem Row_ok {w : World} (k s h l p seed esi : Nat) (H : OfP k s h l p) (hk1 : 1 ≤ k) (hk2 : k ≤ 128) (hs : seed < 65536) (he : esi < 65536) (hT : DgTab w) :
    Calls Tryz.prog 82 #[parV k s h l p, .int .i64 (seed : Int), .int .i64 (esi : Int)] w fun e w' => ∃ v W, e = .returned (.tuple #[v, .nilIface]) ∧ IsTr l p (trS p (mixN esi seed)) (trA p (mixN esi seed)) (trD l (mixN esi seed)) W ∧ ListAt intV w' v ((risN l W).map Int.ofNat) ∧ Below w.heap.size w w' := by
  obtain ⟨b1, b2, b3, b4, b5, b6, b7⟩ := H.bounds hk1 hk2
  have hl1 : 1 ≤ l := by have := H.2.2.1; omega
  have hp2 : 2 ≤ p := H.2.2.2.two
  have hpp : IsP p := H.2.2.2.1
  obtain ⟨w0, hw0, hb0, hbx⟩ := par_laid w k s h l p
  have HW0 := Lib.hid hw0
  have HB0 := Lib.hid hb0
  have HBX := Lib.hid hbx
  have HT := Lib.hid hT
  obtain ⟨c0, c1, c2, c3, c4⟩ := hbx.cells
  obtain ⟨D, hD⟩ : ∃ D, trD l (mixN esi seed) = D := ⟨_, rfl⟩
  obtain ⟨S, hS⟩ : ∃ S, trS p (mixN esi seed) = S := ⟨_, rfl⟩
  obtain ⟨A, hA⟩ : ∃ A, trA p (mixN esi seed) = A := ⟨_, rfl⟩
  have bD := trD_bd (y := mixN esi seed) hl1
  have bS := trS_bd (y := mixN esi seed) hp2
  have bA := trA_bd (y := mixN esi seed) hp2
  rw [hD] at bD
  rw [hS] at bS
  rw [hA] at bA
  have HTR : Hid (∀ V, DgTab V → Calls Tryz.prog 98 #[.agg #[.int .i64 (k : Int), .int .i64 (s : Int), .int .i64 (h : Int), .int .i64 (l : Int), .int .i64 (p : Int)], .int .i64 (seed : Int), .int .i64 (esi : Int)] V fun e w' => e = .returned (.tuple #[.agg #[.int .i64 (D : Int), .int .i64 (S : Int), .int .i64 (A : Int)], .nilIface]) ∧ Below V.heap.size V w') := Lib.hid fun V hV => by
    have := Trip_ok (w := V) k s h l p seed esi H hk1 hk2 hs he hV
    rwa [hD, hS, hA] at this
  have HWK : Hid (∀ V, Calls Tryz.prog 118 #[.agg #[.int .i64 (k : Int), .int .i64 (s : Int), .int .i64 (h : Int), .int .i64 (l : Int), .int .i64 (p : Int)], .agg #[.int .i64 (D : Int), .int .i64 (S : Int), .int .i64 (A : Int)]] V fun e w' => ∃ g W, e = .returned (.slice (some ⟨g, 0, none⟩) D D) ∧ IsTr l p S A D W ∧ w'.ownsRow V.heap.size 3 1 (.slice (some ⟨g, 0, none⟩) D D) D ((W.map Int.ofNat).map intV) ∧ Below V.heap.size V w') := Lib.hid fun V => walk_ok k s h l p D S A hpp b6 (by omega) bS.1 bS.2 bA bD.2
  have HDE : Hid (D < 4611686018427387904 ∧ IsP p ∧ 1 ≤ S ∧ S < p) := Lib.hid ⟨by omega, hpp, bS.1, bS.2⟩
  rw [hD, hS, hA]
  clear hw0 hb0 hbx hT H hD hS hA b1 b2 b3 b4 b5 b6 b7 hl1 hp2 hpp bD bS bA
  unfold parV parC
  go_enter Tryz.func82, Tryz.ntmps82
  go_upto_region 1 with fail
  rw [← HW0.out]
  go_wp2_with fail
  refine (HTR.out _ (PairsAt.mono HT.out HB0.out)).mono ?_
  rintro e w1 ⟨rfl, hb1⟩
  obtain ⟨w2, hw2, hb2, hbt⟩ := trip_laid w1 D S A
  have HW2 := Lib.hid hw2
  have HBB := Lib.hid (hb1.trans (hb2.mono hb1.size))
  have HB2 := Lib.hid (HB0.out.trans (HBB.out.mono HB0.out.size))
  clear c0 c1 c2 c3 c4
  obtain ⟨c0, c1, c2, c3, c4⟩ := (HBX.out.mono HBB.out).cells
  obtain ⟨t0, t1, t2⟩ := hbt.cells
  clear hw2 hb1 hb2 hbt
  go_upto_region 2 with fail
  rw [← HW2.out]
  go_wp2_with fail
  refine (HWK.out _).mono ?_
  rintro e w3 ⟨g, W, rfl, hw, hown, hb3⟩
  have HW := Lib.hid hw
  have HOWN := Lib.hid hown
  have HB3 := Lib.hid (HB2.out.trans (hb3.mono HB2.out.size))
  have HS2 := Lib.hid (Nat.le_trans HB2.out.size hb3.size)
  have HG : Hid (w.heap.size ≤ g) := Lib.hid (Nat.le_trans HB2.out.size (own_full hown).1)
  clear hw hown hb3 c0 c1 c2 c3 c4 t0 t1 t2
  go_wp2_with fail
  refine (sort_own HOWN.out HDE.out.1).mono ?_
  rintro e w4 ⟨rfl, hown, hgr⟩
  have HO4 := Lib.hid hown
  have HB4 := Lib.hid (HB3.out.grown hgr HB3.out.size (fun k hk => by cases hk; exact HG.out))
  clear hown hgr
  go_wp2
  go_ret2
  exact ⟨_, W, rfl, HW.out, by have h1 := ListAt.of_owns (f := intV) HO4.out; rw [sort_ris (HW.out.nodup HDE.out.2.1 HDE.out.2.2.1 HDE.out.2.2.2) (fun x hx => HW.out.lt hx)] at h1; exact h1, HB4.out⟩
end Go.Proofs.YtkhdjjcflbdegaaGreatDoor
end
