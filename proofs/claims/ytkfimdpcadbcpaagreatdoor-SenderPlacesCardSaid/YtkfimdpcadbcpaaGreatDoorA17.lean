import Derived.Deep.CutBlock
import Derived.Test.YtkfimdpcadbcpaaGreatDoorA16
import Derived.Deep.LoopGhost
import Derived.Test.YtkfimdpcadbcpaaGreatDoorA06
import Derived.Test.YtkfimdpcadbcpaaGreatDoorA13
import Derived.Test.YtkfimdpcadbcpaaGreatDoorA01
import Derived.Shelf.Sort.Plain
import Derived.Sort.OwnSortedInts
import Derived.Test.YtkfimdpcadbcpaaGreatDoorA14
import Derived.Test.YtkfimdpcadbcpaaGreatDoorA02
import Derived.Test.YtkfimdpcadbcpaaGreatDoorA10
import Derived.Maps.AppendAt
import Derived.OwnWalk
import Derived.WalkSpells
import Derived.WalkLawsBesides
import Derived.Deep.QuietTactic
import Derived.Deep.RegionHeld3
import Derived.Deep.AppendLies
import Derived.Deep.RegionLaw
import Derived.Test.YtkfimdpcadbcpaaGreatDoorA07
import Derived.Test.YtkfimdpcadbcpaaGreatDoorA09
import Derived.Test.YtkfimdpcadbcpaaGreatDoorA11
import Derived.BigQuiet
import Derived.WalkSmall
import Derived.Laws.ShiftsVar
import Derived.Test.YtkfimdpcadbcpaaGreatDoorA03
set_option linter.unusedSimpArgs false
set_option linter.unusedVariables false
set_option maxRecDepth 1000000
set_option maxHeartbeats 8000000
namespace Go.Proofs.YtkfimdpcadbcpaaGreatDoor
section
open Go.RowKit Go.Extern.Stop Go.Stop Go.Extern
theorem zLx {w : World} (k s h l p : Nat) (H : OfP k s h l p) (hk1 : 1 ≤ k) (hk2 : k ≤ 128) :
    Calls Tryz.prog 208 #[parV k s h l p] w fun e w' => e = .returned .nilIface ∧ Below w.heap.size w w' := by
  obtain ⟨w0, hw0, hb0, hbx⟩ := zAi w k s h l p
  have HW0 := lhd hw0
  have HB0 := lhd hb0
  have HBX := lhd hbx
  obtain ⟨c0, c1, c2, c3, c4⟩ := hbx.cells
  have HOF := lhd H
  clear hw0 hb0 hbx H
  unfold parV parC
  go_enter Tryz.func208, Tryz.ntmps208
  go_wp2_with fail
  rw [← HW0.out]
  refine (Of_in k hk1 hk2).mono ?_
  rintro e w1 ⟨s', h', l', p', rfl, hof, hb1⟩
  obtain ⟨rfl, rfl, rfl, rfl⟩ := hof.unique HOF.out
  obtain ⟨W, hW, hbW, hby⟩ := zAi w1 k s' h' l' p'
  have HW := lhd hW
  have HB1 := lhd (hb1.trans (hbW.mono hb1.size))
  have hbx2 := HBX.out.mono HB1.out
  clear c0 c1 c2 c3 c4
  obtain ⟨c0, c1, c2, c3, c4⟩ := hbx2.cells
  obtain ⟨d0, d1, d2, d3, d4⟩ := hby.cells
  clear hb1 hof hW hbW hby hbx2
  unfold parV parC
  go_upto_region 2 with fail
  rw [← HW.out]
  generalize w1.heap.size = g1 at *
  go_wp2
  go_ret
  exact ⟨rfl, HB0.out.trans (HB1.out.mono HB0.out.size)⟩
theorem zNC {w : World} (k s h l p : Nat) (H : OfP k s h l p) (hk1 : 1 ≤ k) (hk2 : k ≤ 128) :
    Calls Tryz.prog 181 #[parV k s h l p] w fun e w' => ∃ v g, e = .returned (.tuple #[v, .nilIface]) ∧ IsGr ((h + 1) / 2) (k + s) g ∧ MatAt colV w' v (rowsP k s h g) ∧ Below w.heap.size w w' := by
  obtain ⟨w0, hw0, hb0, hbx⟩ := zAi w k s h l p
  have HW0 := lhd hw0
  have HB0 := lhd hb0
  have HBX := lhd hbx
  obtain ⟨c0, c1, c2, c3, c4⟩ := hbx.cells
  have HR : Hid (∀ w, Calls Tryz.prog 208 #[.agg #[.int .i64 (k : Int), .int .i64 (s : Int), .int .i64 (h : Int), .int .i64 (l : Int), .int .i64 (p : Int)]] w fun e w' => e = .returned .nilIface ∧ Below w.heap.size w w') := lhd fun w => zLx k s h l p H hk1 hk2
  have HGA : Hid (∀ w, Calls Tryz.prog 209 #[.agg #[.int .i64 (k : Int), .int .i64 (s : Int), .int .i64 (h : Int), .int .i64 (l : Int), .int .i64 (p : Int)]] w fun e w' => ∃ v g, e = .returned v ∧ IsGr ((h + 1) / 2) (k + s) g ∧ MatAt colV w' v (rowsP k s h g) ∧ Below w.heap.size w w') := lhd fun w => zGn k s h l p H hk1 hk2
  clear hw0 hb0 hbx H
  unfold parV parC
  go_enter Tryz.func181, Tryz.ntmps181
  go_upto_region 1 with fail
  rw [← HW0.out]
  go_wp2_with fail
  refine (HR.out _).mono ?_
  rintro e w1 ⟨rfl, hb1⟩
  have HB1 := lhd (HB0.out.trans (hb1.mono HB0.out.size))
  have hbx2 := HBX.out.mono hb1
  clear c0 c1 c2 c3 c4
  obtain ⟨c0, c1, c2, c3, c4⟩ := hbx2.cells
  clear hb1 hbx2
  go_wp2_with fail
  refine (HGA.out _).mono ?_
  rintro e w2 ⟨v, g, rfl, hg, hm, hb2⟩
  have HG := lhd hg
  have HM := lhd hm
  have HB2 := lhd (HB1.out.trans (hb2.mono HB1.out.size))
  clear hg hm hb2 c0 c1 c2 c3 c4
  go_wp2
  go_ret2
  exact ⟨_, g, rfl, HG.out, HM.out, HB2.out⟩
end

section
open Go.RowKit Go.Extern.Stop Go.Stop Go.Extern
theorem zKQ {vs : List Int} {k : Nat} {L : List Int} {x : Int} (h : vs.take k = L) (hk : k < vs.length) : (vs.set k x).take (k + 1) = L ++ [x] := by
  subst h
  rw [List.take_set, List.take_succ_eq_append_getElem hk, List.set_append]
  simp [Nat.le_of_lt hk]
theorem zNf {w : World} (k s h l p d st a : Nat) (hp : IsP p) (hlp : l ≤ p) (hp2 : p ≤ 1000) (hs1 : 1 ≤ st) (hs2 : st < p) (ha : a < p) (hd : d ≤ l) :
    Calls Tryz.prog 178 #[parV k s h l p, tripV d st a] w fun e w' => ∃ g W, e = .returned (.slice (some ⟨g, 0, none⟩) d d) ∧ IsTr l p st a d W ∧ w'.ownsRow w.heap.size 3 1 (.slice (some ⟨g, 0, none⟩) d d) d ((W.map Int.ofNat).map intV) ∧ Below w.heap.size w w' := by
  obtain ⟨i0, hi, hz0, hz1, hz2⟩ := info_parts zAR
  obtain ⟨w0, hw0, hb0, hbx⟩ := zAi w k s h l p
  obtain ⟨w1, hw1, hb1, hbt⟩ := zAO w0 d st a
  have hs0 : w0.heap.size = w.heap.size + 1 := by rw [hw0]; simp
  have hs3 : w1.heap.size = w.heap.size + 2 := by rw [hw1]; simp; omega
  have HW0 := lhd hw0
  have HW1 := lhd hw1
  have HB1 := lhd (hb0.trans (hb1.mono hb0.size))
  rw [hs0] at hbt
  have HBX := lhd (hbx.mono hb1)
  have HBT := lhd hbt
  have HS3 := lhd hs3
  obtain ⟨c0, c1, c2, c3, c4⟩ := HBX.out.cells
  obtain ⟨t0, t1, t2⟩ := HBT.out.cells
  have hsz1 := HB1.out.size
  have hdI : (d : Int) ≤ 1000 := by omega
  have HP := lhd hp
  have hp1 : 2 ≤ p := hp.1
  have hpz : ((p : Int) == 0) = false := by simp; omega
  clear hw0 hw1 hb0 hb1 hbx hbt hs0 hs3 hp
  unfold parV parC tripV tripC
  go_enter Tryz.func178, Tryz.ntmps178
  go_upto_region 1 with fail
  rw [← HW0.out, ← HW1.out]
  go_wp2_with fail
  go_step3
  go_upto_region 2 with (at_make; refine wpList_make_full _ rfl _ _ 32 rfl w1.heap.size 3 i0 (.int .i64 0) 1 Tryz.underlying32 hi hz0 hz1 .i64 .i64 _ _ d rfl rfl rfl rfl (by rw [hz2]; omega) (by unfold maxLen; omega) (Nat.le_refl _) ?_; intro w2 hown0 hgrow0; have hb2 := lhd ((Below.refl w1.heap.size w1).grown hgrow0 (Nat.le_refl _) (fun k hk => by cases hk)); have ho2 := lhd hown0; clear hown0 hgrow0)
  have HB2 := lhd (HB1.out.trans (hb2.out.mono HB1.out.size))
  have HBX2 := lhd (HBX.out.mono hb2.out)
  have HBT2 := lhd (HBT.out.mono hb2.out)
  clear c0 c1 c2 c3 c4 t0 t1 t2
  obtain ⟨c0, c1, c2, c3, c4⟩ := HBX2.out.cells
  obtain ⟨t0, t1, t2⟩ := HBT2.out.cells
  have HGG : Hid (w.heap.size ≠ w1.heap.size ∧ w.heap.size + 1 ≠ w1.heap.size ∧ w.heap.size ≤ w1.heap.size) := lhd (by have := HS3.out; omega)
  clear hsz1
  generalize w1.heap.size = g at *
  go_wp2_with fail
  go_step3
  go_wp2_with fail
  go_loopg [6, 16] d (fun gk nx i wr => ∃ k' j : Nat, k' + gk = d ∧ i = .int .i64 (k' : Int) ∧ nx = .int .i64 (seqA p st a j : Int) ∧ (trW l p st a j).length = k' ∧ j ≤ p ∧ (∃ vs : List Int, vs.length = d ∧ vs.take k' = (trW l p st a j).map Int.ofNat ∧ wr.ownsRow w.heap.size 3 1 (.slice (some ⟨g, 0, none⟩) d d) d (vs.map intV)) ∧ ParBox wr w.heap.size k s h l p ∧ TripBox wr (w.heap.size + 1) d st a ∧ Below w.heap.size w wr)
  case atStart => exact ⟨0, 0, by omega, rfl, by rw [zFa ha], rfl, by omega, ⟨List.replicate d 0, by simp, rfl, by rw [List.map_replicate]; have := ho2.out; rw [Nat.mul_one] at this; exact zAd (toList_madeCells_one (.int .i64 0) d ▸ this) HGG.out.2.2⟩, HBX2.out, HBT2.out, HB2.out⟩
  case round =>
    clear c0 c1 c2 c3 c4 t0 t1 t2 HBX2 HBT2 HB2 HBX HBT HB1 ho2 hb2 HW0 HW1 HS3
    obtain ⟨k', j, hkd, rfl, rfl, hlen, hj, ⟨vs, hvl, hvt, hown⟩, hx, ht, hbel⟩ := hrel
    have HX := lhd hx
    have HTB := lhd ht
    have HB := lhd hbel
    have HO := lhd hown
    have HVL := lhd hvl
    have HVT := lhd hvt
    have HLEN := lhd hlen
    have HJ := lhd hj
    obtain ⟨c0, c1, c2, c3, c4⟩ := hx.cells
    obtain ⟨t0, t1, t2⟩ := ht.cells
    obtain ⟨go, rfl⟩ : ∃ go, go = gk := ⟨gk, rfl⟩
    cases go with
    | zero =>
      obtain rfl : k' = d := by omega
      have HW : Hid (vs.take vs.length = (trW l p st a j).map Int.ofNat) := lhd (by rw [hvl]; exact hvt)
      clear hkd hlen hj hvl hvt hown hx ht hbel
      go_wp2_with fail
      try rw [Exit.noGoto_ret]
      go_ret
      exact ⟨g, trW l p st a j, rfl, ⟨HLEN.out, j, HJ.out, rfl⟩, by have h1 := HO.out; have e := HW.out; rw [List.take_length] at e; rw [e] at h1; exact h1, HB.out⟩
    | succ go =>
      obtain ⟨ie, hi1, hi2, hi3, hi4⟩ := zKO (a := a) HP.out hs1 hs2 hlp (show (trW l p st a j).length < l by omega)
      have HI3 := lhd hi3
      have HI4 := lhd hi4
      have hkd1 : k' < d := by omega
      have HGO : Hid (k' + 1 + go = d) := lhd (by omega)
      have hy3 : wr.cell? ⟨g, k', none⟩ = some (.int .i64 (vs.getD k' 0)) := by
        rw [hown.cellAt k' (by omega)]
        simp [List.getD_eq_getElem?_getD, hvl, hkd1, intV]
      have hy4 : wr.frozen? ⟨g, k', none⟩ = false := hown.frozenAt k'
      generalize vs.getD k' 0 = z at hy3
      clear hkd hlen hj hvl hvt hown hx ht hbel hi3 hi4
      obtain ⟨wo, hwo⟩ : ∃ wo, wo = wr := ⟨_, rfl⟩
      subst hwo
      go_wp2_with fail
      go_loopg [6] p (fun gd nx wq => (∃ jj : Nat, nx = .int .i64 (seqA p st a jj : Int) ∧ j ≤ jj ∧ jj ≤ ie ∧ trW l p st a jj = trW l p st a j ∧ ie - jj < gd) ∧ wo = wq)
      case atStart => exact ⟨⟨j, rfl, by omega, hi1, rfl, by omega⟩, rfl⟩
      case round =>
        obtain ⟨⟨jj, rfl, h1, h2, h3, h4⟩, rfl⟩ := hrel
        obtain ⟨gd, rfl⟩ : ∃ gd, gk = gd + 1 := ⟨gk - 1, by omega⟩
        have hsu := zE6 p st a jj
        obtain ⟨x, hx⟩ : ∃ x, seqA p st a jj = x := ⟨_, rfl⟩
        obtain ⟨y, hy⟩ : ∃ y, seqA p st a (jj + 1) = y := ⟨_, rfl⟩
        have hxp : x < p := hx ▸ zJL (by omega)
        rw [hx, hy] at hsu
        rw [hx]
        have hmod : ((x : Int) + (st : Int)) % (p : Int) = (y : Int) := by rw [hsu]; push_cast; rfl
        have HXX := lhd hx
        have HYY := lhd hy
        have H3 := lhd h3
        clear hx hy hsu h3
        by_cases hlt : x < l
        · clear h4
          go_wp2_with fail
          go_roundg go
          case measure => omega
          case rel =>
            have hin : trW l p st a (jj + 1) = trW l p st a j ++ [x] := by rw [zL5 (by rw [HXX.out]; exact hlt), HXX.out, H3.out]
            exact ⟨k' + 1, jj + 1, HGO.out, by go_num, by rw [HYY.out, hmod], by rw [hin, List.length_append, HLEN.out]; rfl, by omega,
              ⟨vs.set k' (x : Int), by rw [List.length_set]; exact HVL.out, by rw [zKQ HVT.out (by rw [HVL.out]; omega), hin, List.map_append]; rfl, by rw [List.map_set]; exact (HO.out.stored k' (.int .i64 (x : Int))).1⟩,
              HX.out.set HGG.out.1, HTB.out.set HGG.out.2.1, HB.out.setCell (p := ⟨g, k', none⟩) HGG.out.2.2 _⟩
        · go_wp2_with fail
          go_roundg gd
          case measure => omega
          case rel =>
            have hne : jj ≠ ie := by
              rintro rfl
              have := HI3.out
              rw [HXX.out] at this
              exact hlt this
            exact ⟨⟨jj + 1, by rw [HYY.out, hmod], by omega, by omega, by rw [zGx (by rw [HXX.out]; exact hlt), H3.out], by omega⟩, rfl⟩
end

section
open Go.Shelf Go.Sort
def Tryz.lays189_ren : Go.Shelf.Ren := ⟨fun | 125 => 207 | 128 => 233 | 129 => 234 | 189 => 179 | 215 => 246 | 216 => 230 | 257 => 206 | 294 => 224 | 295 => 225 | 296 => 226 | 297 => 227 | 298 => 228 | 299 => 229 | 300 => 231 | 301 => 232 | 328 => 241 | 329 => 242 | 330 => 243 | 331 => 244 | 332 => 245 | 343 => 248 | n => n, fun | 0 => 0 | 3 => 3 | 4 => 4 | 5 => 5 | 9 => 9 | 28 => 32 | 46 => 58 | 51 => 190 | 53 => 258 | 131 => 308 | 182 => 303 | 183 => 304 | 218 => 317 | 222 => 321 | 228 => 329 | 229 => 289 | n => n, fun | n => n⟩
theorem Tryz.lays189 : Go.Proofs.Lays.n189 Tryz.prog Tryz.lays189_ren := {
  mixed := by kernel_rfl
  f125 := Tryz.func207.trans (congrArg some (by kernel_rfl))
  f128 := Tryz.func233.trans (congrArg some (by kernel_rfl))
  f129 := Tryz.func234.trans (congrArg some (by kernel_rfl))
  f189 := Tryz.func179.trans (congrArg some (by kernel_rfl))
  f215 := Tryz.func246.trans (congrArg some (by kernel_rfl))
  f216 := Tryz.func230.trans (congrArg some (by kernel_rfl))
  f257 := Tryz.func206.trans (congrArg some (by kernel_rfl))
  f294 := Tryz.func224.trans (congrArg some (by kernel_rfl))
  f295 := Tryz.func225.trans (congrArg some (by kernel_rfl))
  f296 := Tryz.func226.trans (congrArg some (by kernel_rfl))
  f297 := Tryz.func227.trans (congrArg some (by kernel_rfl))
  f298 := Tryz.func228.trans (congrArg some (by kernel_rfl))
  f299 := Tryz.func229.trans (congrArg some (by kernel_rfl))
  f300 := Tryz.func231.trans (congrArg some (by kernel_rfl))
  f301 := Tryz.func232.trans (congrArg some (by kernel_rfl))
  f328 := Tryz.func241.trans (congrArg some (by kernel_rfl))
  f329 := Tryz.func242.trans (congrArg some (by kernel_rfl))
  f330 := Tryz.func243.trans (congrArg some (by kernel_rfl))
  f331 := Tryz.func244.trans (congrArg some (by kernel_rfl))
  f332 := Tryz.func245.trans (congrArg some (by kernel_rfl))
  f343 := Tryz.func248.trans (congrArg some (by kernel_rfl))
  t0 := Tryz.underlying0
  a0 := Tryz.isAgg0
  z0 := Tryz.sizeOf0
  v0 := Tryz.zeroValue0
  t3 := Tryz.underlying3
  a3 := Tryz.isAgg3
  z3 := Tryz.sizeOf3
  v3 := Tryz.zeroValue3
  t4 := Tryz.underlying4
  a4 := Tryz.isAgg4
  z4 := Tryz.sizeOf4
  v4 := Tryz.zeroValue4
  t5 := Tryz.underlying5
  a5 := Tryz.isAgg5
  z5 := Tryz.sizeOf5
  v5 := Tryz.zeroValue5
  t9 := Tryz.underlying9
  a9 := Tryz.isAgg9
  z9 := Tryz.sizeOf9
  v9 := Tryz.zeroValue9
  t28 := Tryz.underlying32
  a28 := Tryz.isAgg32
  z28 := Tryz.sizeOf32
  v28 := Tryz.zeroValue32
  t46 := Tryz.underlying58
  a46 := Tryz.isAgg58
  z46 := Tryz.sizeOf58
  v46 := Tryz.zeroValue58
  t51 := Tryz.underlying190
  a51 := Tryz.isAgg190
  z51 := Tryz.sizeOf190
  v51 := Tryz.zeroValue190
  t53 := Tryz.underlying258
  a53 := Tryz.isAgg258
  z53 := Tryz.sizeOf258
  v53 := Tryz.zeroValue258
  t131 := Tryz.underlying308
  a131 := Tryz.isAgg308
  z131 := Tryz.sizeOf308
  v131 := Tryz.zeroValue308
  t182 := Tryz.underlying303
  a182 := Tryz.isAgg303
  z182 := Tryz.sizeOf303
  v182 := Tryz.zeroValue303
  t183 := Tryz.underlying304
  a183 := Tryz.isAgg304
  z183 := Tryz.sizeOf304
  v183 := Tryz.zeroValue304
  t218 := Tryz.underlying317
  a218 := Tryz.isAgg317
  z218 := Tryz.sizeOf317
  v218 := Tryz.zeroValue317
  t222 := Tryz.underlying321
  a222 := Tryz.isAgg321
  z222 := Tryz.sizeOf321
  v222 := Tryz.zeroValue321
  t228 := Tryz.underlying329
  a228 := Tryz.isAgg329
  z228 := Tryz.sizeOf329
  v228 := Tryz.zeroValue329
  t229 := Tryz.underlying289
  a229 := Tryz.isAgg289
  z229 := Tryz.sizeOf289
  v229 := Tryz.zeroValue289 }
theorem Tryz.slices_Sort_int (blk off cap : Nat) (zs : List Int) (w : World) (hH : Holds (Value.int .i64) w blk off zs.toArray) (hblk : blk < w.heap.size) (hsz : zs.length < 4611686018427387904) :
    Calls Tryz.prog 179 #[.slice (some ⟨blk, off, none⟩) zs.length cap] w fun e w' => e = .returned (.tuple #[]) ∧ ∃ n os, w' = grow (putRow (Value.int .i64) (Sort.ahead w n) blk off (zs.mergeSort fun x y => decide (x ≤ y)).toArray) os :=
  Any.slices_Sort_int Tryz.lays189 blk off cap zs w hH hblk hsz
end

section
open Go.RowKit Go.Extern.Stop Go.Stop Go.Extern
theorem zKs {w : World} {base g d : Nat} {L : List Int} (h : w.ownsRow base 3 1 (.slice (some ⟨g, 0, none⟩) d d) d (L.map intV)) (hd : d < 4611686018427387904) :
    Calls Tryz.prog 179 #[.slice (some ⟨g, 0, none⟩) d d] w fun e w' => e = .returned (.tuple #[]) ∧ w'.ownsRow base 3 1 (.slice (some ⟨g, 0, none⟩) d d) d ((L.mergeSort fun x y => decide (x ≤ y)).map intV) ∧ w.grownBy w' (some g) := by
  obtain ⟨hb, hl, hh⟩ := zAQ h
  rw [List.length_map] at hl
  subst hl
  have hm : L.length ≤ maxLen := by unfold maxLen; omega
  refine (Tryz.slices_Sort_int g 0 L.length L w (holds_of_blockI hh (by rw [List.take_of_length_le (by simp)]; rfl)) (Array.getElem?_eq_some_iff.1 hh).1 hd).mono ?_
  rintro e w' ⟨rfl, n, os, rfl⟩
  exact ⟨rfl, ownsRow_sortedI (by simp) hb hh (Nat.le_refl _) hm (by simp), grownBy_sortedI _⟩
theorem zMd {w : World} (k s h l p seed esi : Nat) (H : OfP k s h l p) (hk1 : 1 ≤ k) (hk2 : k ≤ 128) (hs : seed < 65536) (he : esi < 65536) (hT : DgTab w) :
    Calls Tryz.prog 149 #[parV k s h l p, .int .i64 (seed : Int), .int .i64 (esi : Int)] w fun e w' => ∃ v W, e = .returned (.tuple #[v, .nilIface]) ∧ IsTr l p (trS p (mixN esi seed)) (trA p (mixN esi seed)) (trD l (mixN esi seed)) W ∧ ListAt intV w' v ((risN l W).map Int.ofNat) ∧ Below w.heap.size w w' := by
  obtain ⟨b1, b2, b3, b4, b5, b6, b7⟩ := H.bounds hk1 hk2
  have hl1 : 1 ≤ l := by have := H.2.2.1; omega
  have hp2 : 2 ≤ p := H.2.2.2.two
  have hpp : IsP p := H.2.2.2.1
  obtain ⟨w0, hw0, hb0, hbx⟩ := zAi w k s h l p
  have HW0 := lhd hw0
  have HB0 := lhd hb0
  have HBX := lhd hbx
  have HT := lhd hT
  obtain ⟨c0, c1, c2, c3, c4⟩ := hbx.cells
  obtain ⟨D, hD⟩ : ∃ D, trD l (mixN esi seed) = D := ⟨_, rfl⟩
  obtain ⟨S, hS⟩ : ∃ S, trS p (mixN esi seed) = S := ⟨_, rfl⟩
  obtain ⟨A, hA⟩ : ∃ A, trA p (mixN esi seed) = A := ⟨_, rfl⟩
  have bD := zIN (y := mixN esi seed) hl1
  have bS := zEW (y := mixN esi seed) hp2
  have bA := zL0 (y := mixN esi seed) hp2
  rw [hD] at bD
  rw [hS] at bS
  rw [hA] at bA
  have HTR : Hid (∀ V, DgTab V → Calls Tryz.prog 156 #[.agg #[.int .i64 (k : Int), .int .i64 (s : Int), .int .i64 (h : Int), .int .i64 (l : Int), .int .i64 (p : Int)], .int .i64 (seed : Int), .int .i64 (esi : Int)] V fun e w' => e = .returned (.tuple #[.agg #[.int .i64 (D : Int), .int .i64 (S : Int), .int .i64 (A : Int)], .nilIface]) ∧ Below V.heap.size V w') := lhd fun V hV => by
    have := zJV (w := V) k s h l p seed esi H hk1 hk2 hs he hV
    rwa [hD, hS, hA] at this
  have HWK : Hid (∀ V, Calls Tryz.prog 178 #[.agg #[.int .i64 (k : Int), .int .i64 (s : Int), .int .i64 (h : Int), .int .i64 (l : Int), .int .i64 (p : Int)], .agg #[.int .i64 (D : Int), .int .i64 (S : Int), .int .i64 (A : Int)]] V fun e w' => ∃ g W, e = .returned (.slice (some ⟨g, 0, none⟩) D D) ∧ IsTr l p S A D W ∧ w'.ownsRow V.heap.size 3 1 (.slice (some ⟨g, 0, none⟩) D D) D ((W.map Int.ofNat).map intV) ∧ Below V.heap.size V w') := lhd fun V => zNf k s h l p D S A hpp b6 (by omega) bS.1 bS.2 bA bD.2
  have HDE : Hid (D < 4611686018427387904 ∧ IsP p ∧ 1 ≤ S ∧ S < p) := lhd ⟨by omega, hpp, bS.1, bS.2⟩
  rw [hD, hS, hA]
  clear hw0 hb0 hbx hT H hD hS hA b1 b2 b3 b4 b5 b6 b7 hl1 hp2 hpp bD bS bA
  unfold parV parC
  go_enter Tryz.func149, Tryz.ntmps149
  go_upto_region 1 with fail
  rw [← HW0.out]
  go_wp2_with fail
  refine (HTR.out _ (PairsAt.mono HT.out HB0.out)).mono ?_
  rintro e w1 ⟨rfl, hb1⟩
  obtain ⟨w2, hw2, hb2, hbt⟩ := zAO w1 D S A
  have HW2 := lhd hw2
  have HBB := lhd (hb1.trans (hb2.mono hb1.size))
  have HB2 := lhd (HB0.out.trans (HBB.out.mono HB0.out.size))
  clear c0 c1 c2 c3 c4
  obtain ⟨c0, c1, c2, c3, c4⟩ := (HBX.out.mono HBB.out).cells
  obtain ⟨t0, t1, t2⟩ := hbt.cells
  clear hw2 hb1 hb2 hbt
  go_upto_region 2 with fail
  rw [← HW2.out]
  go_wp2_with fail
  refine (HWK.out _).mono ?_
  rintro e w3 ⟨g, W, rfl, hw, hown, hb3⟩
  have HW := lhd hw
  have HOWN := lhd hown
  have HB3 := lhd (HB2.out.trans (hb3.mono HB2.out.size))
  have HS2 := lhd (Nat.le_trans HB2.out.size hb3.size)
  have HG : Hid (w.heap.size ≤ g) := lhd (Nat.le_trans HB2.out.size (zAQ hown).1)
  clear hw hown hb3 c0 c1 c2 c3 c4 t0 t1 t2
  go_wp2_with fail
  refine (zKs HOWN.out HDE.out.1).mono ?_
  rintro e w4 ⟨rfl, hown, hgr⟩
  have HO4 := lhd hown
  have HB4 := lhd (HB3.out.grown hgr HB3.out.size (fun k hk => by cases hk; exact HG.out))
  clear hown hgr
  go_wp2
  go_ret2
  exact ⟨_, W, rfl, HW.out, by have h1 := ListAt.of_owns (f := intV) HO4.out; rw [zLa (HW.out.nodup HDE.out.2.1 HDE.out.2.2.1 HDE.out.2.2.2) (fun x hx => HW.out.lt hx)] at h1; exact h1, HB4.out⟩
end

section
open Go.RowKit Go.Extern.Stop Go.Stop Go.Extern
theorem ListAt.back {w : World} {v : Value} {l : List Nat} (h : ListAt intV w v (l.map Int.ofNat)) : ListAt colV w v l := by
  obtain ⟨a, cap, rfl, hc, hm, h⟩ := h
  have hl : (l.map Int.ofNat).length = l.length := List.length_map ..
  refine ⟨a, cap, by rw [hl], by omega, hm, fun hp => ?_⟩
  obtain ⟨b, off, rfl, hcell⟩ := h (by omega)
  refine ⟨b, off, rfl, fun j hj => ?_⟩
  rw [hcell j (by omega), List.getElem_map]
  rfl
end

section
open Go.RowKit Go.Extern.Stop Go.Stop Go.Extern
theorem zHK {w : World} {v : Value} {l : List Nat} (h : ListAt intV w v (l.map Int.ofNat)) : ListAt colV w v l := by
  obtain ⟨a, cap, rfl, h1, h2, h3⟩ := h
  refine ⟨a, cap, by rw [List.length_map], by simpa using h1, h2, fun hp => ?_⟩
  obtain ⟨b, off, rfl, hc⟩ := h3 (by simpa using hp)
  refine ⟨b, off, rfl, fun j hj => ?_⟩
  have := hc j (by simpa using hj)
  simpa [intV, colV] using this
theorem zJO {α : Type} {f : α → Value} {w : World} {x : Value} {vs : List Value} {L : List (List α)} {cs : List Nat} {n : Nat} (hn : cs.length = n) (hx : ListAt id w x (fillTo (fun j => vs.getD (cs.getD j 0) nilS) nilS n n)) (h : ∀ i, ListAt f w (vs.getD i nilS) (L.getD i [])) :
    MatAt f w x (cs.map fun c => L.getD c []) := by
  refine ⟨_, hx, by rw [zAI, List.length_map, hn], fun i => ?_⟩
  rw [zCu]
  by_cases hi : i < n
  · rw [zCj, if_pos hi]
    have e : (cs.map fun c => L.getD c []).getD i [] = L.getD (cs.getD i 0) [] := by
      have : i < cs.length := by omega
      simp [List.getD_eq_getElem?_getD, this]
    rw [e]
    exact h _
  · rw [zCj, if_neg hi, List.getD_eq_getElem?_getD, List.getElem?_eq_none (by rw [List.length_map]; omega)]
    exact ListAt.nil _ _
end

section
open Go.RowKit Go.Extern.Stop Go.Stop Go.Extern
theorem zFQ {w : World} (v : Value) (l : List Int) (n : Int) (h : ListAt intV w v l) :
    Calls Tryz.prog 210 #[v, .int .i64 n] w fun e w' => e = .returned (.bool (outI l n)) ∧ w = w' := by
  have hlen := h.len
  obtain ⟨a, cap, rfl, hcap, hcm, hcell⟩ := h
  have HC := lhd hcell
  clear hcell
  go_enter Tryz.func210, Tryz.ntmps210
  go_wp2
  go_loopw [9] (fun i wr => ∃ k : Nat, k ≤ l.length ∧ i = .int .i64 k ∧ (∀ j (hj : j < l.length), j < k → 0 ≤ l[j] ∧ l[j] < n) ∧ w = wr) (fun i _ => l.length - (intOf i).toNat)
  case atStart => exact ⟨0, Nat.zero_le _, rfl, fun j _ hj => by omega, rfl⟩
  case round =>
    obtain ⟨k, hk, rfl, hz, rfl⟩ := hrel
    have HZ := lhd hz
    clear hz
    by_cases hlt : k < l.length
    · obtain ⟨b, off, rfl, hcc⟩ := HC.out (by omega)
      have hx : w.cell? ⟨b, off + k, none⟩ = some (.int .i64 l[k]) := hcc k hlt
      have HM : Hid (l[k] ∈ l) := lhd (List.getElem_mem hlt)
      have HY : Hid (∀ y, l[k] = y → 0 ≤ y ∧ y < n → ∀ j (hj : j < l.length), j < k + 1 → 0 ≤ l[j] ∧ l[j] < n) := lhd fun y e hy j hj hjk => by
        by_cases e2 : j = k
        · subst e2; rw [e]; exact hy
        · exact HZ.out j hj (by omega)
      have HE : Hid (l[k] = l[k]) := lhd rfl
      clear hcc
      generalize l[k] = y at hx HM HY
      clear HE
      by_cases h1 : y < 0
      · go_wp2
        go_ret
        have : outI l n = true := List.any_eq_true.2 ⟨y, HM.out, by simp [h1]⟩
        exact ⟨by rw [this]; rfl, rfl⟩
      · by_cases h2 : y < n
        · go_wp2
          go_roundw
          case rel => exact ⟨k + 1, by omega, by go_num, HY.out y rfl ⟨by omega, h2⟩, trivial⟩
          case measure => simp [intOf]; omega
        · go_wp2
          go_ret
          have : outI l n = true := List.any_eq_true.2 ⟨y, HM.out, by simp; omega⟩
          exact ⟨by rw [this]; rfl, rfl⟩
    · have hk' : k = l.length := by omega
      go_wp2
      go_ret
      have : outI l n = false := by
        unfold outI
        rw [List.any_eq_false]
        intro c hc
        obtain ⟨j, hj, e⟩ := List.getElem_of_mem hc
        have := HZ.out j hj (by omega)
        rw [e] at this
        simp; omega
      exact ⟨by rw [this]; rfl, rfl⟩
theorem zB6 {w : World} (n : Int) (hn : -9223372036854775808 ≤ n ∧ n ≤ 9223372036854775807) :
    Calls Tryz.prog 211 #[.int .i64 n] w fun e w' => e = .returned (.int .i64 (sizeI n)) ∧ w = w' := by
  by_cases h0 : n < 0
  · go_enter Tryz.func211, Tryz.ntmps211
    go_wp2
    go_ret
    exact ⟨by rw [sizeI, if_pos (.inl h0)]; rfl, rfl⟩
  · by_cases h1 : 4096 < n
    · go_enter Tryz.func211, Tryz.ntmps211
      go_wp2
      go_ret
      exact ⟨by rw [sizeI, if_pos (.inr h1)]; rfl, rfl⟩
    · go_enter Tryz.func211, Tryz.ntmps211
      go_wp2
      go_ret
      exact ⟨by rw [sizeI, if_neg (by omega), show n + 63 = n + 64 - 1 by omega]; rfl, rfl⟩
end

section
open Go.RowKit Go.Extern.Stop Go.Stop Go.Extern
theorem zMy (b : Nat) (hb : b < 64) : 2 ^ b < 18446744073709551616 := by
  have : 2 ^ b ≤ 2 ^ 63 := Nat.pow_le_pow_right (by decide) (by omega)
  omega
theorem zKp (l : List Int) (c d : Nat) : (inP l d || d == c) = inP (l ++ [(c : Int)]) d := by
  unfold inP
  by_cases h1 : (d : Int) ∈ l
  · rw [decide_eq_true h1, decide_eq_true (List.mem_append.2 (.inl h1))]; rfl
  · by_cases h2 : d = c
    · subst h2; simp
    · have h3 : ¬ (d : Int) ∈ l ++ [(c : Int)] := by simp [h1]; omega
      rw [decide_eq_false h1, decide_eq_false h3]
      simpa using h2
end

section
open Go.RowKit Go.Extern.Stop Go.Stop Go.Extern
theorem zKG {w : World} (v : Value) (l : List Int) (n : Int) (h : ListAt intV w v l) (h0 : ¬ n < 0) (h4 : ¬ 4096 < n) (ho : outI l n = false) (hnd0 : l.Nodup) :
    Calls Tryz.prog 182 #[v, .int .i64 n] w fun e w' => e = .returned (.tuple #[.slice (some ⟨w.heap.size, 0, none⟩) (sizeI n).toNat (sizeI n).toNat, .nilIface]) ∧
      ∃ ws, w'.ownsRow w.heap.size 258 1 (.slice (some ⟨w.heap.size, 0, none⟩) (sizeI n).toNat (sizeI n).toNat) (sizeI n).toNat (ws.map wordV) ∧ Packs ws (sizeI n).toNat (inP l) ∧ Below w.heap.size w w' := by
  obtain ⟨i0, hi, hz0, hz1, hz2⟩ := info_parts zGY
  have hlen := h.len
  have H1 := lhd h
  have HN : Hid (-9223372036854775808 ≤ n ∧ n ≤ 9223372036854775807) := lhd ⟨by omega, by omega⟩
  obtain ⟨a1, cap1, rfl, hcap, -, hcell⟩ := h
  have HC := lhd hcell
  clear hcell
  have HD := lhd ho
  have HIN : Hid (∀ j (hj : j < l.length), 0 ≤ l[j] ∧ l[j] < n) := lhd fun j hj => by
    unfold outI at ho
    rw [List.any_eq_false] at ho
    have := ho _ (List.getElem_mem hj)
    simp at this
    omega
  obtain ⟨K, hK, hK64⟩ := zJe n
  have HK : Hid ((sizeI n).toNat = K) := lhd (by omega)
  have hnK : n ≤ 64 * (K : Int) := by
    unfold sizeI at hK
    rw [if_neg (by omega)] at hK
    omega
  have HNDL := lhd hnd0
  clear hnd0
  clear ho
  go_enter Tryz.func182, Tryz.ntmps182
  go_wp2_with fail
  refine (zFQ _ l n H1.out).mono ?_
  rintro e w1 ⟨rfl, rfl⟩
  rw [HD.out]
  go_wp2_with fail
  refine (zB6 n HN.out).mono ?_
  rintro e w1 ⟨rfl, rfl⟩
  rw [hK]
  go_wp2_with (at_make; refine wpList_make_full _ rfl _ _ 217 rfl w.heap.size 258 i0 (.int .u64 0) 1 Tryz.underlying217 hi hz0 hz1 .i64 .i64 _ _ K rfl rfl rfl rfl (by rw [hz2]; omega) (by unfold maxLen; omega) (Nat.le_refl _) ?_; intro w0 hown0 hgrow0; have hb0 := lhd ((Below.refl w.heap.size w).grown hgrow0 (Nat.le_refl _) (fun k hk => by cases hk)); have ho0 := lhd hown0; clear hown0 hgrow0)
  go_loopw [25] (fun i wr => ∃ k : Nat, k ≤ l.length ∧ i = .int .i64 k ∧ (l.take k).Nodup ∧ (∃ vs : List Nat, Packs vs K (inP (l.take k)) ∧ wr.ownsRow w.heap.size 258 1 (.slice (some ⟨w.heap.size, 0, none⟩) K K) K (vs.map wordV)) ∧ Below w.heap.size w wr) (fun i _ => l.length - (intOf i).toNat)
  case atStart => exact ⟨0, Nat.zero_le _, rfl, by simp, ⟨List.replicate K 0, (Packs.zero K).congr fun c _ => by simp [inP], by rw [List.map_replicate]; have := ho0.out; rw [Nat.mul_one] at this; exact toList_madeCells_one (.int .u64 0) K ▸ this⟩, hb0.out⟩
  case round =>
    obtain ⟨k, hk, rfl, hnd, ⟨vs, hvp, hown⟩, hbel⟩ := hrel
    have hsz := hbel.size
    have HO := lhd hown
    have HB := lhd hbel
    have HP := lhd hvp
    have HND := lhd hnd
    by_cases hlt : k < l.length
    · obtain ⟨b, off, rfl, hcc⟩ := HC.out (by omega)
      have hx0 : w.cell? ⟨b, off + k, none⟩ = some (.int .i64 l[k]) := hcc k hlt
      have hx : wr.cell? ⟨b, off + k, none⟩ = some (.int .i64 l[k]) := (hbel.cell (p := ⟨b, off + k, none⟩) (World.block_lt_of_cell? w _ hx0)).trans hx0
      obtain ⟨hc0, hcn⟩ := HIN.out k hlt
      have HX : Hid (∀ y, l[k] = y → y ∈ l.take k → ¬ l.Nodup) := lhd fun y e hy => by subst e; exact zEH hlt hy
      have HY : Hid (∀ y, l[k] = y → y ∉ l.take k → (l.take (k + 1)).Nodup) := lhd fun y e hy => by
        subst e
        rw [List.take_succ_eq_append_getElem hlt]
        exact zDF _ _ HND.out hy
      have HT : Hid (∀ y, l[k] = y → l.take (k + 1) = l.take k ++ [y]) := lhd fun y e => by subst e; exact List.take_succ_eq_append_getElem hlt
      clear hcc hx0
      generalize l[k] = y at hx HX HY hc0 hcn HT
      obtain ⟨c, rfl⟩ : ∃ c : Nat, y = (c : Int) := ⟨y.toNat, by omega⟩
      have hcK : c < 64 * K := by omega
      have HH : Hid (hasI vs (c : Int) = decide ((c : Int) ∈ l.take k)) := lhd (by rw [hasI, if_neg (by omega)]; exact hvp.2.2 c hcK)
      have HLA := lhd (ListAt.of_owns (f := wordV) hown)
      have hvl := hvp.1
      have hy3 : wr.cell? ⟨w.heap.size, c / 64, none⟩ = some (.int .u64 ((vs.getD (c / 64) 0 : Nat) : Int)) := by
        rw [hown.cellAt (c / 64) (by omega)]
        have : c / 64 < vs.length := by omega
        simp [List.getD_eq_getElem?_getD, this, wordV]
      have hy4 : wr.frozen? ⟨w.heap.size, c / 64, none⟩ = false := hown.frozenAt (c / 64)
      have hzlt := hvp.2.1.getD (c / 64)
      have hplt := zMy (c % 64) (by omega)
      have hbo := bits_or_u64_nat (vs.getD (c / 64) 0) (2 ^ (c % 64)) hzlt hplt
      have hsh : IntKind.u64.wrap ((2 : Int) ^ (c % 64)) = ((2 ^ (c % 64) : Nat) : Int) := by
        rw [show ((2 : Int) ^ (c % 64)) = ((2 ^ (c % 64) : Nat) : Int) by simp]
        exact zA5 _ hplt
      have HS := lhd (hvp.set c hcK)
      clear hown hbel hvp hnd
      generalize vs.getD (c / 64) 0 = z at hy3 hzlt hbo HS
      generalize 2 ^ (c % 64) = P at hplt hbo HS hsh
      have hc64 : c / 64 < K := by omega
      by_cases hb : (c : Int) ∈ l.take k
      · exact absurd HNDL.out (HX.out _ rfl hb)
      · have HDD := lhd (decide_eq_false hb)
        have HNN := lhd (HY.out _ rfl hb)
        have HTT := lhd (HT.out _ rfl)
        clear hb
        go_wp2_with fail
        refine (zGg _ vs (c : Int) HLA.out HP.out.2.1 (by omega)).mono ?_
        rintro e w1 ⟨rfl, rfl⟩
        rw [HH.out, HDD.out]
        go_wp2_with fail
        go_region
        go_wp2
        go_roundw
        case rel => exact ⟨k + 1, by omega, by go_num, HNN.out, ⟨vs.set (c / 64) (z ||| P), HS.out.congr fun d _ => by rw [HTT.out]; exact zKp _ _ _, by rw [List.map_set]; exact (HO.out.stored (c / 64) (.int .u64 ((z ||| P : Nat) : Int))).1⟩, (HB.out.setCell (p := ⟨w.heap.size, c / 64, none⟩) (Nat.le_refl _) _).drew⟩
        case measure => simp [intOf]; omega
    · have hk' : k = l.length := by omega
      clear hown hbel hvp hnd
      go_wp2
      go_ret2
      refine ⟨by rw [HK.out]; rfl, vs, by rw [HK.out]; exact HO.out, ?_, HB.out⟩
      have := HP.out
      rw [hk', List.take_length] at this
      rw [HK.out]
      exact this
end

section
open Go.RowKit Go.Extern.Stop Go.Stop Go.Extern
theorem zNd {r : List Nat} {n : Nat} (h : ∀ c ∈ r, c < n) : outI (r.map Int.ofNat) (n : Int) = false := by
  unfold outI
  rw [List.any_eq_false]
  intro c hc
  obtain ⟨q, hq, rfl⟩ := List.mem_map.1 hc
  have := h q hq
  have e : Int.ofNat q = (q : Int) := rfl
  rw [e]
  simp
  omega
theorem zGE {w : World} (v : Value) (r : List Nat) (n : Nat) (h : ListAt colV w v r) (hn : n ≤ 4096) (hr : ∀ c ∈ r, c < n) (hd : r.Nodup) :
    Calls Tryz.prog 182 #[v, .int .i64 (n : Int)] w fun e w' => e = .returned (.tuple #[.slice (some ⟨w.heap.size, 0, none⟩) (kOf n) (kOf n), .nilIface]) ∧
      w'.ownsRow w.heap.size 258 1 (.slice (some ⟨w.heap.size, 0, none⟩) (kOf n) (kOf n)) (kOf n) ((packR n r).map wordV) ∧ Below w.heap.size w w' := by
  have hk : (sizeI (n : Int)).toNat = kOf n := by rw [zGG hn]; rfl
  refine (zKG v (r.map Int.ofNat) (n : Int) h.cols (by omega) (by omega) (zNd hr) (zFP hd)).mono ?_
  rintro e w' ⟨rfl, ws, h1, h2, h3⟩
  rw [hk] at h1 h2 ⊢
  rw [show ws = packR n r from h2.unique (zBm n r)] at h1
  exact ⟨rfl, h1, h3⟩
theorem MatFresh.set {α : Type} {f : α → Value} {w : World} {te e : TypeId} {base base2 g i n cap m : Nat} {L : List (List α)} {x : Value} {r : List α} (h : MatFresh f te base e w (.slice (some ⟨g, 0, none⟩) n cap) L) (hi : i < L.length) (hn : L.length = n) (hne : e ≠ te)
    (hx : w.ownsRow base2 te 1 x m (r.map f)) (hb : base ≤ base2) : MatFresh f te base e (w.setCell ⟨g, i, none⟩ x) (.slice (some ⟨g, 0, none⟩) n cap) (L.set i r) := by
  subst hn
  obtain ⟨vs, h1, h2, h3⟩ := h
  have hl : vs.length = L.length := by have := h1.1; omega
  obtain ⟨k1, k2⟩ := h1.stored i x
  refine ⟨vs.set i x, by rw [List.length_set]; exact k1, fun j => ?_, fun y hy b hyb => ?_⟩
  · rw [zAU _ _ _ _ _ (by omega), zAU _ _ _ _ _ hi]
    by_cases e1 : j = i
    · rw [if_pos e1, if_pos e1]
      exact (ElAt.own (base := base) hx).grown hne h1 k2
    · rw [if_neg e1, if_neg e1]
      exact (h2 j).grown hne h1 k2
  · rcases List.mem_or_eq_of_mem_set hy with hy | rfl
    · exact h3 y hy b hyb
    · exact Nat.le_trans hb (hx.lt b hyb).1
theorem MatFresh.blank {α : Type} (f : α → Value) {w : World} {te e : TypeId} {base : Nat} {v : Value} {n : Nat} (h : w.ownsRow base e 1 v n (List.replicate n nilS)) : MatFresh f te base e w v (List.replicate n []) := by
  refine ⟨List.replicate n nilS, by rw [List.length_replicate]; exact h, fun i => ?_, fun x hx b hb => ?_⟩
  · have e1 : (List.replicate n nilS).getD i nilS = nilS := by
      rw [List.getD_eq_getElem?_getD, List.getElem?_replicate]
      split <;> rfl
    have e2 : (List.replicate n ([] : List α)).getD i [] = [] := by
      rw [List.getD_eq_getElem?_getD, List.getElem?_replicate]
      split <;> rfl
    rw [e1, e2]
    exact ElAt.nil f te base w
  · rw [(List.mem_replicate.1 hx).2] at hb
    cases hb
theorem zLL {w : World} (k s h l p : Nat) (H : OfP k s h l p) (hk1 : 1 ≤ k) (hk2 : k ≤ 128) :
    Calls Tryz.prog 152 #[parV k s h l p] w fun e w' => ∃ g, e = .returned (.tuple #[.slice (some ⟨g, 0, none⟩) (s + h) (s + h), .nilIface]) ∧ MatFresh wordV 258 w.heap.size 217 w' (.slice (some ⟨g, 0, none⟩) (s + h) (s + h)) (packL l (rowsF0 k s h)) ∧ Below w.heap.size w w' := by
  obtain ⟨i0, hi, hz0, hz1, hz2⟩ := info_parts zLm
  obtain ⟨b1, b2, b3, b4, b5, b6, b7⟩ := H.bounds hk1 hk2
  have hl : l = k + s + h := H.2.2.1
  obtain ⟨w0, hw0, hb0, hbx⟩ := zAi w k s h l p
  have HW0 := lhd hw0
  have HB0 := lhd hb0
  have HBX := lhd hbx
  obtain ⟨c0, c1, c2, c3, c4⟩ := hbx.cells
  have HA : Hid (∀ w, Calls Tryz.prog 181 #[.agg #[.int .i64 (k : Int), .int .i64 (s : Int), .int .i64 (h : Int), .int .i64 (l : Int), .int .i64 (p : Int)]] w fun e w' => ∃ v, e = .returned (.tuple #[v, .nilIface]) ∧ MatAt colV w' v (rowsF0 k s h) ∧ Below w.heap.size w w') := lhd fun w => by
    refine (zNC k s h l p H hk1 hk2).mono ?_
    rintro e w' ⟨v, g, rfl, hg, hm, hb⟩
    obtain rfl := zIu hg
    exact ⟨v, rfl, hm, hb⟩
  have HIN : Hid (∀ i, i < s + h → (∀ c ∈ (rowsF0 k s h).getD i [], c < l) ∧ ((rowsF0 k s h).getD i []).Nodup) := lhd fun i hi => by
    rw [hl]
    exact zBe (by rw [zAj]; exact hi) _ rfl
  have HPL : Hid (fillTo (fun i => packR l ((rowsF0 k s h).getD i [])) [] (s + h) (s + h) = packL l (rowsF0 k s h)) := lhd (by
    rw [zCu]
    unfold packL
    apply List.ext_getElem
    · simp [zAj]
    · intro i h1 h2
      have h3 : i < (rowsF0 k s h).length := by simpa using h2
      simp [List.getD_eq_getElem?_getD, h3])
  have hrl := zAj k s h
  have hls : l ≤ 157 := b5
  obtain ⟨n, hn⟩ : ∃ n, s + h = n := ⟨_, rfl⟩
  rw [hn] at HIN HPL hrl ⊢
  have hnb : n ≤ 40 := by omega
  have hn1 : 1 ≤ n := by omega
  generalize rowsF0 k s h = R at *
  clear hw0 hb0 hbx H hk1 hk2 b1 b2 b3 b4 b5 b6 b7 hl hn
  unfold parV parC
  go_enter Tryz.func152, Tryz.ntmps152
  go_upto_region 1 with fail
  rw [← HW0.out]
  go_wp2_with fail
  refine (HA.out _).mono ?_
  rintro e w1 ⟨v, rfl, hm, hb1⟩
  have hml := hm.len
  obtain ⟨av, cv, rfl, hcv, hcm, hcell⟩ := hm.opens
  rw [hrl] at hcv hcell ⊢
  obtain ⟨bg, og, rfl, hcc⟩ := hcell (by omega)
  have HC := lhd hcc
  have HM := lhd hm
  have HB1 := lhd (HB0.out.trans (hb1.mono HB0.out.size))
  have HX1 := lhd (HBX.out.mono hb1)
  have hsz1 := HB1.out.size
  clear hm hb1 hcell hcc c0 c1 c2 c3 c4 HBX
  go_wp2_with (at_make; refine wpList_make_full _ rfl _ _ 215 rfl w.heap.size 217 i0 (.slice none 0 0) 1 Tryz.underlying215 hi hz0 hz1 .i64 .i64 _ _ n rfl rfl rfl rfl (by rw [hz2]; omega) (by unfold maxLen; omega) hsz1 ?_; intro w2 hown0 hgrow0; have hb0 := lhd ((Below.refl w1.heap.size w1).grown hgrow0 (Nat.le_refl _) (fun k hk => by cases hk)); have ho0 := lhd hown0; clear hown0 hgrow0)
  have HF0 : Hid (MatFresh wordV 258 w.heap.size 217 w2 (.slice (some ⟨w1.heap.size, 0, none⟩) n n) (fillTo (fun i => packR l (R.getD i [])) [] n 0)) := lhd (by
    rw [zBI]
    refine MatFresh.blank wordV ?_
    have := ho0.out
    rw [Nat.mul_one] at this
    exact toList_madeCells_one (.slice none 0 0) n ▸ this)
  obtain ⟨g, hg⟩ : ∃ g, w1.heap.size = g := ⟨_, rfl⟩
  have HG := lhd hg
  rw [hg] at HF0 hb0 ⊢
  have HPS := lhd (zCm (fun i => packR l (R.getD i [])) [] n)
  have HFL := lhd (zAI (fun i => packR l (R.getD i [])) [] n)
  clear hg ho0
  generalize fillTo (fun i => packR l (R.getD i [])) [] n = FT at *
  go_loopw [22] (fun i wr => ∃ j : Nat, j ≤ n ∧ i = .int .i64 j ∧ MatFresh wordV 258 w.heap.size 217 wr (.slice (some ⟨g, 0, none⟩) n n) (FT j) ∧ Below g w1 wr) (fun i _ => n - (intOf i).toNat)
  case atStart => exact ⟨0, Nat.zero_le _, rfl, HF0.out, hb0.out⟩
  case round =>
    obtain ⟨j, hj, rfl, hmf, hbel⟩ := hrel
    clear HF0 hb0
    have HF := lhd hmf
    have hbel1 : Below w1.heap.size w1 wr := by rw [HG.out]; exact hbel
    have HB := lhd hbel1
    have HB2 := lhd (HB1.out.trans (hbel1.mono hsz1))
    have HXR := lhd (HX1.out.mono hbel1)
    obtain ⟨c0, c1, c2, c3, c4⟩ := HXR.out.cells
    by_cases hlt : j < n
    · obtain ⟨x, hx, hlx⟩ := HC.out j hlt
      have hx' : wr.cell? ⟨bg, og + j, none⟩ = some x := (hbel1.cell (p := ⟨bg, og + j, none⟩) (World.block_lt_of_cell? w1 _ hx)).trans hx
      have hdr : Below wr.heap.size wr wr.drew := (Below.refl _ _).drew
      have HDR := lhd hdr
      obtain ⟨ax, cx, hxe, -, -, -⟩ := id hlx
      have HPK : Hid (Calls Tryz.prog 182 #[x, .int .i64 (l : Int)] wr fun e w' => ∃ a c, e = .returned (.tuple #[.slice a (kOf l) c, .nilIface]) ∧ w'.ownsRow wr.heap.size 258 1 (.slice a (kOf l) c) (kOf l) ((packR l (R.getD j [])).map wordV) ∧ Below wr.heap.size wr w') := lhd (by
        refine (zGE x (R.getD j []) l (hlx.mono hbel1) (by omega) (HIN.out j hlt).1 (HIN.out j hlt).2).mono ?_
        rintro e w' ⟨rfl, h1, h2⟩
        exact ⟨_, _, rfl, h1, h2⟩)
      have HSET := lhd (HPS.out j)
      have HXS : Hid (∀ V, Below wr.heap.size wr V → V.cell? ⟨w.heap.size, 3, none⟩ = some (.int .i64 (l : Int))) := lhd fun V hV => (HXR.out.mono hV).cells.2.2.2.1
      subst hxe
      clear hx hlx hmf hbel hbel1 hdr
      generalize (R.getD j []).length = rl at *
      generalize packR l (R.getD j []) = PR at *
      go_wp2_with fail
      refine HPK.out.mono ?_
      rintro e w5 ⟨a5, c5, rfl, ho5, hb5⟩
      have HB5 := lhd hb5
      have HO5 := lhd ho5
      obtain ⟨vs5, hv5, he5, hf5⟩ := HF.out.mono hb5
      rw [HFL.out] at hv5
      have hcs := hv5.cellAt j (by omega)
      obtain ⟨old, hold⟩ : ∃ old, vs5[j]? = some old := ⟨_, List.getElem?_eq_getElem (by have := hv5.1; omega)⟩
      rw [hold] at hcs
      have hfr := hv5.frozenAt j
      clear hold hv5 he5 hf5 ho5 hb5
      go_wp2
      go_roundw
      case rel => exact ⟨j + 1, by omega, by go_num, by rw [← HSET.out]; exact (HF.out.mono HB5.out).set (by rw [HFL.out]; exact hlt) (HFL.out _) (by decide) HO5.out HB2.out.size, by have := HB.out.trans (HB5.out.mono HB.out.size); rw [HG.out] at this; exact this.setCell (p := ⟨g, j, none⟩) (Nat.le_refl _) _⟩
      case measure => simp [intOf]; omega
    · obtain rfl : j = n := by omega
      clear hmf hbel hbel1
      go_wp2
      go_ret2
      exact ⟨g, rfl, by rw [← HPL.out]; exact HF.out, HB2.out⟩
end
end Go.Proofs.YtkfimdpcadbcpaaGreatDoor
