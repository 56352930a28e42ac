import Derived.Deep.RegionHeld
import Derived.Deep.MidRow
import Derived.BigQuiet
import Derived.Test.YtkfimdpcadbcpaaGreatDoorP07
import Derived.Test.YtkfimdpcadbcpaaGreatDoorP02
import Derived.Test.YtkfimdpcadbcpaaGreatDoorA33
set_option linter.unusedSimpArgs false
set_option linter.unusedVariables false
set_option maxRecDepth 1000000
set_option maxHeartbeats 8000000
namespace Go.Proofs.YtkfimdpcadbcpaaGreatDoor
section
open Go.RowKit Go.Extern.Stop Go.Stop Go.Extern
theorem places19 {At : SndAt} (hA : SnRep At) {w : World} (a b : Nat) (x : Int) (ha : a < 256) (hb : b < 256) (hx : I64 x) (hD : DgTab w) (hT : Tab w) :
    Calls Tryz.prog 6 #[.agg #[.int .u8 (a : Int), .int .u8 (b : Int), .int .i64 x]] w fun e w' => e = .returned (.bool true) ∧ Below w.heap.size w w' := by
  obtain ⟨i0, hi0, hz0, hz1, hz2⟩ := info_parts zAR
  have HTU : Hid (∀ V : World, Calls Tryz.prog 23 #[.int .u8 (a : Int), .int .u8 (b : Int)] V fun e w' => ∃ v, e = .returned (.tuple #[.agg (cfgC (turnC a b)), v]) ∧ w'.ownsRow V.heap.size 5 1 v (turnL a).length ((turnL a).map byteV) ∧ Below V.heap.size V w') := lhd fun V => yBj a b ha hb
  have HAW : Hid (∀ V, Below w.heap.size w V → Calls Tryz.prog 12 #[] V fun e w' => e = .returned (.bool true) ∧ Below V.heap.size V w') := lhd fun V hV => zMX hA (PairsAt.mono hD hV) (hT.mono hV)
  have HNEW : Hid (∀ (V : World) (v : Value), ListAt byteV V v (turnL a) → Below w.heap.size w V → Calls Tryz.prog 14 #[.agg (cfgC (turnC a b)), v] V fun e w' => Below V.heap.size V w' ∧ ∃ g S, e = .returned (.tuple #[.pointer (some ⟨g, 0, none⟩), .nilIface]) ∧ SndOf (turnC a b) (turnL a) S ∧ At w' V.heap.size w'.heap.size g S 0) :=
    lhd fun V v hv hbw => (hA.new V (turnC a b) v (turnL a) (turnI ha b) hv (yAM a) (PairsAt.mono hD hbw) (hT.mono hbw)).mono (by
      rintro e w' ⟨h1, ⟨h2, -⟩ | ⟨-, g, S, rfl, hS, hAt⟩⟩
      · exact absurd (yB1 ha b) h2
      · exact ⟨h1, g, S, rfl, hS, hAt⟩)
  have HDT : Hid (∀ V, Below w.heap.size w V → DgTab V ∧ Tab V) := lhd fun V hV => ⟨PairsAt.mono hD hV, hT.mono hV⟩
  have hTl := yBL x
  have hcv0 : IntKind.u64.wrap x = x % 18446744073709551616 := IntKind.wrap_u64 x
  have hcv : (IntKind.u64.wrap x).tmod 549755813888 = (skipN x : Int) := by
    rw [hcv0]
    unfold skipN
    have : 0 ≤ x % 18446744073709551616 := Int.emod_nonneg _ (by decide)
    rw [Int.tmod_eq_emod_of_nonneg this]
    omega
  have hcv2 : (IntKind.u64.wrap x) % 549755813888 = (skipN x : Int) := by
    rw [hcv0]
    unfold skipN
    omega
  clear hcv0
  obtain ⟨T, hTT⟩ : ∃ T, T = skipN x := ⟨_, rfl⟩
  rw [← hTT] at hTl hcv hcv2
  clear hTT
  obtain ⟨w0, hw0⟩ : ∃ W, W = w.alloc (.cells #[.int .u8 (a : Int), .int .u8 (b : Int), .int .i64 x] 55) := ⟨_, rfl⟩
  have hb0 : Below w.heap.size w w0 := by rw [hw0]; exact (Below.refl _ _).alloc (Nat.le_refl _) _
  have hx0 : w0.heap[w.heap.size]? = some (.cells #[.int .u8 (a : Int), .int .u8 (b : Int), .int .i64 x] 55 (0, 0)) := by rw [hw0]; exact heap_alloc_new _ _
  have HW0 := lhd hw0
  have HB0 := lhd hb0
  have HX0 := lhd hx0
  have HA := lhd hA
  clear hw0 hb0 hx0 hD hT ha hb hx
  go_enter Tryz.func6, Tryz.ntmps6
  go_upto_region 1 with fail
  rw [← HW0.out]
  have d0 := zAa (j := 0) (u := .int .u8 (a : Int)) HX0.out rfl
  have d1 := zAa (j := 1) (u := .int .u8 (b : Int)) HX0.out rfl
  go_wp2_with fail
  with_reducible refine (HTU.out _).mono ?_
  rintro e w1 ⟨v, rfl, hov, hb1⟩
  have HB1 := lhd (HB0.out.trans (hb1.mono HB0.out.size))
  have HOV1 := lhd hov
  obtain ⟨av, cv, hvv, -, -⟩ := zAe hov
  subst hvv
  obtain ⟨w2, hw2⟩ : ∃ W, W = w1.alloc (.cells (cfgC (turnC a b)) 23) := ⟨_, rfl⟩
  have hb2 : Below w1.heap.size w1 w2 := by rw [hw2]; exact (Below.refl _ _).alloc (Nat.le_refl _) _
  obtain ⟨gc, hgc⟩ : ∃ gc, gc = w1.heap.size := ⟨_, rfl⟩
  have HQ2 : Hid (CfgBox w2 gc (turnC a b)) := lhd (by rw [hw2, hgc]; exact heap_alloc_new _ _)
  have HB2 := lhd (HB1.out.trans (hb2.mono HB1.out.size))
  have HX2 : Hid (w2.heap[w.heap.size]? = some (.cells #[.int .u8 (a : Int), .int .u8 (b : Int), .int .i64 x] 55 (0, 0))) := lhd (((hb1.trans (hb2.mono hb1.size)).block _ (Array.getElem?_eq_some_iff.1 HX0.out).1).trans HX0.out)
  have HOV2 := lhd (zAd (zAh HOV1.out hb2) HB0.out.size)
  have HLV2 := lhd (ListAt.of_owns (f := byteV) (l := turnL a) HOV2.out)
  have HW2 : Hid (w1.alloc (.cells (cfgC (turnC a b)) 23) = w2) := lhd hw2.symm
  clear hov hb1 hb2 hw2 d0 d1
  go_upto_region 2 with ((with_reducible show wpList _ _ _ (⟨none, _, _, _, _, _⟩ :: _) _ _); refine zAf (cfgC (turnC a b)) rfl 23 (.tmp 3) (.tmp 22) rfl rfl rfl (by kernel_rfl) (by rfl) (by kernel_rfl) ?_)
  rw [HW2.out, ← hgc]
  clear hgc
  go_wp2_with ((with_reducible show wpList _ _ _ (⟨some 25, _, _, _, _, _⟩ :: _) _ _); refine wpList_load_row rfl 23 (.tmp 3) rfl gc rfl 23 (cfgC (turnC a b)) (0, 0) _ HQ2.out Tryz.underlying23 rfl (by kernel_rfl) ?_)
  with_reducible refine (HNEW.out _ _ HLV2.out HB2.out).mono ?_
  rintro e w4 ⟨hb4, g, S, rfl, hS, hAt⟩
  have HB4 := lhd (HB2.out.trans (hb4.mono HB2.out.size))
  have HQ4 := lhd (HQ2.out.mono hb4)
  have HX4 : Hid (w4.heap[w.heap.size]? = some (.cells #[.int .u8 (a : Int), .int .u8 (b : Int), .int .i64 x] 55 (0, 0))) := lhd ((hb4.block _ (Array.getElem?_eq_some_iff.1 HX2.out).1).trans HX2.out)
  have HOV4 := lhd (zAh HOV2.out hb4)
  have HSO := lhd hS
  obtain ⟨lo, hlo⟩ : ∃ lo, lo = w2.heap.size := ⟨_, rfl⟩
  obtain ⟨hi, hhi⟩ : ∃ hi, hi = w4.heap.size := ⟨_, rfl⟩
  rw [← hlo, ← hhi] at hAt
  have HLO : Hid (w.heap.size ≤ lo ∧ gc < lo) := lhd (by rw [hlo]; exact ⟨HB2.out.size, HQ2.out.lt⟩)
  have HVL : Hid (∀ b', (Value.slice av (turnL a).length cv).ownBlock = some b' → b' < lo) := lhd fun b' hb' => by rw [hlo]; exact (HOV2.out.lt b' hb').2
  have HHI : Hid (hi = w4.heap.size) := lhd hhi
  have HAT4 := lhd hAt
  have HSK := lhd (HA.out.skip w4 lo hi g S 0 (T : Int) hAt ⟨by omega, by omega⟩)
  unfold ptrAt at HSK
  have d2 := zAa (j := 2) (u := .int .i64 x) HX4.out rfl
  clear hb4 hS hAt hlo hhi
  go_wp2_with fail
  with_reducible refine HSK.out.mono ?_
  rintro e w5 ⟨hfr, ⟨h, -⟩ | ⟨-, -, rfl, hAt⟩⟩
  · omega
  have HAT5 : Hid (At w5 lo hi g S T) := lhd (by rw [Int.toNat_natCast, Nat.zero_add] at hAt; exact hAt)
  have HB5 := lhd (HB4.out.trans (hfr.1.mono HLO.out.1))
  have HQ5 : Hid (CfgBox w5 gc (turnC a b)) := lhd ((hfr.1.block gc HLO.out.2).trans HQ4.out)
  have HOV5 : Hid (w5.ownsRow w.heap.size 5 1 (.slice av (turnL a).length cv) (turnL a).length ((turnL a).map byteV)) := lhd (yBZ HOV4.out fun b' hb' => hfr.1.block b' (HVL.out b' hb'))
  have HLH := lhd (HA.out.le HAT5.out)
  clear hfr hAt d2
  have HNW := lhd (HA.out.now w5 lo hi g S T HAT5.out)
  unfold ptrAt at HNW
  go_wp2_with fail
  with_reducible refine HNW.out.mono ?_
  rintro e w6 ⟨rfl, hb6⟩
  have HB6 := lhd (HB5.out.trans (hb6.mono HB5.out.size))
  have HQ6 := lhd (HQ5.out.mono hb6)
  have HTI := lhd (HA.out.tick w6 lo hi g S T (HA.out.far HAT5.out (fun y _ hy => hb6.block y (by have := HLH.out.2; omega)) hb6.size) (HDT.out _ HB6.out).1 (HDT.out _ HB6.out).2)
  unfold ptrAt at HTI
  clear hb6
  go_wp2_with fail
  with_reducible refine HTI.out.mono ?_
  rintro e w7 ⟨hfr, ⟨h, -⟩ | ⟨-, v7, rfl, hl, -⟩⟩
  · omega
  have HB7 := lhd (HB6.out.trans (hfr.1.mono HLO.out.1))
  have HQ7 : Hid (CfgBox w7 gc (turnC a b)) := lhd ((hfr.1.block gc HLO.out.2).trans HQ6.out)
  have HZ7 := lhd HB7.out.size
  have hok := HSO.out.ok
  have hnum := yBM HSO.out.num hok
  have hPL : (tickL S T).length = (packL19 S T).length := by unfold tickL; rw [List.length_map]
  have hlen1 : (packL19 S T).length ≤ 1 + S.g * 4096 := (yAY S T).resolve_right (fun h => h hok)
  have hm0 := hok.many (t := T) (show 0 < S.g from hok.g1)
  have hcnt0 := yA4 S T 0
  rw [if_pos (show 0 < S.g from hok.g1)] at hcnt0
  obtain ⟨ln, hln⟩ : ∃ ln, ln = (tickL S T).length := ⟨_, rfl⟩
  have hlp : 0 < ln := by
    rw [hln, hPL]
    have : cntD 0 (packL19 S T) ≤ (packL19 S T).length := List.countP_le_length
    omega
  obtain ⟨bd, od, cd, hv7, hdg⟩ := yB9 hl hln hlp
  subst hv7
  have HDG := lhd hdg
  have HLE : Hid (ln = (packL19 S T).length) := lhd (hln.trans hPL)
  have hlnb : ln ≤ 32769 := by rw [HLE.out]; have := hok.g8; omega
  have HTK : Hid (tickL S T = (packL19 S T).map fun p => (p.layer.toNat, putP p)) := lhd rfl
  have HRT : Hid (∀ p ∈ packL19 S T, ckN p = 0 ∧ Octets p.data) := lhd fun p hp => ⟨yAZ hok (by omega) hp, yAP hok hp⟩
  have HMB : Hid (∀ k, k < S.g → 1 ≤ manyS S T k ∧ manyS S T k ≤ 4096) := lhd fun k hk => hok.many hk
  have HPC : Hid (∀ k, cntD k (packL19 S T) = if k < S.g then manyS S T k else 0) := lhd (yA4 S T)
  have HPA : Hid (∀ i p, (packL19 S T)[i]? = some p → (i = 0 ∧ T % S.every = 0 ∧ p = annP S T) ∨ ∃ k j y, k < S.g ∧ (stpL S k (rowS S T))[j]? = some y ∧ p = sdP S T k (manyS S T k) j y.2 y.1 ∧ cntD k ((packL19 S T).take i) = j) := lhd fun i p => yB4 S T i p
  have HISD : Hid (∀ k p, cntD k ([p] : List Pkt) = if isD k p = true then 1 else 0) := lhd fun k p => by unfold cntD; simp [List.countP_cons]
  generalize packL19 S T = PL at *
  have q0 := (HQ7.out.cells).1
  have q1 := (HQ7.out.cells).2.1
  have q7 := (HQ7.out.cells).2.2.2.2.2.2.2
  have HCQ : Hid (∀ V, Below w7.heap.size w7 V → V.cell? ⟨gc, 0, none⟩ = some (.int .i64 (S.ses : Int)) ∧ V.cell? ⟨gc, 1, none⟩ = some (.int .i64 (S.g : Int)) ∧ V.cell? ⟨gc, 7, none⟩ = some (.int .i64 (S.every : Int))) := lhd fun V hV => by
    have hc := (HQ7.out.mono hV).cells
    have n1 := HSO.out.num.ses
    have n2 := HSO.out.num.g
    have n3 := HSO.out.num.every
    rw [n1, n2, n3] at hc
    exact ⟨hc.1, hc.2.1, hc.2.2.2.2.2.2.2⟩
  rw [HSO.out.num.ses] at q0
  rw [HSO.out.num.g] at q1
  rw [HSO.out.num.every] at q7
  have hg1 := hok.g1
  have hg8 := hok.g8
  have hev1 := hok.e1
  have hev2 := hok.e2
  clear hfr hl hPL hlen1 hm0 hcnt0 hdg hnum hln hok
  obtain ⟨G, hG⟩ : ∃ G, G = S.g := ⟨_, rfl⟩
  rw [← hG] at HMB HPC HPA HCQ q1 hg1 hg8
  clear hG
  go_wp2_with (first
    | ((with_reducible show wpList _ _ _ (⟨some 57, _, _, _, _, _⟩ :: _) _ _); refine wpList_make_full _ rfl _ _ 32 rfl w7.heap.size 3 i0 (.int .i64 0) 1 Tryz.underlying32 hi0 hz0 hz1 .i64 .i64 _ _ G rfl rfl rfl rfl (by rw [hz2]; omega) (by unfold maxLen; omega) (Nat.le_refl _) ?_; intro w8 hown0 hgrow0; have HO8 := lhd hown0; have HB78 := lhd ((Below.refl w7.heap.size w7).grown hgrow0 (Nat.le_refl _) (fun k hk => by cases hk)); clear hown0 hgrow0; have q1 := (HCQ.out w8 HB78.out).2.1; have HZ78 := lhd HB78.out.size)
    | ((with_reducible show wpList _ _ _ (⟨some 60, _, _, _, _, _⟩ :: _) _ _); refine wpList_make_full _ rfl _ _ 32 rfl w8.heap.size 3 i0 (.int .i64 0) 1 Tryz.underlying32 hi0 hz0 hz1 .i64 .i64 _ _ G rfl rfl rfl rfl (by rw [hz2]; omega) (by unfold maxLen; omega) (Nat.le_refl _) ?_; intro w9 hown0 hgrow0; have HO9 := lhd hown0; have HB89 := lhd ((Below.refl w8.heap.size w8).grown hgrow0 (Nat.le_refl _) (fun k hk => by cases hk)); clear hown0 hgrow0))
  obtain ⟨gn, hgn⟩ : ∃ gn, gn = w7.heap.size := ⟨_, rfl⟩
  obtain ⟨gm, hgm⟩ : ∃ gm, gm = w8.heap.size := ⟨_, rfl⟩
  have hn8 : w8.heap[gn]? = some (.cells (rowF G fun _ => 0).toArray 3 (0, 0)) := by
    have := (zAQ HO8.out).2.2
    rw [Nat.mul_one, show (Value.int .i64 0).cells = #[Value.int .i64 0] from rfl, toList_madeCells_one, yAL] at this
    rw [hgn, this]
  have hm9 : w9.heap[gm]? = some (.cells (rowF G fun _ => 0).toArray 3 (0, 0)) := by
    have := (zAQ HO9.out).2.2
    rw [Nat.mul_one, show (Value.int .i64 0).cells = #[Value.int .i64 0] from rfl, toList_madeCells_one, yAL] at this
    rw [hgm, this]
  have hltn := (Array.getElem?_eq_some_iff.1 hn8).1
  have HN9 : Hid (w9.heap[gn]? = some (.cells (rowF G fun _ => 0).toArray 3 (0, 0))) := lhd ((HB89.out.block gn hltn).trans hn8)
  have HM9 := lhd hm9
  have HGG : Hid (w7.heap.size ≤ gn ∧ w7.heap.size ≤ gm ∧ gn ≠ gm) := lhd ⟨by omega, by rw [hgm]; exact HZ78.out, by omega⟩
  have HB9 := lhd (HB78.out.trans (HB89.out.mono HZ78.out))
  have HC0 : Hid (∀ k, cntD k (PL.take 0) = 0) := lhd fun k => rfl
  rw [← hgn, ← hgm]
  clear HO8 HO9 hn8 hm9 hltn hgn hgm q0 q1 q7
  go_wp2_with fail
  go_loopw [12] (fun i wr => ∃ j : Nat, j ≤ ln ∧ i = .int .i64 (j : Int) ∧ wr.heap[gn]? = some (.cells (rowF G fun k => cntD k (PL.take j)).toArray 3 (0, 0)) ∧ wr.heap[gm]? = some (.cells (rowF G fun k => if cntD k (PL.take j) = 0 then 0 else manyS S T k).toArray 3 (0, 0)) ∧ Below w7.heap.size w7 wr) (fun i _ => ln - (intOf i).toNat)
  case atStart => exact ⟨0, Nat.zero_le _, rfl, by simp only [HC0.out]; exact HN9.out, by simp only [HC0.out, if_pos]; exact HM9.out, HB9.out⟩
  case round =>
    obtain ⟨j, hj, rfl, hrn, hrm, hbel⟩ := hrel
    have HRN := lhd hrn
    have HRM := lhd hrm
    have HB := lhd hbel
    by_cases hlt : j < ln
    · have e1 : decide ((j : Int) < (ln : Int)) = true := decide_eq_true (by omega)
      obtain ⟨p, hp⟩ : ∃ p, PL[j]? = some p := ⟨_, List.getElem?_eq_getElem (by rw [← HLE.out]; exact hlt)⟩
      obtain ⟨hck, hoc⟩ := HRT.out p (List.mem_of_getElem? hp)
      obtain ⟨Dv, hdv⟩ := HDG.out j (p.layer.toNat, putP p) (by rw [HTK.out, List.getElem?_map, hp]; rfl)
      have cB := (hdv wr hbel).2.1
      have HDL : Hid (∀ V, Below w7.heap.size w7 V → V.cell? ⟨bd, od + j * 2, none⟩ = some (.int .i64 (p.layer.toNat : Int))) := lhd fun V hV => (hdv V hV).1
      have HGET := lhd (yB7 Dv p (hdv wr hbel).2.2 hck hoc)
      obtain ⟨ad, cdv, hdve, -, -⟩ := (hdv wr hbel).2.2
      have hdvs := hdve
      subst hdvs
      have HCS : Hid (∀ k, cntD k (PL.take (j + 1)) = cntD k (PL.take j) + if isD k p = true then 1 else 0) := lhd fun k => by rw [zEl hp, yAi, HISD.out]
      have hway := HPA.out j p hp
      generalize (putP p).length = pl at *
      clear hrn hrm hbel hp hck hoc hdv
      go_wp2_with fail
      with_reducible refine HGET.out.mono ?_
      rintro e wA ⟨D, rfl, hlD, hbA⟩
      obtain ⟨aD, cD, hDe, -, -⟩ := hlD
      subst hDe
      obtain ⟨wZ, hwZ⟩ : ∃ W, W = wA.alloc (.cells (pktC p (.slice aD p.data.length cD)) 63) := ⟨_, rfl⟩
      have hbZ : Below wA.heap.size wA wZ := by rw [hwZ]; exact (Below.refl _ _).alloc (Nat.le_refl _) _
      obtain ⟨gp, hgp⟩ : ∃ gp, gp = wA.heap.size := ⟨_, rfl⟩
      have HPZ : Hid (PktBox wZ gp p (.slice aD p.data.length cD)) := lhd (by rw [hwZ, hgp]; exact heap_alloc_new _ _)
      have hbAZ := hbA.trans (hbZ.mono hbA.size)
      have HRNZ : Hid (wZ.heap[gn]? = some (.cells (rowF G fun k => cntD k (PL.take j)).toArray 3 (0, 0))) := lhd ((hbAZ.block gn (Array.getElem?_eq_some_iff.1 HRN.out).1).trans HRN.out)
      have HRMZ : Hid (wZ.heap[gm]? = some (.cells (rowF G fun k => if cntD k (PL.take j) = 0 then 0 else manyS S T k).toArray 3 (0, 0))) := lhd ((hbAZ.block gm (Array.getElem?_eq_some_iff.1 HRM.out).1).trans HRM.out)
      have HBZ := lhd (HB.out.trans (hbAZ.mono HB.out.size))
      have HWZ : Hid (wA.alloc (.cells (pktC p (.slice aD p.data.length cD)) 63) = wZ) := lhd hwZ.symm
      obtain ⟨q0, q1, q7⟩ := HCQ.out wZ HBZ.out
      have cL := HDL.out wZ HBZ.out
      generalize p.data.length = dl at *
      clear hbA hbZ hwZ hbAZ cB
      go_upto_region 15 with ((with_reducible show wpList _ _ _ (⟨none, _, _, _, _, _⟩ :: _) _ _); refine zAf (pktC p (.slice aD dl cD)) rfl 63 (.tmp 13) (.tmp 74) rfl rfl rfl (by kernel_rfl) (by rfl) (by kernel_rfl) ?_)
      rw [HWZ.out, ← hgp]
      clear hgp
      rcases hway with ⟨hj0, hTm, hpe⟩ | ⟨k0, j0, y, hk0, hst, hpe, hcj⟩
      · subst hpe
        subst hj0
        have p0 : wZ.cell? ⟨gp, 0, none⟩ = some (.int .i64 2) := zAa HPZ.out rfl
        have p1 : wZ.cell? ⟨gp, 1, none⟩ = some (.int .i64 (S.ses : Int)) := zAa HPZ.out rfl
        have p2 : wZ.cell? ⟨gp, 2, none⟩ = some (.int .i64 0) := zAa HPZ.out rfl
        have p3 : wZ.cell? ⟨gp, 3, none⟩ = some (.int .i64 (T : Int)) := zAa HPZ.out rfl
        have hl0 : ((annP S T).layer.toNat : Int) = 0 := rfl
        rw [hl0] at cL
        have cL' : wZ.cell? ⟨bd, od, none⟩ = some (.int .i64 0) := by simpa using cL
        have e2 : decide ((G : Int) ≤ 0) = false := decide_eq_false (by omega)
        have m1 : (T : Int).tmod (S.every : Int) = 0 := by have := Int.ofNat_tmod T S.every; rw [hTm] at this; exact this.symm
        have m2 : (T : Int) % (S.every : Int) = 0 := by have := Int.natCast_emod T S.every; rw [hTm] at this; exact this.symm
        have hevn : ((S.every : Int) == 0) = false := by simp; omega
        have hevn2 : ¬ (S.every : Int) = 0 := by omega
        have hevn3 : ¬ S.every = 0 := by omega
        have H23 : Hid (∀ k, cntD k (PL.take (0 + 1)) = cntD k (PL.take 0)) := lhd fun k => by rw [HCS.out, yAF]; rfl
        clear hTm cL
        go_quiet (fail)
        generalize hwY : World.drewN _ _ = wY
        have HHY : Hid (wY.heap = wZ.heap) := lhd (by rw [← hwY]; rfl)
        have HBY : Hid (Below wZ.heap.size wZ wY) := lhd (by rw [← hwY]; exact zDe (Below.refl _ _) _)
        have HPY := lhd (HPZ.out.mono HBY.out)
        have HBYY := lhd (HBZ.out.trans (HBY.out.mono HBZ.out.size))
        clear p0 p1 p2 p3 q0 q1 q7 hwY
        obtain ⟨q0, q1, q7⟩ := HCQ.out wY HBYY.out
        have p0 : wY.cell? ⟨gp, 0, none⟩ = some (.int .i64 2) := zAa HPY.out rfl
        go_wp2_with fail
        go_roundw
        case rel => exact ⟨1, by omega, by go_num, by simp only [H23.out] at *; rw [HHY.out]; exact HRNZ.out, by simp only [H23.out] at *; rw [HHY.out]; exact HRMZ.out, HBYY.out⟩
        case measure => simp [intOf]; omega
      · subst hpe
        have hkm := HMB.out k0 hk0
        have hj0 : j0 < manyS S T k0 := by
          have := (List.getElem?_eq_some_iff.1 hst).1
          rw [zCU] at this
          exact this
        have HCN : Hid (cntD k0 (PL.take (j + 1)) = j0 + 1) := lhd (by rw [HCS.out, hcj, yAs]; simp)
        have HCO : Hid (∀ k, k ≠ k0 → cntD k (PL.take (j + 1)) = cntD k (PL.take j)) := lhd fun k hk => by
          rw [HCS.out, yAs]
          simp [Ne.symm hk]
        have hcN : wZ.cell? ⟨gn, k0, none⟩ = some (.int .i64 (j0 : Int)) := zAa HRNZ.out (by rw [yAm hk0, hcj])
        have hl0 : ((sdP S T k0 (manyS S T k0) j0 y.2 y.1).layer.toNat : Int) = (k0 : Int) := rfl
        rw [hl0] at cL
        have HCM : Hid (wZ.cell? ⟨gm, k0, none⟩ = some (.int .i64 ((if cntD k0 (PL.take j) = 0 then 0 else manyS S T k0 : Nat) : Int))) := lhd (zAa HRMZ.out (yAm hk0))
        obtain ⟨M, hM⟩ : ∃ M, M = manyS S T k0 := ⟨_, rfl⟩
        have HMM := lhd hM
        have p0 : wZ.cell? ⟨gp, 0, none⟩ = some (.int .i64 1) := zAa HPZ.out rfl
        have p1 : wZ.cell? ⟨gp, 1, none⟩ = some (.int .i64 (S.ses : Int)) := zAa HPZ.out rfl
        have p2 : wZ.cell? ⟨gp, 2, none⟩ = some (.int .i64 (k0 : Int)) := zAa HPZ.out rfl
        have p3 : wZ.cell? ⟨gp, 3, none⟩ = some (.int .i64 (T : Int)) := zAa HPZ.out rfl
        have e2 : decide ((G : Int) ≤ (k0 : Int)) = false := decide_eq_false (by omega)
        rw [← hM] at hkm hj0
        clear hst hl0 hM hcj
        go_quiet (fail)
        generalize hwY : World.drewN _ _ = wY
        have HHY : Hid (wY.heap = wZ.heap) := lhd (by rw [← hwY]; rfl)
        have HBY : Hid (Below wZ.heap.size wZ wY) := lhd (by rw [← hwY]; exact zDe (Below.refl _ _) _)
        have HPY := lhd (HPZ.out.mono HBY.out)
        have HBYY := lhd (HBZ.out.trans (HBY.out.mono HBZ.out.size))
        clear p0 p1 p2 p3 q0 q1 q7 cL hwY
        have p0 : wY.cell? ⟨gp, 0, none⟩ = some (.int .i64 1) := zAa HPY.out rfl
        have p2 : wY.cell? ⟨gp, 2, none⟩ = some (.int .i64 (k0 : Int)) := zAa HPY.out rfl
        have p7 : wY.cell? ⟨gp, 7, none⟩ = some (.int .i64 (j0 : Int)) := zAa HPY.out rfl
        have hcN2 : wY.cell? ⟨gn, k0, none⟩ = some (.int .i64 (j0 : Int)) := (World.cell?_of_block (w := wZ) (w' := wY) (a := ⟨gn, k0, none⟩) (by rw [HHY.out])).trans hcN
        clear hcN
        go_wp2_with fail
        go_quiet (fail)
        generalize hwV : World.drewN _ _ = wV
        have HHV : Hid (wV.heap = wZ.heap) := lhd (by rw [← hwV]; exact HHY.out)
        have HBV : Hid (Below wZ.heap.size wZ wV) := lhd (by rw [← hwV]; exact zDe HBY.out _)
        have HPV := lhd (HPZ.out.mono HBV.out)
        have HBVV := lhd (HBZ.out.trans (HBV.out.mono HBZ.out.size))
        clear p0 p2 p7 hwV hcN2
        have p2 : wV.cell? ⟨gp, 2, none⟩ = some (.int .i64 (k0 : Int)) := zAa HPV.out rfl
        have p6 : wV.cell? ⟨gp, 6, none⟩ = some (.int .i64 (M : Int)) := by rw [HMM.out]; exact zAa HPV.out rfl
        have hrnV : wV.heap[gn]? = some (.cells (rowF G fun k => cntD k (PL.take j)).toArray 3 (0, 0)) := by rw [HHV.out]; exact HRNZ.out
        have hrmV : wV.heap[gm]? = some (.cells (rowF G fun k => if cntD k (PL.take j) = 0 then 0 else manyS S T k).toArray 3 (0, 0)) := by rw [HHV.out]; exact HRMZ.out
        have cN : wV.cell? ⟨gn, k0, none⟩ = some (.int .i64 (j0 : Int)) := zAa hrnV (by rw [yAm hk0]; have := HCN.out; rw [HCS.out, yAs] at this; simp at this; rw [this])
        have fN := zAb (j := k0) hrnV
        have cM : wV.cell? ⟨gm, k0, none⟩ = some (.int .i64 ((if cntD k0 (PL.take j) = 0 then 0 else manyS S T k0 : Nat) : Int)) := zAa hrmV (yAm hk0)
        have fM := zAb (j := k0) hrmV
        have HRNV := lhd hrnV
        have HRMV := lhd hrmV
        generalize (if cntD k0 (PL.take j) = 0 then 0 else manyS S T k0) = oldM at *
        have hnm := HGG.out.2.2
        have hnm2 : gm ≠ gn := fun h => hnm h.symm
        have hne1 : gp ≠ gn := fun e => by
          have h1 := HPZ.out
          unfold PktBox at h1
          rw [e, HRNZ.out] at h1
          simp at h1
        have hne2 : gp ≠ gm := fun e => by
          have h1 := HPZ.out
          unfold PktBox at h1
          rw [e, HRMZ.out] at h1
          simp at h1
        have hne3 : gn ≠ gp := fun h => hne1 h.symm
        have hne4 : gm ≠ gp := fun h => hne2 h.symm
        clear hrnV hrmV
        go_wp2_with fail
        go_roundw
        case rel =>
          refine ⟨j + 1, by omega, by go_num, ?_, ?_, ?_⟩
          · rw [Below.heap_setCell _ _ _ _ (by show gn ≠ gm; exact hnm), zAc HRNV.out]
            rw [show (j0 : Int) + 1 = ((j0 + 1 : Nat) : Int) by omega, yA8 G _ (fun k => cntD k (PL.take (j + 1))) k0 (j0 + 1) HCN.out (fun k hk => HCO.out k hk)]
          · rw [zAc (by rw [Below.heap_setCell _ _ _ _ (by show gm ≠ gn; exact hnm2)]; exact HRMV.out)]
            rw [yA8 G _ (fun k => if cntD k (PL.take (j + 1)) = 0 then 0 else manyS S T k) k0 M (by
              show (if cntD k0 (PL.take (j + 1)) = 0 then 0 else manyS S T k0) = M
              rw [HCN.out, if_neg (Nat.succ_ne_zero _), HMM.out]) (fun k hk => by
              show (if cntD k (PL.take (j + 1)) = 0 then 0 else manyS S T k) = _
              rw [HCO.out k hk])]
          · exact (HBVV.out.setCell (p := ⟨gn, k0, none⟩) HGG.out.1 _).setCell (p := ⟨gm, k0, none⟩) HGG.out.2.1 _
        case measure => simp [intOf]; omega
    · obtain rfl : j = ln := by omega
      have e1 : decide ((j : Int) < (j : Int)) = false := decide_eq_false (by omega)
      have hall : PL.take j = PL := List.take_of_length_le (by rw [← HLE.out]; exact Nat.le_refl _)
      have HRNE : Hid (wr.heap[gn]? = some (.cells (rowF G (manyS S T)).toArray 3 (0, 0))) := lhd (by
        rw [hrn, yAx (f' := manyS S T) fun k hk => by rw [hall, HPC.out, if_pos hk]])
      have HRME : Hid (wr.heap[gm]? = some (.cells (rowF G (manyS S T)).toArray 3 (0, 0))) := lhd (by
        rw [hrm, yAx (f' := manyS S T) fun k hk => by rw [hall, HPC.out, if_pos hk, if_neg (by have := (HMB.out k hk).1; omega)]])
      obtain ⟨wo, hwo⟩ : ∃ wo, wo = wr := ⟨_, rfl⟩
      subst hwo
      have HB0' := lhd (Below.refl wo.heap.size wo)
      clear hrn hrm hbel hall
      go_wp2_with fail
      go_loopw [15] (fun i wr => ∃ k : Nat, k ≤ G ∧ i = .int .i64 (k : Int) ∧ Below wo.heap.size wo wr) (fun i _ => G - (intOf i).toNat)
      case atStart => exact ⟨0, Nat.zero_le _, rfl, HB0'.out⟩
      case round =>
        obtain ⟨k, hk, rfl, hbel⟩ := hrel
        have HBR := lhd hbel
        have HBW := lhd (HB.out.trans (hbel.mono HB.out.size))
        have q1 := (HCQ.out wr HBW.out).2.1
        by_cases hlt : k < G
        · have e2 : decide ((k : Int) < (G : Int)) = true := decide_eq_true (by omega)
          have cN : wr.cell? ⟨gn, k, none⟩ = some (.int .i64 (manyS S T k : Int)) := zAa ((hbel.block gn (Array.getElem?_eq_some_iff.1 HRNE.out).1).trans HRNE.out) (yAm hlt)
          have cM : wr.cell? ⟨gm, k, none⟩ = some (.int .i64 (manyS S T k : Int)) := zAa ((hbel.block gm (Array.getElem?_eq_some_iff.1 HRME.out).1).trans HRME.out) (yAm hlt)
          have hm1 := HMB.out k hlt
          generalize manyS S T k = M at *
          have hM0 : ((M : Int) == 0) = false := by simp; omega
          have hM1 : ¬ (M : Int) = 0 := by omega
          have hM2 : ¬ M = 0 := by omega
          clear hbel
          go_wp2_with fail
          go_quiet (fail)
          go_wp2_with fail
          go_roundw
          case rel => exact ⟨k + 1, by omega, by go_num, zDe HBR.out _⟩
          case measure => simp [intOf]; omega
        · obtain rfl : k = G := by omega
          have e2 : decide ((k : Int) < (k : Int)) = false := decide_eq_false (by omega)
          have HBF := lhd (HB7.out.trans (HBW.out.mono HB7.out.size))
          clear hbel
          go_wp2_with fail
          with_reducible refine (HAW.out _ HBF.out).mono ?_
          rintro e wF ⟨rfl, hbF⟩
          have HBG := lhd (HBF.out.trans (hbF.mono HBF.out.size))
          clear hbF
          go_wp2
          go_ret
          exact ⟨rfl, HBG.out⟩
end
end Go.Proofs.YtkfimdpcadbcpaaGreatDoor
