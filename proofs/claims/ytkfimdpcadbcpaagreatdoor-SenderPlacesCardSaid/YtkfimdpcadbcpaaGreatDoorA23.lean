import Derived.Test.YtkfimdpcadbcpaaGreatDoorA22
import Derived.Test.YtkfimdpcadbcpaaGreatDoorA07
import Derived.Test.YtkfimdpcadbcpaaGreatDoorA17
import Derived.Test.YtkfimdpcadbcpaaGreatDoorA14
import Derived.Test.YtkfimdpcadbcpaaGreatDoorA09
import Derived.Test.YtkfimdpcadbcpaaGreatDoorA12
import Derived.Test.YtkfimdpcadbcpaaGreatDoorA18
import Derived.Test.YtkfimdpcadbcpaaGreatDoorA08
import Derived.Test.YtkfimdpcadbcpaaGreatDoorA13
import Derived.Test.YtkfimdpcadbcpaaGreatDoorA03
import Derived.Test.YtkfimdpcadbcpaaGreatDoorA01
set_option linter.unusedSimpArgs false
set_option linter.unusedVariables false
set_option maxRecDepth 1000000
set_option maxHeartbeats 8000000
namespace Go.Proofs.YtkfimdpcadbcpaaGreatDoor
section
open Go.RowKit Go.Extern.Stop Go.Stop Go.Extern
def nameEnSym : ByteArray := ⟨#[101, 110, 99, 111, 100, 101, 46, 83, 121, 109, 98, 111, 108]⟩
def EncBox (W : World) (g : Nat) (k s h l p sd size : Int) (vm : Value) : Prop :=
  W.heap[g]? = some (.cells #[.int .i64 k, .int .i64 s, .int .i64 h, .int .i64 l, .int .i64 p, .int .i64 sd, .int .i64 size, vm] 178 (0, 0))
section
variable {W W' : World} {g : Nat} {k s h l p sd size : Int} {vm : Value}
theorem EncBox.lt (b : EncBox W g k s h l p sd size vm) : g < W.heap.size := (Array.getElem?_eq_some_iff.1 b).1
theorem EncBox.mono (b : EncBox W g k s h l p sd size vm) (hb : Below W.heap.size W W') : EncBox W' g k s h l p sd size vm := (hb.block g b.lt).trans b
theorem EncBox.cells (b : EncBox W g k s h l p sd size vm) :
    W.cell? ⟨g, 0, none⟩ = some (.int .i64 k) ∧ W.cell? ⟨g, 1, none⟩ = some (.int .i64 s) ∧ W.cell? ⟨g, 2, none⟩ = some (.int .i64 h) ∧ W.cell? ⟨g, 3, none⟩ = some (.int .i64 l) ∧ W.cell? ⟨g, 4, none⟩ = some (.int .i64 p) ∧
      W.cell? ⟨g, 5, none⟩ = some (.int .i64 sd) ∧ W.cell? ⟨g, 6, none⟩ = some (.int .i64 size) ∧ W.cell? ⟨g, 7, none⟩ = some vm :=
  ⟨zAa b rfl, zAa b rfl, zAa b rfl, zAa b rfl, zAa b rfl, zAa b rfl, zAa b rfl, zAa b rfl⟩
end
structure EncAt (w : World) (B g k s h l p sd size : Nat) (vm : Value) (V M : List (List Nat)) : Prop where
  box : EncBox w g k s h l p sd size vm
  mid : MatFresh byteV 5 B 31 w vm V
  ge : B ≤ g
  of : OfP k s h l p
  seed : IsSeed k s h l p sd
  k1 : 1 ≤ k
  k2 : k ≤ 128
  z1 : 1 ≤ size
  z2 : size ≤ 64
  tells : Tells l size (sysE k s h l p sd size (fun t => M.getD t []) k) V
  cons : Cons l (sysE k s h l p sd size (fun t => M.getD t []) k)
section
variable {w w' : World} {B g k s h l p sd size : Nat} {vm : Value} {V M : List (List Nat)}
theorem EncAt.mono (e : EncAt w B g k s h l p sd size vm V M) (hb : Below w.heap.size w w') : EncAt w' B g k s h l p sd size vm V M :=
  ⟨e.box.mono hb, e.mid.mono hb, e.ge, e.of, e.seed, e.k1, e.k2, e.z1, e.z2, e.tells, e.cons⟩
theorem EncAt.far (e : EncAt w B g k s h l p sd size vm V M) (hs : ∀ x, B ≤ x → x < w.heap.size → w'.heap[x]? = w.heap[x]?) : EncAt w' B g k s h l p sd size vm V M :=
  ⟨(hs g e.ge e.box.lt).trans e.box, e.mid.far hs, e.ge, e.of, e.seed, e.k1, e.k2, e.z1, e.z2, e.tells, e.cons⟩
end
theorem zLI {w : World} (k size : Nat) (v : Value) (M : List (List Nat)) (hv : MatAt byteV w v M) (hk : M.length = k) (hk1 : 1 ≤ k) (hk2 : k ≤ 128) (hz1 : 1 ≤ size) (hz2 : size ≤ 64) (ho : ∀ r ∈ M, r.length = size ∧ Octets r) (hT : DgTab w) (hB : Tab w) :
    Calls Tryz.prog 58 #[v, .int .i64 (size : Int)] w fun e w' => ∃ g s h l p sd vm V, e = .returned (.tuple #[.pointer (some ⟨g, 0, none⟩), .nilIface]) ∧ EncAt w' w.heap.size g k s h l p sd size vm V M ∧ Below w.heap.size w w' := by
  have HT := lhd hT
  have HBT := lhd hB
  have HV := lhd hv
  have HK := lhd hk
  have HO := lhd ho
  obtain ⟨av, cv, rfl, -, -, -⟩ := hv.opens
  rw [hk] at HV ⊢
  clear hT hB hv hk ho
  go_enter Tryz.func58, Tryz.ntmps58
  go_wp2_with fail
  refine (Of_in k hk1 hk2).mono ?_
  rintro e w1 ⟨s, h, l, p, rfl, hof, hb1⟩
  have HOF := lhd hof
  obtain ⟨W, hW, hbW, hby⟩ := zAi w1 k s h l p
  have HW := lhd hW
  have HB1 := lhd (hb1.trans (hbW.mono hb1.size))
  have HX1 := lhd hby
  have HSE := lhd (zMW (w := W) k hk1 hk2 (PairsAt.mono HT.out HB1.out) (HBT.out.mono HB1.out))
  clear hof hW hbW hby hb1
  unfold parV parC
  go_upto_region 2 with fail
  rw [← HW.out]
  obtain ⟨g1, hg1⟩ : ∃ g1, w1.heap.size = g1 := ⟨_, rfl⟩
  rw [hg1] at HX1 ⊢
  clear hg1
  obtain ⟨c0, c1, c2, c3, c4⟩ := HX1.out.cells
  go_wp2_with fail
  refine HSE.out.mono ?_
  rintro e w2 ⟨s', h', l', p', sd, rfl, hof, hsd, hb2⟩
  obtain ⟨rfl, rfl, rfl, rfl⟩ := hof.unique HOF.out
  have HSD := lhd hsd
  have HX2 := lhd (HX1.out.mono hb2)
  have HB2 := lhd (HB1.out.trans (hb2.mono HB1.out.size))
  have HMI := lhd (zFU (w := w2) k s' h' l' p' sd size _ M HOF.out hk1 hk2 hsd.1 hz1 hz2 (HV.out.mono HB2.out) HK.out HO.out (PairsAt.mono HT.out HB2.out) (HBT.out.mono HB2.out) hsd.2.1)
  unfold parV parC at HMI
  clear hof hsd hb2 c0 c1 c2 c3 c4
  obtain ⟨c0, c1, c2, c3, c4⟩ := HX2.out.cells
  go_wp2_with fail
  refine HMI.out.mono ?_
  rintro e w3 ⟨vm, V, rfl, hm3, ht3, hc3, hb3⟩
  have HX3 := lhd (HX2.out.mono hb3)
  have HB3 := lhd (HB2.out.trans (hb3.mono HB2.out.size))
  have HM3 := lhd (hm3.below HB2.out.size)
  have HT3 := lhd ht3
  have HC3 := lhd hc3
  obtain ⟨am, cm, rfl, -, -, -⟩ := hm3.own.at.opens
  rw [ht3.1] at HM3 ⊢
  clear hm3 ht3 hc3 hb3 c0 c1 c2 c3 c4
  obtain ⟨c0, c1, c2, c3, c4⟩ := HX3.out.cells
  go_wp2
  go_ret2
  have hba : ∀ o : Obj, Below w3.heap.size w3 (w3.alloc o) := fun o => (Below.refl _ _).alloc (Nat.le_refl _) _
  exact ⟨w3.heap.size, s', h', l', p', sd, _, V, rfl, ⟨heap_alloc_new w3 _, HM3.out.mono (hba _), HB3.out.size, HOF.out, HSD.out, hk1, hk2, hz1, hz2, HT3.out, HC3.out⟩, HB3.out.trans ((hba _).mono HB3.out.size)⟩
end

section
open Go.RowKit Go.Extern.Stop Go.Stop Go.Extern
theorem zLN {w : World} {B g k s h l p sd size : Nat} {vm : Value} {V M : List (List Nat)} (he : EncAt w B g k s h l p sd size vm V M) (n : Nat) (hn : n < 65536) (hT : DgTab w) :
    Calls Tryz.prog 110 #[.pointer (some ⟨g, 0, none⟩), .int .i64 (n : Int)] w fun e w' => ∃ v', e = .returned (.tuple #[v', .nilIface]) ∧ w'.ownsRow w.heap.size 5 1 v' size ((symE l p sd size V n).map byteV) ∧ Below w.heap.size w w' := by
  obtain ⟨i0, hi0, hz0, hz1, hz2⟩ := info_parts zB5
  have HE := lhd he
  have hbd : Below w.heap.size w w.drew := (Below.refl _ _).drew
  have HBD := lhd hbd
  have HRW : Hid (Calls Tryz.prog 149 #[.agg #[.int .i64 (k : Int), .int .i64 (s : Int), .int .i64 (h : Int), .int .i64 (l : Int), .int .i64 (p : Int)], .int .i64 (sd : Int), .int .i64 (n : Int)] w.drew fun e w' => ∃ v', e = .returned (.tuple #[v', .nilIface]) ∧ ListAt colV w' v' (rowE l p sd n) ∧ Below w.heap.size w w') := lhd (by
    refine (zMd k s h l p sd n he.of he.k1 he.k2 he.seed.1 hn (PairsAt.mono hT hbd)).mono ?_
    rintro e w' ⟨v', W, rfl, htr, hl, hb⟩
    refine ⟨v', rfl, ?_, hbd.trans (hb.mono hbd.size)⟩
    unfold rowE
    rw [zEk htr]
    exact zHK hl)
  obtain ⟨c0, c1, c2, c3, c4, c5, c6, c7⟩ := he.box.cells
  have hlt := he.box.lt
  have HSAT : Hid (∀ V, Below w.heap.size w V → V.cell? ⟨g, 0, none⟩ = some (.int .i64 (k : Int)) ∧ V.cell? ⟨g, 1, none⟩ = some (.int .i64 (s : Int)) ∧ V.cell? ⟨g, 2, none⟩ = some (.int .i64 (h : Int)) ∧ V.cell? ⟨g, 3, none⟩ = some (.int .i64 (l : Int)) ∧ V.cell? ⟨g, 4, none⟩ = some (.int .i64 (p : Int)) ∧ V.cell? ⟨g, 5, none⟩ = some (.int .i64 (sd : Int))) := lhd fun V hV => ⟨(hV.cell (p := ⟨g, 0, none⟩) hlt).trans c0, (hV.cell (p := ⟨g, 1, none⟩) hlt).trans c1, (hV.cell (p := ⟨g, 2, none⟩) hlt).trans c2, (hV.cell (p := ⟨g, 3, none⟩) hlt).trans c3, (hV.cell (p := ⟨g, 4, none⟩) hlt).trans c4, (hV.cell (p := ⟨g, 5, none⟩) hlt).trans c5⟩
  have HSD : Hid (w.drew.cell? ⟨g, 0, none⟩ = some (.int .i64 (k : Int)) ∧ w.drew.cell? ⟨g, 1, none⟩ = some (.int .i64 (s : Int)) ∧ w.drew.cell? ⟨g, 2, none⟩ = some (.int .i64 (h : Int)) ∧ w.drew.cell? ⟨g, 3, none⟩ = some (.int .i64 (l : Int)) ∧ w.drew.cell? ⟨g, 4, none⟩ = some (.int .i64 (p : Int)) ∧ w.drew.cell? ⟨g, 5, none⟩ = some (.int .i64 (sd : Int))) := lhd ⟨c0, c1, c2, c3, c4, c5⟩
  have hll := (OfP.bounds he.of he.k1 he.k2).2.2.2.2.1
  obtain ⟨vs, hvs, hvl, hel⟩ := id he.mid.own.at
  rw [he.tells.1] at hvl
  have HVS := lhd hvs
  have HEL := lhd hel
  have HLT : Hid (∀ c ∈ rowE l p sd n, c < l) := lhd zCr
  have HRL := lhd (zLE l p sd n)
  have HVV := lhd he.tells
  have HZ := lhd (show 1 ≤ size ∧ size ≤ 64 from ⟨he.z1, he.z2⟩)
  obtain ⟨am, cm, rfl, -, -, hmc⟩ := hvs
  have HMC : Hid (0 < l → ∃ b off, am = some ⟨b, off, none⟩ ∧ ∀ j, j < l → w.cell? ⟨b, off + j, none⟩ = some (vs.getD j nilS)) := lhd fun hp => by
    obtain ⟨b, off, e, hc⟩ := hmc (by omega)
    refine ⟨b, off, e, fun j hj => ?_⟩
    have hj' : j < vs.length := by omega
    rw [hc j hj']
    simp [List.getD_eq_getElem?_getD, hj']
  rw [hvl] at HVS c7 HE
  clear he hbd hel hmc
  go_enter Tryz.func110, Tryz.ntmps110
  go_upto_region 3 with fail
  go_region_held3 (fun w' => w'.cell? ⟨g, 0, none⟩ = some (.int .i64 (k : Int)) ∧ w'.cell? ⟨g, 1, none⟩ = some (.int .i64 (s : Int)) ∧ w'.cell? ⟨g, 2, none⟩ = some (.int .i64 (h : Int)) ∧ w'.cell? ⟨g, 3, none⟩ = some (.int .i64 (l : Int)) ∧ w'.cell? ⟨g, 4, none⟩ = some (.int .i64 (p : Int)) ∧ w'.cell? ⟨g, 5, none⟩ = some (.int .i64 (sd : Int)))
    (first | exact HSD.out | exact HSAT.out _ HB3.out | go_keep)
    (first
    | (go_at_call 149; (with_reducible refine HRW.out.mono ?_); rintro e w3 ⟨v3, rfl, hl3, hb3⟩; have HL3 := lhd hl3; have HB3 := lhd hb3; clear hl3 hb3))
  all_goals
    obtain ⟨q, hq⟩ : ∃ q, (rowE l p sd n).length = q := ⟨_, rfl⟩
    have HQ := lhd hq
    have HSY : Hid (symE l p sd size V n = sumS size ((rowE l p sd n).map fun c => V.getD c [])) := lhd rfl
    have hql : q ≤ l := by rw [← hq]; exact HRL.out
    generalize rowE l p sd n = R at *
    obtain ⟨ap, cp, rfl, hpc, -, hpcell⟩ := HL3.out
    have HPC := lhd hpcell
    rw [hq] at hpc ⊢
    have hz3 := HB3.out.size
    clear c0 c1 c2 c3 c4 c5 c6 c7 hpcell hq
    go_wp2_with (at_make; refine wpList_make_full _ rfl _ _ 96 rfl w.heap.size 31 i0 (.slice none 0 0) 1 Tryz.underlying96 hi0 hz0 hz1 .i64 .i64 _ _ q rfl rfl rfl rfl (by rw [hz2]; omega) (by unfold maxLen; omega) hz3 ?_; intro w4 hown0 hgrow0; have HB34 := lhd ((Below.refl w3.heap.size w3).grown hgrow0 (Nat.le_refl _) (fun k hk => by cases hk)); have HO4 : Hid (w4.ownsRow w.heap.size 31 1 (.slice (some ⟨w3.heap.size, 0, none⟩) q q) q (fillTo (fun j => vs.getD (R.getD j 0) nilS) nilS q 0)) := lhd (by rw [zBI]; rw [Nat.mul_one] at hown0; exact toList_madeCells_one (.slice none 0 0) q ▸ hown0); clear hown0 hgrow0)
    go_loopw [37] (fun i wr => ∃ j : Nat, j ≤ q ∧ i = .int .i64 j ∧ wr.ownsRow w.heap.size 31 1 (.slice (some ⟨w3.heap.size, 0, none⟩) q q) q (fillTo (fun j => vs.getD (R.getD j 0) nilS) nilS q j) ∧ Below w3.heap.size w3 wr) (fun i _ => q - (intOf i).toNat)
    case atStart => exact ⟨0, Nat.zero_le _, rfl, HO4.out, HB34.out⟩
    case round =>
      obtain ⟨j, hj, rfl, hown, hbel⟩ := hrel
      have HO := lhd hown
      have HBR := lhd hbel
      have hbw := HB3.out.trans (hbel.mono hz3)
      obtain ⟨-, -, -, -, -, -, d6, d7⟩ := (HE.out.mono hbw).box.cells
      by_cases hjq : j < q
      · obtain ⟨bp, op, rfl, hpc2⟩ := HPC.out (by rw [HQ.out]; omega)
        have hjR : j < R.length := by rw [HQ.out]; exact hjq
        have hp3 := hpc2 j hjR
        have hp4 : wr.cell? ⟨bp, op + j, none⟩ = some (.int .i64 ((R.getD j 0 : Nat) : Int)) := by
          rw [hbel.cell (p := ⟨bp, op + j, none⟩) (World.block_lt_of_cell? w3 _ hp3), hp3]
          simp [colV, List.getD_eq_getElem?_getD, hjR]
        have hcl : R.getD j 0 < l := HLT.out _ (by
          rw [List.getD_eq_getElem?_getD, List.getElem?_eq_getElem hjR]
          exact List.getElem_mem hjR)
        obtain ⟨bm, om, rfl, hmc2⟩ := HMC.out (by omega)
        have hm3 := hmc2 _ hcl
        have hm4 := (hbw.cell (p := ⟨bm, om + R.getD j 0, none⟩) (World.block_lt_of_cell? w _ hm3)).trans hm3
        have hst := zCm (fun j => vs.getD (R.getD j 0) nilS) nilS q j
        have HS := lhd hst
        obtain ⟨xa, xc, hxe, -, -, -⟩ := HEL.out (R.getD j 0)
        have HXE := lhd hxe
        rw [hxe] at hm4
        have hy3 : ∃ y, wr.cell? ⟨w3.heap.size, j, none⟩ = some y := by
          have := hown.cellAt j (by omega)
          rw [this]
          exact ⟨_, List.getElem?_eq_getElem (by rw [zAI]; exact hjq)⟩
        obtain ⟨y, hy3⟩ := hy3
        have hy4 : wr.frozen? ⟨w3.heap.size, j, none⟩ = false := hown.frozenAt j
        clear hown hbel hbw hpc2 hp3 hmc2 hm3 hst hxe hjR
        generalize (V.getD (R.getD j 0) []).length = xl at *
        generalize R.getD j 0 = cx at *
        go_wp2_with fail
        go_roundw
        case rel => exact ⟨j + 1, by omega, by go_num, by rw [← HS.out, HXE.out]; exact (HO.out.stored j _).1, HBR.out.setCell (p := ⟨w3.heap.size, j, none⟩) (Nat.le_refl _) _⟩
        case measure => simp [intOf]; omega
      · obtain rfl : j = q := by omega
        have HPM : Hid (MatAt byteV wr (.slice (some ⟨w3.heap.size, 0, none⟩) j j) (R.map fun c => V.getD c [])) := lhd (by
          exact zJO HQ.out (ListAt.of_owns (f := id) (base := w.heap.size) (e := 31) (n := j) (by rw [List.map_id]; exact hown)) fun i => (HEL.out i).mono hbw)
        have hvr : ∀ r ∈ R.map fun c => V.getD c [], r.length = size ∧ Octets r := fun r hr => by
          obtain ⟨c, hc, rfl⟩ := List.mem_map.1 hr
          have hcl := HLT.out c hc
          exact HVV.out.row _ (zAt (by rw [HVV.out.1]; exact hcl))
        have HSU := lhd (zN5 _ _ size HPM.out HZ.out.1 HZ.out.2 (fun r hr => (hvr r hr).1) (fun r hr => (hvr r hr).2))
        have HBW := lhd hbw
        clear hown hbel hbw hvr
        go_wp2_with fail
        refine HSU.out.mono ?_
        rintro e w5 ⟨v5, rfl, ho5, hb5⟩
        have HO5 := lhd ho5
        have HB5 := lhd (HBW.out.trans (hb5.mono HBW.out.size))
        have hz5 := HBW.out.size
        obtain ⟨a5, c5, rfl, -, -⟩ := zAe ho5
        clear ho5 hb5 d6 d7
        go_wp2_with fail
        refine (zCe nameEnSym w5).mono ?_
        rintro e w6 ⟨rfl, rfl⟩
        go_wp2
        go_ret2
        exact ⟨_, rfl, by rw [HSY.out]; exact zAd HO5.out hz5, HB5.out⟩
end

section
open Go.RowKit Go.Extern.Stop Go.Stop Go.Extern
def SdBox (W : World) (g : Nat) (S : Snd) (L : Value) (t : Nat) : Prop := W.heap[g]? = some (.cells (rsC S L t) 91 (0, 0))
section
variable {W W' : World} {g : Nat} {S : Snd} {L : Value} {t : Nat}
theorem SdBox.lt (b : SdBox W g S L t) : g < W.heap.size := (Array.getElem?_eq_some_iff.1 b).1
theorem SdBox.mono (b : SdBox W g S L t) (hb : Below W.heap.size W W') : SdBox W' g S L t := (hb.block g b.lt).trans b
theorem SdBox.cells (b : SdBox W g S L t) : RsCells W g S L t :=
  ⟨zAa b rfl, zAa b rfl, zAa b rfl, zAa b rfl, zAa b rfl, zAa b rfl, zAa b rfl, zAa b rfl, zAa b rfl, zAa b rfl⟩
theorem SdBox.plan (b : SdBox W g S L t) : W.rangeAt g 8 [.int .i64 (S.size : Int), .int .i64 (S.b : Int), .int .i64 (S.blocks : Int), .int .i64 (S.long : Int), .int .i64 (S.short : Int)] := fun j v hj => by
  have h : (rsC S L t)[8 + j]? = some v := by
    match j, hj with
    | 0, hj => exact hj
    | 1, hj => exact hj
    | 2, hj => exact hj
    | 3, hj => exact hj
    | 4, hj => exact hj
    | j + 5, hj => simp at hj
  exact zAa b h
theorem SdBox.next (b : SdBox W g S L t) (t' : Nat) : SdBox (W.setCell ⟨g, 14, none⟩ (.int .i64 (t' : Int))) g S L t' := by
  unfold SdBox at *
  rw [zAc b]
  rfl
end
def EncsAt (w : World) (lo : Nat) (L : Value) (S : Snd) : Prop :=
  ∃ vs, w.ownsRow lo 128 1 L S.blocks vs ∧ ∀ i, i < S.blocks → ∃ (gi k s h l p sd : Nat) (vm : Value) (V M : List (List Nat)),
    vs[i]? = some (ptrAt gi) ∧ EncAt w lo gi k s h l p sd S.b vm V M ∧ ∀ e, S.sym i e = symE l p sd S.b V e
theorem zLO {w w' : World} {e : TypeId} {v : Value} {k n base : Nat} {xs : List Value} (h : w.ownsRow base e k v n xs) (hs : ∀ x, base ≤ x → x < w.heap.size → w'.heap[x]? = w.heap[x]?) : w'.ownsRow base e k v n xs := by
  refine ⟨h.1, ?_⟩
  rcases h.2 with h1 | ⟨g, cap, cur, h1, h2, h3, h4⟩
  · exact .inl h1
  · exact .inr ⟨g, cap, cur, h1, h2, by rw [hs g h2 (Array.getElem?_eq_some_iff.1 h3).1]; exact h3, h4⟩
theorem EncsAt.far {w w' : World} {lo : Nat} {L : Value} {S : Snd} (h : EncsAt w lo L S) (hs : ∀ x, lo ≤ x → x < w.heap.size → w'.heap[x]? = w.heap[x]?) : EncsAt w' lo L S := by
  obtain ⟨vs, h1, h2⟩ := h
  refine ⟨vs, zLO h1 hs, fun i hi => ?_⟩
  obtain ⟨gi, k, s, h, l, p, sd, vm, V, M, e1, e2, e3⟩ := h2 i hi
  exact ⟨gi, k, s, h, l, p, sd, vm, V, M, e1, e2.far hs, e3⟩
theorem EncsAt.mono {w w' : World} {lo : Nat} {L : Value} {S : Snd} (h : EncsAt w lo L S) (hb : Below w.heap.size w w') : EncsAt w' lo L S := h.far fun x _ hx => hb.block x hx
def SdAt : SndAt := fun w lo hi g S t => SndOk S ∧ t ≤ 1099511627775 ∧ lo ≤ g ∧ g < hi ∧ hi ≤ w.heap.size ∧
  ∃ (L : Value) (w0 : World), w0.heap.size ≤ g ∧ EncsAt w0 lo L S ∧ (∀ x, lo ≤ x → x < w0.heap.size → w.heap[x]? = w0.heap[x]?) ∧ SdBox w g S L t
theorem SdAt.far {w w' : World} {lo hi g : Nat} {S : Snd} {t : Nat} (h : SdAt w lo hi g S t) (hs : ∀ x, lo ≤ x → x < hi → w'.heap[x]? = w.heap[x]?) (hz : w.heap.size ≤ w'.heap.size) : SdAt w' lo hi g S t := by
  obtain ⟨h1, h2, h3, h4, h5, L, w0, k1, k2, k3, k4⟩ := h
  exact ⟨h1, h2, h3, h4, by omega, L, w0, k1, k2, fun x hx hx2 => (hs x hx (by omega)).trans (k3 x hx hx2), (hs g h3 h4).trans k4⟩
theorem SdAt.opens {w : World} {lo hi g : Nat} {S : Snd} {t : Nat} (h : SdAt w lo hi g S t) : ∃ L, EncsAt w lo L S ∧ SdBox w g S L t := by
  obtain ⟨-, -, -, -, -, L, w0, -, k2, k3, k4⟩ := h
  exact ⟨L, k2.far k3, k4⟩
theorem SdAt.next {w w' : World} {lo hi g : Nat} {S : Snd} {t : Nat} (h : SdAt w lo hi g S t) (hb : Below w.heap.size w w') (t' : Nat) (ht' : t' ≤ 1099511627775) :
    SdAt (w'.setCell ⟨g, 14, none⟩ (.int .i64 (t' : Int))) lo hi g S t' ∧ Fr lo hi w (w'.setCell ⟨g, 14, none⟩ (.int .i64 (t' : Int))) := by
  obtain ⟨h1, h2, h3, h4, h5, L, w0, k1, k2, k3, k4⟩ := h
  have hz := hb.size
  refine ⟨⟨h1, ht', h3, h4, by simp; omega, L, w0, k1, k2, fun x hx hx2 => ?_, (k4.mono hb).next t'⟩, (hb.mono (by omega)).setCell (p := ⟨g, 14, none⟩) h3 _, fun x hx hx2 => ?_⟩
  · rw [Below.heap_setCell _ _ _ x (by show x ≠ g; omega)]
    exact (hb.block x (by omega)).trans (k3 x hx hx2)
  · rw [Below.heap_setCell _ _ _ x (by show x ≠ g; omega)]
    exact hb.block x hx2
theorem DgElN.lower {C C' : Nat} {w : World} {cs : List Value} {x : Nat × List Nat} (h : DgElN C w cs x) (hC : C' ≤ C) : DgElN C' w cs x := by
  obtain ⟨D, e, h1, h2⟩ := h
  refine ⟨D, e, ⟨h1.1, fun hp b hb => ?_⟩, fun b hb => Nat.le_trans hC (h2 b hb)⟩
  rcases h1.2 hp b hb with h4 | h4
  · have := h2 b hb; omega
  · exact .inr h4
theorem zDQ {C C' B B' : Nat} {w : World} {v : Value} {L : List (Nat × List Nat)} (h : RecsOwn 2 DgElN C B 67 w v L) (hC : C' ≤ C) (hB : B' ≤ B) : RecsOwn 2 DgElN C' B' 67 w v L := by
  obtain ⟨cs, h1, h2⟩ := h
  exact ⟨cs, zAd h1 hB, h2.1, fun j x hj => (h2.2 j x hj).lower hC⟩
theorem zKx {s : Snd} (h : SndOk s) {t k j i e : Nat} (ht : t ≤ 1099511627775) (hk : k < s.g) (hj : j < manyS s t k) (hi : i < s.blocks) (he : e < s.n) : FitsP (sdP s t k (manyS s t k) j i e) := by
  have hm := h.many (t := t) hk
  have hg := h.g8
  have hses := h.ses
  have hsy := zBV s.base (t + 1) s.g
  have hb := h.b16
  have hn := h.n2
  have hs := h.sym i e hi
  refine ⟨?_, ?_, ?_, ?_, ?_, ?_, ?_, ?_, ?_, ?_, ?_, ?_, ?_, ?_, ?_, ?_, ?_, ?_, hs.2⟩
  all_goals simp only [sdP, I64]
  all_goals omega
theorem zJf {s : Snd} (h : SndOk s) {t : Nat} (ht : t ≤ 1099511627775) : FitsP (annP s t) := by
  have hp := h.pl
  have hs := hp.size_le
  have hg := h.g8
  have hses := h.ses
  have hn := h.n2
  have hb2 := h.base2
  have hu2 := h.u2
  have h2 := hp.b64
  have h3 := hp.n16
  have h4 := hp.lt
  have h5 := hp.q128
  refine ⟨?_, ?_, ?_, ?_, ?_, ?_, ?_, ?_, ?_, ?_, ?_, ?_, ?_, ?_, ?_, ?_, ?_, ?_, fun x hx => by cases hx⟩
  all_goals simp only [annP, I64]
  all_goals omega
def headP (s : Snd) (t : Nat) : Pkt := ⟨1, s.ses, 0, t, burstB s.base s.burst t, syncZ s.base (t + 1) s.g, 0, 0, 0, 0, [], 0, 0, 0, 0, 0, 0, 0, 0, 0⟩
def layH (s : Snd) (t k : Nat) : Pkt := { headP s t with layer := k }
def pgOf (p : Pkt) : Nat × List Nat := (p.layer.toNat, putP p)
end

section
open Go.RowKit Go.Extern.Stop Go.Stop Go.Extern
def nameWrCheck : ByteArray := ⟨#[119, 105, 114, 101, 46, 67, 104, 101, 99, 107]⟩
def nameWrPut : ByteArray := ⟨#[119, 105, 114, 101, 46, 80, 117, 116]⟩
def WrCheckC : Prop := ∀ (w : World) (p : Pkt) (D : Value), ListAt byteV w D p.data → FitsP p →
  Calls Tryz.prog 138 #[pktV p D] w fun e w' => ∃ E, e = .returned E ∧ ErrAns (ckN p) nameWrCheck w' E ∧ Below w.heap.size w w'
def WrPutC : Prop := ∀ (w : World) (p : Pkt) (D : Value), ListAt byteV w D p.data → FitsP p →
  Calls Tryz.prog 105 #[pktV p D] w fun e w' => Below w.heap.size w w' ∧
    ((ckN p ≠ 0 ∧ ∃ E, e = .returned (.tuple #[nilS, E]) ∧ ErrAns (ckN p) nameWrPut w' E) ∨
     (ckN p = 0 ∧ ∃ v', e = .returned (.tuple #[v', .nilIface]) ∧ w'.ownsRow w.heap.size 5 1 v' (putP p).length ((putP p).map byteV)))
end

section
open Go.RowKit Go.Extern.Stop Go.Stop Go.Extern
theorem zJ2 {w : World} {g : Nat} {S : Snd} {L : Value} {t : Nat} (h : SdBox w g S L t) : Calls Tryz.prog 22 #[.pointer (some ⟨g, 0, none⟩)] w fun e w' => e = .returned (.int .i64 (t : Int)) ∧ w = w' := by
  have c14 := h.cells.c14
  clear h
  go_enter Tryz.func22, Tryz.ntmps22
  go_wp2
  go_ret
  exact ⟨rfl, rfl⟩
theorem zNQ {w : World} : Calls Tryz.prog 22 #[.pointer none] w fun e w' => e = .returned (.int .i64 0) ∧ w = w' := by
  go_enter Tryz.func22, Tryz.ntmps22
  go_wp2
  go_ret
  exact ⟨rfl, rfl⟩
theorem zHk {w : World} : Calls Tryz.prog 20 #[.pointer none] w fun e w' => Below w.heap.size w w' ∧ ∃ E, e = .returned (.tuple #[nilS, E]) ∧ ErrAns 7 nameSnTick w' E := by
  go_enter Tryz.func20, Tryz.ntmps20
  go_wp2_with fail
  refine (zAH nameSnTick 7 (by decide) _).mono ?_
  rintro e w1 ⟨E, rfl, hea, hb1⟩
  have HEA := lhd hea
  have HB1 := lhd hb1
  obtain ⟨u, x, rfl⟩ := hea.some (by decide)
  clear hea hb1
  go_wp2
  go_ret2
  exact ⟨HB1.out, _, rfl, HEA.out⟩
theorem zHJ {w : World} (n : Int) : Calls Tryz.prog 18 #[.pointer none, .int .i64 n] w fun e w' => Below w.heap.size w w' ∧ ∃ E, e = .returned E ∧ ErrAns 7 nameSnSkip w' E := by
  go_enter Tryz.func18, Tryz.ntmps18
  go_wp2_with fail
  refine (zAH nameSnSkip 7 (by decide) _).mono ?_
  rintro e w1 ⟨E, rfl, hea, hb1⟩
  have HEA := lhd hea
  have HB1 := lhd hb1
  obtain ⟨u, x, rfl⟩ := hea.some (by decide)
  clear hea hb1
  go_wp2
  go_ret
  exact ⟨HB1.out, _, rfl, HEA.out⟩
theorem zHm {w : World} {g : Nat} {S : Snd} {L : Value} {t : Nat} (h : SdBox w g S L t) : Calls Tryz.prog 16 #[.pointer (some ⟨g, 0, none⟩)] w fun e w' => e = .returned (plV S.size S.b S.blocks S.long S.short) ∧ Below w.heap.size w w' := by
  obtain ⟨w1, hw1, hb1, hx1⟩ := zAv w 0 0 0 0 0
  have HW1 := lhd hw1
  have HB1 := lhd hb1
  have HP := lhd hx1
  have HPL := lhd (h.mono hb1).plan
  clear hw1 hb1 hx1 h
  go_enter Tryz.func16, Tryz.ntmps16
  go_upto_region 1 with fail
  rw [← HW1.out]
  go_wp2_with (first
    | ((with_reducible show wpList _ _ _ (⟨some 9, _, _, _, _, _⟩ :: _) _ _); refine wpList_load_mid rfl 37 (.tmp 8) rfl g 8 rfl _ _ HPL.out Tryz.underlying37 rfl (by kernel_rfl) ?_)
    | ((with_reducible show wpList _ _ _ (⟨none, _, _, _, _, _⟩ :: _) _ _); refine wpList_store_row rfl 37 (.tmp 2) (.tmp 9) rfl w.heap.size (plC S.size S.b S.blocks S.long S.short) rfl rfl 37 _ HP.out (by kernel_rfl) (by rfl) (by kernel_rfl) ?_))
  refine bodyPost_ret (zA2 rfl _ _ w.heap.size 37 _ (0, 0) _ rfl (setRow_heap _ _ _ _ _ _ HP.out) Tryz.underlying37 rfl (by kernel_rfl)) rfl ?_
  exact ⟨rfl, below_setRow HB1.out (Nat.le_refl _) _⟩
theorem zHe {w : World} : Calls Tryz.prog 16 #[.pointer none] w fun e w' => e = .returned (plV 0 0 0 0 0) ∧ Below w.heap.size w w' := by
  obtain ⟨w1, hw1, hb1, hx1⟩ := zAv w 0 0 0 0 0
  have HW1 := lhd hw1
  have HB1 := lhd hb1
  have HP := lhd hx1
  clear hw1 hb1 hx1
  go_enter Tryz.func16, Tryz.ntmps16
  go_upto_region 1 with fail
  rw [← HW1.out]
  go_wp2_with (first
    | ((with_reducible show wpList _ _ _ (⟨some 5, _, _, _, _, _⟩ :: _) _ _); refine zAk rfl 37 _ rfl (plC 0 0 0 0 0) (by kernel_rfl) ?_)
    | ((with_reducible show wpList _ _ _ (⟨none, _, _, _, _, _⟩ :: _) _ _); refine wpList_store_row rfl 37 (.tmp 2) (.tmp 5) rfl w.heap.size (plC 0 0 0 0 0) rfl rfl 37 _ HP.out (by kernel_rfl) (by rfl) (by kernel_rfl) ?_))
  refine bodyPost_ret (zA2 rfl _ _ w.heap.size 37 _ (0, 0) _ rfl (setRow_heap _ _ _ _ _ _ HP.out) Tryz.underlying37 rfl (by kernel_rfl)) rfl ?_
  exact ⟨rfl, below_setRow HB1.out (Nat.le_refl _) _⟩
def placeF (g : Nat) : Value := .func (.func 148) #[] #[.pointer (some ⟨g, 0, none⟩)]
theorem zL2 {w : World} : Calls Tryz.prog 109 #[] w fun e w' => e = .returned (placeF w.heap.size) ∧ w' = w.alloc (.cells #[.int .i64 0] 3) := by
  go_enter Tryz.func109, Tryz.ntmps109
  go_wp2
  go_ret
  exact ⟨rfl, rfl⟩
theorem zF4 {w : World} {g j : Nat} (h : w.heap[g]? = some (.cells #[.int .i64 (j : Int)] 3 (0, 0))) (hj : j ≤ 100000) :
    Calls Tryz.prog 148 #[.pointer (some ⟨g, 0, none⟩)] w fun e w' => e = .returned (.int .i64 (j : Int)) ∧ w' = w.setCell ⟨g, 0, none⟩ (.int .i64 ((j + 1 : Nat) : Int)) := by
  have c0 := zAa (j := 0) (u := .int .i64 (j : Int)) h rfl
  have f0 := zAb (j := 0) h
  have HJ : Hid ((j : Int) + 1 = ((j + 1 : Nat) : Int)) := lhd (by omega)
  clear h
  go_enter Tryz.func148, Tryz.ntmps148
  go_wp2
  go_ret
  rw [← HJ.out]
  exact ⟨rfl, rfl⟩
theorem zFd (hPut : WrPutC) {w : World} (p : Pkt) (D : Value) (hD : ListAt byteV w D p.data) (hf : FitsP p) (hc : ckN p = 0) :
    Calls Tryz.prog 67 #[.agg (pktC p D)] w fun e w' => ∃ v', e = .returned (.tuple #[.agg #[.int .i64 p.layer, v'], .nilIface]) ∧ w'.ownsRow w.heap.size 5 1 v' (putP p).length ((putP p).map byteV) ∧ Below w.heap.size w w' := by
  obtain ⟨w0, hw0, hb0, hx0⟩ := zAz w p D
  have hsz0 : w0.heap.size = w.heap.size + 1 := by rw [hw0]; exact World.size_alloc _ _
  obtain ⟨w1, hw1⟩ : ∃ W, W = w0.alloc (.cells #[.int .i64 0, .slice none 0 0] 67) := ⟨_, rfl⟩
  have hb1 : Below w0.heap.size w0 w1 := by rw [hw1]; exact (Below.refl _ _).alloc (Nat.le_refl _) _
  have HW0 := lhd hw0
  have HW1 := lhd hw1
  have HB1 := lhd (hb0.trans (hb1.mono hb0.size))
  have HX := lhd (hx0.mono hb1)
  have HR : Hid (w1.heap[w.heap.size + 1]? = some (.cells #[.int .i64 0, .slice none 0 0] 67 (0, 0))) := lhd (by rw [hw1, ← hsz0]; exact heap_alloc_new _ _)
  have HPU : Hid (Calls Tryz.prog 105 #[.agg (pktC p D)] w1 fun e w' => Below w1.heap.size w1 w' ∧
    ((ckN p ≠ 0 ∧ ∃ E, e = .returned (.tuple #[nilS, E]) ∧ ErrAns (ckN p) nameWrPut w' E) ∨
     (ckN p = 0 ∧ ∃ v', e = .returned (.tuple #[v', .nilIface]) ∧ w'.ownsRow w1.heap.size 5 1 v' (putP p).length ((putP p).map byteV)))) := lhd (hPut w1 p D (hD.mono (hb0.trans (hb1.mono hb0.size))) hf)
  have HSZ : Hid (w.heap.size + 1 < w1.heap.size) := lhd (by rw [hw1, World.size_alloc]; omega)
  have HCK := lhd hc
  unfold pktC at HW0
  clear hw0 hb0 hx0 hw1 hb1 hsz0 hD hf hc
  generalize (putP p).map byteV = Z at *
  go_enter Tryz.func67, Tryz.ntmps67
  unfold pktC
  go_upto_region 1 with fail
  rw [← HW0.out, ← HW1.out]
  go_wp2_with ((with_reducible show wpList _ _ _ (⟨some 7, _, _, _, _, _⟩ :: _) _ _); refine wpList_load_row rfl 63 (.tmp 1) rfl w.heap.size rfl 63 (pktC p D) (0, 0) _ HX.out Tryz.underlying63 rfl (by kernel_rfl) ?_)
  with_reducible refine HPU.out.mono ?_
  rintro e w2 ⟨hb2, ⟨h, -⟩ | ⟨-, v2, rfl, ho2⟩⟩
  · exact absurd HCK.out h
  have HB2 := lhd (HB1.out.trans (hb2.mono HB1.out.size))
  have c2 : w2.cell? ⟨w.heap.size, 2, none⟩ = some (.int .i64 p.layer) := zAa (HX.out.mono hb2) rfl
  have HR2 : Hid (w2.heap[w.heap.size + 1]? = some (.cells #[.int .i64 0, .slice none 0 0] 67 (0, 0))) := lhd ((hb2.block _ HSZ.out).trans HR.out)
  have HO2 := lhd (zAd ho2 HB1.out.size)
  obtain ⟨a2, cp2, hv2, -, -⟩ := zAe ho2
  have hown2 := lhd ho2
  subst hv2
  clear hb2 ho2
  go_wp2_with (first
    | ((with_reducible show wpList _ _ _ (⟨some 14, _, _, _, _, _⟩ :: _) _ _); refine zAk rfl 67 _ rfl #[.int .i64 p.layer, .slice a2 (putP p).length cp2] (by kernel_rfl) ?_)
    | ((with_reducible show wpList _ _ _ (⟨none, _, _, _, _, _⟩ :: _) _ _); refine wpList_store_row rfl 67 (.tmp 2) (.tmp 14) rfl (w.heap.size + 1) #[.int .i64 p.layer, .slice a2 (putP p).length cp2] rfl rfl 67 _ HR2.out (by kernel_rfl) (by rfl) (by kernel_rfl) ?_))
  refine bodyPost_ret (zAg rfl _ _ (w.heap.size + 1) 67 _ (0, 0) _ rfl (setRow_heap _ _ _ _ _ _ HR2.out) Tryz.underlying67 rfl (by kernel_rfl)) rfl ?_
  refine ⟨_, rfl, zAp HO2.out fun g cur hg => ?_, below_setRow HB2.out (Nat.le_succ _) _⟩
  exact setRow_other _ _ _ _ (by
    rintro rfl
    rw [HR2.out] at hg
    cases hg)
end

section
open Go.RowKit Go.Extern.Stop Go.Stop Go.Extern
def nameCaCheck : ByteArray := ⟨#[99, 97, 108, 101, 110, 100, 97, 114, 46, 67, 104, 101, 99, 107]⟩
def nameCaBurst : ByteArray := ⟨#[99, 97, 108, 101, 110, 100, 97, 114, 46, 66, 117, 114, 115, 116]⟩
def nameCaSync : ByteArray := ⟨#[99, 97, 108, 101, 110, 100, 97, 114, 46, 83, 121, 110, 99]⟩
def nameCaRow : ByteArray := ⟨#[99, 97, 108, 101, 110, 100, 97, 114, 46, 82, 111, 119]⟩
def CaCheckC : Prop := ∀ (w : World) (b u : Int), I64 b → I64 u → Calls Tryz.prog 52 #[.int .i64 b, .int .i64 u] w fun e w' => ∃ E, e = .returned E ∧ ErrAns (caN b u 0) nameCaCheck w' E ∧ Below w.heap.size w w'
def CaBurstC : Prop := ∀ (w : World) (b u t : Int), I64 b → I64 u → I64 t → Calls Tryz.prog 106 #[.int .i64 b, .int .i64 u, .int .i64 t] w fun e w' => Below w.heap.size w w' ∧
  ((¬ CaOk b u t ∧ ∃ E, e = .returned (.tuple #[.bool false, E]) ∧ ErrAns 1 nameCaBurst w' E) ∨ (CaOk b u t ∧ e = .returned (.tuple #[.bool (burstB b.toNat u.toNat t.toNat), .nilIface])))
def CaSyncC : Prop := ∀ (w : World) (b g t : Int), I64 b → I64 g → I64 t → Calls Tryz.prog 107 #[.int .i64 b, .int .i64 g, .int .i64 t] w fun e w' => Below w.heap.size w w' ∧
  ((¬ (CaOk b 1 t ∧ 1 ≤ g ∧ g ≤ 8) ∧ ∃ E, e = .returned (.tuple #[.int .i64 0, E]) ∧ ErrAns 1 nameCaSync w' E) ∨ ((CaOk b 1 t ∧ 1 ≤ g ∧ g ≤ 8) ∧ e = .returned (.tuple #[.int .i64 (syncZ b.toNat t.toNat g.toNat), .nilIface])))
def CaRowC : Prop := ∀ (w : World) (b u t : Int), I64 b → I64 u → I64 t → Calls Tryz.prog 146 #[.int .i64 b, .int .i64 u, .int .i64 t] w fun e w' => Below w.heap.size w w' ∧
  ((¬ CaOk b u t ∧ ∃ E, e = .returned (.tuple #[nilS, E]) ∧ ErrAns 1 nameCaRow w' E) ∨
   (CaOk b u t ∧ ∃ v', e = .returned (.tuple #[v', .nilIface]) ∧ w'.ownsRow w.heap.size 190 1 v' (rowZ b.toNat u.toNat t.toNat).length ((rowZ b.toNat u.toNat t.toNat).map stV)))
end
end Go.Proofs.YtkfimdpcadbcpaaGreatDoor
