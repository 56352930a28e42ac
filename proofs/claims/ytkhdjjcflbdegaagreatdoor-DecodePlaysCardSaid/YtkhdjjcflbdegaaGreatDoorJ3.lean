import Derived.Test.YtkhdjjcflbdegaaGreatDoorJ2
import Derived.Test.YtkhdjjcflbdegaaGreatDoorH3
import Derived.Test.YtkhdjjcflbdegaaGreatDoorG36
import Derived.Test.YtkhdjjcflbdegaaGreatDoorJ1
import Derived.Deep.RegionHeld3
import Derived.Test.YtkhdjjcflbdegaaGreatDoorH4
import Derived.Test.YtkhdjjcflbdegaaGreatDoorH5

section
/- Package geyserref13: New. -/
namespace Go.Proofs.YtkhdjjcflbdegaaGreatDoor
open Go.RowKit Go.Extern.Stop Go.Stop Go.Extern

theorem rd0_laid (w : World) : ∃ W, W = w.alloc (.cells #[.int .i64 0, .int .i64 0, .int .i64 0, .int .i64 0, .int .i64 0, .int .i64 0, .int .i64 0, nilS, .bool false] 35) ∧ Below w.heap.size w W ∧ RDBox W w.heap.size 0 0 0 0 0 0 0 nilS false :=
  ⟨_, rfl, (Below.refl _ _).alloc (Nat.le_refl _) _, heap_alloc_new w _⟩
theorem rd2_laid (w : World) (k s h l p sd size : Int) (v : Value) (c : Bool) : ∃ W, W = w.alloc (.cells #[.int .i64 k, .int .i64 s, .int .i64 h, .int .i64 l, .int .i64 p, .int .i64 sd, .int .i64 size, v, .bool c] 35) ∧ Below w.heap.size w W ∧ RDBox W w.heap.size k s h l p sd size v c :=
  ⟨_, rfl, (Below.refl _ _).alloc (Nat.le_refl _) _, heap_alloc_new w _⟩

set_option maxRecDepth 1000000 in
set_option maxHeartbeats 8000000 in
theorem rDeNew_any {w : World} (A : Nat → Prop) (hA : ∀ x, w.heap.size ≤ x → A x) (k size : Nat) (hk1 : 1 ≤ k) (hk2 : k ≤ 128) (hz1 : 1 ≤ size) (hz2 : size ≤ 64) :
    Calls Tryz.prog 14 #[.int .i64 (k : Int), .int .i64 (size : Int)] w fun e w' => ∃ (s h l p sd : Nat) (v : Value) (L : List Kq), e = .returned (.agg #[.int .i64 (k : Int), .int .i64 (s : Int), .int .i64 (h : Int), .int .i64 (l : Int), .int .i64 (p : Int), .int .i64 (sd : Int), .int .i64 (size : Int), v, .bool false]) ∧ OfP k s h l p ∧ IsSeed k s h l p sd ∧ KqsOwn w.heap.size w.heap.size A w' v L ∧ KqOk l size L ∧ SpEq (vecsK (L.map kqV)) (sysF k s h l size) ∧ Below w.heap.size w w' := by
  obtain ⟨i0, hi, iz0, iz1, iz2⟩ := info_parts info_u8
  have HA := Lib.hid hA
  clear hA
  obtain ⟨w0, hw0, hb0, hbx⟩ := rd0_laid w
  have HW0 := Lib.hid hw0
  have HB0 := Lib.hid hb0
  have HRB := Lib.hid hbx
  clear hw0 hb0 hbx
  go_enter Tryz.func14, Tryz.ntmps14
  go_upto_region 1 with fail
  rw [← HW0.out]
  go_wp2_with fail
  refine (rOf_any k hk1 hk2).mono ?_
  rintro e w1 ⟨s, h, l, p, rfl, hof, hb1⟩
  have HOF := Lib.hid hof
  obtain ⟨b1, b2, b3, b4, b5, b6, b7⟩ := hof.bounds hk1 hk2
  have HLQ := Lib.hid hof.2.2.1
  obtain ⟨W, hW, hbW, hby⟩ := par_laid w1 k s h l p
  have HW := Lib.hid hW
  have hb0W := hb1.trans (hbW.mono hb1.size)
  have HB1 := Lib.hid (HB0.out.trans (hb0W.mono HB0.out.size))
  have HR1 := Lib.hid (HRB.out.mono hb0W)
  have HX1 := Lib.hid hby
  clear hof hW hbW hby hb1 hb0W
  unfold parV parC
  go_upto_region 2 with fail
  rw [← HW.out]
  obtain ⟨g1, hg1⟩ : ∃ g1, w1.heap.size = g1 := ⟨_, rfl⟩
  rw [hg1] at HX1 ⊢
  clear hg1
  have hbd : Below W.heap.size W W.drew := (Below.refl _ _).drew
  have HBD := Lib.hid hbd
  have hbda : Below W.heap.size W (W.alloc (.cells #[.int .i64 0, .int .i64 0, .int .i64 0, .int .i64 0, .int .i64 0, .int .i64 0, .int .i64 0, nilS, .bool false] 35)).drew := ((Below.refl _ _).alloc (Nat.le_refl _) _).drew
  have HBDA := Lib.hid hbda
  have HBXA : Hid (RDBox (W.alloc (.cells #[.int .i64 0, .int .i64 0, .int .i64 0, .int .i64 0, .int .i64 0, .int .i64 0, .int .i64 0, nilS, .bool false] 35)).drew W.heap.size 0 0 0 0 0 0 0 nilS false) := Lib.hid (heap_alloc_new W _)
  have HSAT : Hid (∀ w', Below W.heap.size W w' → w'.cell? ⟨g1, 0, none⟩ = some (.int .i64 (k : Int)) ∧ w'.cell? ⟨g1, 1, none⟩ = some (.int .i64 (s : Int)) ∧ w'.cell? ⟨g1, 2, none⟩ = some (.int .i64 (h : Int)) ∧ w'.cell? ⟨g1, 3, none⟩ = some (.int .i64 (l : Int)) ∧ w'.cell? ⟨g1, 4, none⟩ = some (.int .i64 (p : Int))) := Lib.hid fun V hV => (HX1.out.mono hV).cells
  have HSD0 := Lib.hid (HSAT.out _ hbd)
  have HSDA := Lib.hid (HSAT.out _ hbda)
  have HSE : Hid (∀ Z, Calls Tryz.prog 38 #[.int .i64 (k : Int)] Z fun e w' => ∃ s h l p sd : Nat, e = .returned (.int .i64 (sd : Int)) ∧ OfP k s h l p ∧ IsSeed k s h l p sd ∧ Below Z.heap.size Z w') := Lib.hid fun Z => r11Seed_any k hk1 hk2
  have HGL : Hid (g1 < W.heap.size) := Lib.hid HX1.out.lt
  have HNE0 : Hid (∀ i j, (⟨W.heap.size, i, none⟩ : Addr) ≠ ⟨g1, j, none⟩) := Lib.hid fun i j e => by have h1 := congrArg Addr.block e; have h2 := HGL.out; simp at h1; omega
  clear hbd hbda
  go_cut [6] from 13 to 17 (fun px wx => ∃ (gd sd : Nat), px = .pointer (some ⟨gd, 0, none⟩) ∧ W.heap.size ≤ gd ∧ IsSeed k s h l p sd ∧ RDBox wx gd k s h l p sd size nilS false ∧ Below W.heap.size W wx)
  case first =>
    go_region_held3 (fun w' => w'.cell? ⟨g1, 0, none⟩ = some (.int .i64 (k : Int)) ∧ w'.cell? ⟨g1, 1, none⟩ = some (.int .i64 (s : Int)) ∧ w'.cell? ⟨g1, 2, none⟩ = some (.int .i64 (h : Int)) ∧ w'.cell? ⟨g1, 3, none⟩ = some (.int .i64 (l : Int)) ∧ w'.cell? ⟨g1, 4, none⟩ = some (.int .i64 (p : Int)))
      (first | (with_reducible exact HSD0.out) | (with_reducible exact HSDA.out) | (with_reducible exact HSAT.out _ HB2.out) | (with_reducible exact HSAT.out _ (HB2.out.alloc HB2.out.size _)) | (refine ⟨?_, ?_, ?_, ?_, ?_⟩ <;> (repeat (with_reducible rw [World.cell?_setCell_other _ _ _ _ (HNE0.out _ _)])) <;> (first | (with_reducible exact (HSAT.out _ HB2.out).1) | (with_reducible exact (HSAT.out _ HB2.out).2.1) | (with_reducible exact (HSAT.out _ HB2.out).2.2.1) | (with_reducible exact (HSAT.out _ HB2.out).2.2.2.1) | (with_reducible exact (HSAT.out _ HB2.out).2.2.2.2))) | go_keep)
      (first
      | (go_at_call 38; (with_reducible refine (HSE.out W.drew).mono ?_); rintro e w2 ⟨s', h', l', p', sd, rfl, hof, hsd, hb2⟩; obtain ⟨rfl, rfl, rfl, rfl⟩ := HOF.out.unique hof; have HSD := Lib.hid hsd; have HB2 := Lib.hid (HBD.out.trans (hb2.mono HBD.out.size)); clear hof hsd hb2)
      | (go_at_call 38; (with_reducible refine (HSE.out _).mono ?_); rintro e w2 ⟨s', h', l', p', sd, rfl, hof, hsd, hb2⟩; obtain ⟨rfl, rfl, rfl, rfl⟩ := HOF.out.unique hof; have HSD := Lib.hid hsd; have HB2 := Lib.hid (HBDA.out.trans (hb2.mono HBDA.out.size)); have hx2 := HBXA.out.mono hb2; have HX2 := Lib.hid hx2; obtain ⟨q0, q1, q2, q3, q4, q5, q6, q7, q8⟩ := hx2.cells; have f0 := hx2.free 0; have f1 := hx2.free 1; have f2 := hx2.free 2; have f3 := hx2.free 3; have f4 := hx2.free 4; have f5 := hx2.free 5; have f6 := hx2.free 6; have f7 := hx2.free 7; have f8 := hx2.free 8; clear hof hsd hb2 hx2))
    all_goals
      go_wp2
      go_meet
      case rel =>
        first
        | exact ⟨W.heap.size, sd, rfl, Nat.le_refl _, HSD.out, HX2.out.store _ _ _ _ _ _ _ _ _, rd_below HB2.out (Nat.le_refl _) _ _ _ _ _ _ _ _ _⟩
        | exact ⟨w2.heap.size, sd, rfl, HB2.out.size, HSD.out, heap_alloc_new w2 _, HB2.out.alloc HB2.out.size _⟩
  case rest =>
    obtain ⟨gd, sd, rfl, hgd, hsd, hxd, hbc⟩ := hcut
    obtain ⟨wu, hwu⟩ : ∃ wu, wu = wc := ⟨_, rfl⟩
    subst hwu
    have HSD := Lib.hid hsd
    have HGD := Lib.hid hgd
    have HD3 := Lib.hid hxd
    have HB3 := Lib.hid (HB1.out.trans (hbc.mono HB1.out.size))
    have HX3 := Lib.hid (HX1.out.mono hbc)
    have HR3 := Lib.hid (HR1.out.mono hbc)
    have HPL := Lib.hid (rPlaces_any (w := wu) k s h l p sd nilS [] HOF.out hk1 hk2 hsd.1 (ListAt.nil _ _) (fun e he => by cases he) (by simp))
    unfold parV parC at HPL
    obtain ⟨c0, c1, c2, c3, c4⟩ := HX3.out.cells
    obtain ⟨-, -, -, -, -, d5, -, -, -⟩ := HD3.out.cells
    clear HBDA HBXA HSAT HSD0 HSDA HSE HNE0 HBD hgd hsd hxd hbc
    go_wp2_with fail
    refine HPL.out.mono ?_
    rintro e w4 ⟨vr, rfl, hm4, hb4⟩
    rw [rowsA_nil] at hm4
    have hnL := rowsF0_length k s h
    obtain ⟨n, hn⟩ : ∃ n, s + h = n := ⟨_, rfl⟩
    rw [hn] at hnL
    have HRW : Hid (∀ i, i < n → ∀ c ∈ (rowsF0 k s h).getD i [], c < l) := Lib.hid fun i hi => by
      rw [HLQ.out]
      exact (rowsF0_getD (by rw [hnL]; exact hi) _ rfl).1
    have HK0 : Hid ((((rowsF0 k s h).take 0).map fun r => eqL l r (List.replicate size 0)) = []) := Lib.hid rfl
    have HKS : Hid (∀ i, i < n → (((rowsF0 k s h).take (i + 1)).map fun r => eqL l r (List.replicate size 0)) = (((rowsF0 k s h).take i).map fun r => eqL l r (List.replicate size 0)) ++ [eqL l ((rowsF0 k s h).getD i []) (List.replicate size 0)]) := Lib.hid fun i hi => takeF_succ (by rw [hn]; exact hi)
    have HKN : Hid ((((rowsF0 k s h).take n).map fun r => eqL l r (List.replicate size 0)) = sysF k s h l size) := Lib.hid (by rw [← hn]; exact takeF_all)
    have HKF : Hid (∀ i, i < n → kindV l (((rowsF0 k s h).take i).map fun r => eqL l r (List.replicate size 0)) (eqL l ((rowsF0 k s h).getD i []) (List.replicate size 0)) = 1) := Lib.hid fun i hi => freshF HLQ.out (by rw [hn]; exact hi) _
    obtain ⟨vs0, hvs0, -⟩ := id hm4
    rw [hnL] at hvs0
    obtain ⟨gr, cr, rfl⟩ := own_nonnil hvs0 (by omega)
    have HM4 := Lib.hid hm4
    have HNL := Lib.hid hnL
    have HGN : Hid (w.heap.size < gd ∧ gd < wu.heap.size) := Lib.hid ⟨Nat.lt_of_lt_of_le HR1.out.lt HGD.out, HD3.out.lt⟩
    have HB4 := Lib.hid (HB3.out.trans (hb4.mono HB3.out.size))
    have HD4 := Lib.hid (HD3.out.mono hb4)
    have HR4 := Lib.hid (HR3.out.mono hb4)
    have hl157 : l ≤ 157 := b5
    have hlb : wu.heap.size ≤ w4.heap.size := hb4.size
    have HG4 : Hid (w.heap.size ≤ gd ∧ w.heap.size < w4.heap.size) := Lib.hid ⟨Nat.le_trans HB1.out.size HGD.out, by have := HRB.out.lt; have := HB1.out.size; have := HR4.out.lt; omega⟩
    have hn40 : n ≤ 157 := by have := HLQ.out; omega
    have HOZ := Lib.hid (show (List.replicate size 0).length = size ∧ Octets (List.replicate size 0) from ⟨List.length_replicate, octets_zero size⟩)
    obtain ⟨Z, hZ⟩ : ∃ Z, List.replicate size 0 = Z := ⟨_, rfl⟩
    have HZR := Lib.hid hZ
    rw [hZ] at HK0 HKS HKN HKF HOZ
    clear hb4 hvs0 hm4 c0 c1 c2 c3 c4 d5 b1 b2 b3 b4 b5 b6 b7 hnL hZ HLQ
    generalize rowsF0 k s h = RF at *
    go_wp2_with fail
    go_loopw [8] (fun i wr => ∃ (j : Nat) (v : Value) (L : List Kq), j ≤ n ∧ i = .int .i64 j ∧ RDBox wr gd k s h l p sd size v false ∧ RDBox wr w.heap.size 0 0 0 0 0 0 0 nilS false ∧ KqsOwn w.heap.size w.heap.size A wr v L ∧ KqOk l size L ∧ SpEq (vecsK (L.map kqV)) ((RF.take j).map fun r => eqL l r Z) ∧ MatFresh colV 3 wu.heap.size 55 wr (.slice (some ⟨gr, 0, none⟩) n cr) RF ∧ Below w.heap.size w wr ∧ w4.heap.size ≤ wr.heap.size) (fun i _ => n - (intOf i).toNat)
    case atStart => exact ⟨0, nilS, [], Nat.zero_le _, rfl, HD4.out, HR4.out, KqsOwn.nil (Nat.le_refl _) _, ⟨fun j hj => by simp at hj, KeptOk.nil l⟩, by rw [HK0.out]; exact SpEq.refl _, HM4.out, HB4.out, Nat.le_refl _⟩
    case round =>
      obtain ⟨j, v, L, hj, rfl, hd, hr, ho, hok, hsp, hmf, hbel, hszr⟩ := hrel
      have HDR := Lib.hid hd
      have HRR := Lib.hid hr
      have HOR := Lib.hid ho
      have HOKR := Lib.hid hok
      have HSP := Lib.hid hsp
      have HMF := Lib.hid hmf
      have HBR := Lib.hid hbel
      have hgd' := HG4.out
      by_cases hlt : j < n
      · obtain ⟨vs, hv1, hv2, -⟩ := id hmf
        rw [HNL.out] at hv1
        have hvl : j < vs.length := by have := hv1.1; omega
        have hcs := hv1.cellAt j (by omega)
        rw [List.getElem?_eq_getElem hvl] at hcs
        have hel := (hv2 j).1
        rw [List.getD_eq_getElem?_getD, List.getElem?_eq_getElem hvl, Option.getD_some] at hel
        have hck : ∀ c ∈ RF.getD j [], c < l := HRW.out j hlt
        have HKJ := Lib.hid (HKF.out j hlt)
        have HSJ := Lib.hid (HKS.out j hlt)
        obtain ⟨aL, cL, rfl, -, -, -⟩ := ho.at
        have HPUT : Hid (∀ W y, Below wr.heap.size wr W → W.ownsRow wr.heap.size 5 1 y size (Z.map byteV) → Calls Tryz.prog 40 #[.agg #[.int .i64 (k : Int), .int .i64 (s : Int), .int .i64 (h : Int), .int .i64 (l : Int), .int .i64 (p : Int), .int .i64 (sd : Int), .int .i64 (size : Int), .slice aL L.length cL, .bool false], vs[j], y] W fun e w' => ∃ (v' : Value) (L' : List Kq), e = .returned (.tuple #[.agg #[.int .i64 (k : Int), .int .i64 (s : Int), .int .i64 (h : Int), .int .i64 (l : Int), .int .i64 (p : Int), .int .i64 (sd : Int), .int .i64 (size : Int), v', .bool false], .int .i64 1]) ∧ KqsOwn w.heap.size w.heap.size A w' v' L' ∧ KqOk l size L' ∧ SpEq (vecsK (L'.map kqV)) ((RF.take (j + 1)).map fun r => eqL l r Z) ∧ Below W.heap.size W w') := Lib.hid fun W y hW hy => by
          refine (rPut_any (w := W) w.heap.size A (fun g hg => HA.out g (Nat.le_trans (Nat.le_trans hbel.size hW.size) hg)) (Nat.le_trans hbel.size hW.size) k s h l p sd size _ _ y L (RF.getD j []) Z (ho.mono hW) hok (hel.mono hW) hck (ElM.own hy fun b hb => HA.out b (Nat.le_trans hbel.size hb)) HOZ.out (by omega) hz2).mono ?_
          rintro e w' ⟨v', L', rfl, h1, h2, h3, h4⟩
          have hk1 : kindV l (vecsK (L.map kqV)) (eqL l (RF.getD j []) Z) = 1 := by rw [kindV_congr hsp]; exact HKJ.out
          rw [hk1]
          refine ⟨v', L', rfl, h1, h2, ?_, h4⟩
          rw [HSJ.out]
          refine h3.trans ?_
          unfold addV
          rw [hk1, if_neg (by decide)]
          exact hsp.snoc _
        obtain ⟨ax, cx, hxe, -, -, -⟩ := id hel
        obtain ⟨xl, hxl⟩ : ∃ xl, (RF.getD j []).length = xl := ⟨_, rfl⟩
        rw [hxl] at hxe
        generalize vs[j] = x at *
        subst hxe
        have HGR : Hid (gr < wr.heap.size) := Lib.hid (World.block_lt_of_cell? wr _ hcs)
        have HXC : Hid (∀ W, Below wr.heap.size wr W → W.cell? ⟨gr, j, none⟩ = some (.slice ax xl cx)) := Lib.hid fun W hW => (hW.cell (p := ⟨gr, j, none⟩) HGR.out).trans hcs
        have HSAT : Hid (∀ w', Below wr.heap.size wr w' → w'.cell? ⟨gd, 0, none⟩ = some (.int .i64 (k : Int)) ∧ w'.cell? ⟨gd, 1, none⟩ = some (.int .i64 (s : Int)) ∧ w'.cell? ⟨gd, 2, none⟩ = some (.int .i64 (h : Int)) ∧ w'.cell? ⟨gd, 3, none⟩ = some (.int .i64 (l : Int)) ∧ w'.cell? ⟨gd, 4, none⟩ = some (.int .i64 (p : Int)) ∧ w'.cell? ⟨gd, 5, none⟩ = some (.int .i64 (sd : Int)) ∧ w'.cell? ⟨gd, 6, none⟩ = some (.int .i64 (size : Int)) ∧ w'.cell? ⟨gd, 7, none⟩ = some (.slice aL L.length cL) ∧ w'.cell? ⟨gd, 8, none⟩ = some (.bool false) ∧ w'.cell? ⟨gr, j, none⟩ = some (.slice ax xl cx)) := Lib.hid fun W hW => by
          obtain ⟨m0, m1, m2, m3, m4, m5, m6, m7, m8⟩ := (HDR.out.mono hW).cells
          exact ⟨m0, m1, m2, m3, m4, m5, m6, m7, m8, HXC.out W hW⟩
        have hbd : Below wr.heap.size wr wr.drew := (Below.refl _ _).drew
        have hbda : Below wr.heap.size wr (wr.alloc (.cells #[.int .i64 0, .int .i64 0, .int .i64 0, .int .i64 0, .int .i64 0, .int .i64 0, .int .i64 0, nilS, .bool false] 35)).drew := ((Below.refl _ _).alloc (Nat.le_refl _) _).drew
        have HBD := Lib.hid hbd
        have HBDA := Lib.hid hbda
        have HXA : Hid (RDBox (wr.alloc (.cells #[.int .i64 0, .int .i64 0, .int .i64 0, .int .i64 0, .int .i64 0, .int .i64 0, .int .i64 0, nilS, .bool false] 35)).drew wr.heap.size 0 0 0 0 0 0 0 nilS false) := Lib.hid (heap_alloc_new wr _)
        have HSD0 := Lib.hid (HSAT.out _ hbd)
        have HSDA := Lib.hid (HSAT.out _ hbda)
        have hgdl := HDR.out.lt
        have HNE : Hid (∀ b, wr.heap.size ≤ b → (∀ i j, (⟨b, i, none⟩ : Addr) ≠ ⟨gd, j, none⟩) ∧ (∀ i j, (⟨b, i, none⟩ : Addr) ≠ ⟨gr, j, none⟩)) := Lib.hid fun b hb => ⟨fun i j e => by have h1 := congrArg Addr.block e; simp at h1; omega, fun i j e => by have h1 := congrArg Addr.block e; have h2 := HGR.out; simp at h1; omega⟩
        clear hd hr ho hok hsp hmf hv1 hv2 hbel hcs hel hck hxl hbd hbda hvl
        have hi0 := hi
        go_upto_region 7 with fail
        go_cut [9, 10] from 28 to 38 (fun px _ wx => ∃ (gx : Nat) (v' : Value) (L' : List Kq), px = .pointer (some ⟨gx, 0, none⟩) ∧ wr.heap.size ≤ gx ∧ RDBox wx gx k s h l p sd size v' false ∧ KqsOwn w.heap.size w.heap.size A wx v' L' ∧ KqOk l size L' ∧ SpEq (vecsK (L'.map kqV)) ((RF.take (j + 1)).map fun r => eqL l r Z) ∧ Below wr.heap.size wr wx)
        case first =>
          go_region_held3 (fun w' => w'.cell? ⟨gd, 0, none⟩ = some (.int .i64 (k : Int)) ∧ w'.cell? ⟨gd, 1, none⟩ = some (.int .i64 (s : Int)) ∧ w'.cell? ⟨gd, 2, none⟩ = some (.int .i64 (h : Int)) ∧ w'.cell? ⟨gd, 3, none⟩ = some (.int .i64 (l : Int)) ∧ w'.cell? ⟨gd, 4, none⟩ = some (.int .i64 (p : Int)) ∧ w'.cell? ⟨gd, 5, none⟩ = some (.int .i64 (sd : Int)) ∧ w'.cell? ⟨gd, 6, none⟩ = some (.int .i64 (size : Int)) ∧ w'.cell? ⟨gd, 7, none⟩ = some (.slice aL L.length cL) ∧ w'.cell? ⟨gd, 8, none⟩ = some (.bool false) ∧ w'.cell? ⟨gr, j, none⟩ = some (.slice ax xl cx))
            (first | (with_reducible exact HSD0.out) | (with_reducible exact HSDA.out) | (with_reducible exact HSAT.out _ HB7.out) | (with_reducible exact HSAT.out _ (HB7.out.alloc HB7.out.size _)) | (with_reducible exact HSAT.out _ HBM.out) | (with_reducible exact HSAT.out _ (HBM.out.alloc HBM.out.size _)) | (refine ⟨?_, ?_, ?_, ?_, ?_, ?_, ?_, ?_, ?_, ?_⟩ <;> (repeat (first | (with_reducible rw [World.cell?_setCell_other _ _ _ _ (HNE1.out.1 _ _)]) | (with_reducible rw [World.cell?_setCell_other _ _ _ _ (HNE1.out.2 _ _)]))) <;> (first | (with_reducible exact (HSAT.out _ HB7.out).1) | (with_reducible exact (HSAT.out _ HB7.out).2.1) | (with_reducible exact (HSAT.out _ HB7.out).2.2.1) | (with_reducible exact (HSAT.out _ HB7.out).2.2.2.1) | (with_reducible exact (HSAT.out _ HB7.out).2.2.2.2.1) | (with_reducible exact (HSAT.out _ HB7.out).2.2.2.2.2.1) | (with_reducible exact (HSAT.out _ HB7.out).2.2.2.2.2.2.1) | (with_reducible exact (HSAT.out _ HB7.out).2.2.2.2.2.2.2.1) | (with_reducible exact (HSAT.out _ HB7.out).2.2.2.2.2.2.2.2.1) | (with_reducible exact (HSAT.out _ HB7.out).2.2.2.2.2.2.2.2.2))) | go_keep)
            (first
            | (refine upon_make_all 37 wr.heap.size 5 i0 (.int .u8 0) 1 Tryz.underlying37 hi iz0 iz1 .i64 .i64 size (by rw [iz2]; omega) (by unfold maxLen; omega) HBD.out.size ?_; intro wM hoM hgM; rw [show wr.drew.heap.size = wr.heap.size from rfl] at hoM; have HBM := Lib.hid (HBD.out.grown hgM HBD.out.size (fun k hk => by cases hk)); have HZM : Hid (wM.ownsRow wr.heap.size 5 1 (.slice (some ⟨wr.heap.size, 0, none⟩) size size) size (Z.map byteV)) := Lib.hid (by rw [← HZR.out, List.map_replicate]; rw [Nat.mul_one] at hoM; exact toList_madeCells_one (.int .u8 0) size ▸ hoM); clear hoM hgM)
            | (refine upon_make_all 37 wr.heap.size 5 i0 (.int .u8 0) 1 Tryz.underlying37 hi iz0 iz1 .i64 .i64 size (by rw [iz2]; omega) (by unfold maxLen; omega) HBDA.out.size ?_; intro wM hoM hgM; rw [show (wr.alloc (.cells #[.int .i64 0, .int .i64 0, .int .i64 0, .int .i64 0, .int .i64 0, .int .i64 0, .int .i64 0, nilS, .bool false] 35)).drew.heap.size = wr.heap.size + 1 from World.size_alloc _ _] at hoM; have HBM := Lib.hid (HBDA.out.grown hgM HBDA.out.size (fun k hk => by cases hk)); have HXM := Lib.hid (HXA.out.mono ((Below.refl _ _).grown hgM (Nat.le_refl _) (fun k hk => by cases hk))); have HZM : Hid (wM.ownsRow wr.heap.size 5 1 (.slice (some ⟨wr.heap.size + 1, 0, none⟩) size size) size (Z.map byteV)) := Lib.hid (by rw [← HZR.out, List.map_replicate]; rw [Nat.mul_one] at hoM; exact toList_madeCells_one (.int .u8 0) size ▸ hoM); clear hoM hgM)
            | (go_at_call 40; (with_reducible refine (HPUT.out _ _ HBM.out HZM.out).mono ?_); rintro e w7 ⟨v7, L7, rfl, ho7, hok7, hsp7, hb7⟩; have HO7 := Lib.hid ho7; have HK7 := Lib.hid (show KqOk l size L7 ∧ SpEq (vecsK (L7.map kqV)) ((RF.take (j + 1)).map fun r => eqL l r Z) from ⟨hok7, hsp7⟩); have HB7 := Lib.hid (HBM.out.trans (hb7.mono HBM.out.size)); obtain ⟨a7, c7, rfl, -, -, -⟩ := ho7.at; have hx7 := HXM.out.mono hb7; have HXM1 := Lib.hid hx7; obtain ⟨q0, q1, q2, q3, q4, q5, q6, q7, q8⟩ := hx7.cells; have f0 := hx7.free 0; have f1 := hx7.free 1; have f2 := hx7.free 2; have f3 := hx7.free 3; have f4 := hx7.free 4; have f5 := hx7.free 5; have f6 := hx7.free 6; have f7 := hx7.free 7; have f8 := hx7.free 8; have HNE1 := Lib.hid (HNE.out _ (Nat.le_refl wr.heap.size)); clear ho7 hok7 hsp7 hb7 hx7)
            | (go_at_call 40; (with_reducible refine (HPUT.out _ _ HBM.out HZM.out).mono ?_); rintro e w7 ⟨v7, L7, rfl, ho7, hok7, hsp7, hb7⟩; have HO7 := Lib.hid ho7; have HK7 := Lib.hid (show KqOk l size L7 ∧ SpEq (vecsK (L7.map kqV)) ((RF.take (j + 1)).map fun r => eqL l r Z) from ⟨hok7, hsp7⟩); have HB7 := Lib.hid (HBM.out.trans (hb7.mono HBM.out.size)); obtain ⟨a7, c7, rfl, -, -, -⟩ := ho7.at; clear ho7 hok7 hsp7 hb7)
            | (go_at_call 40; (with_reducible refine (HPUT.out _ _ (HBM.out.alloc HBM.out.size _) (HZM.out.alloc _)).mono ?_); rintro e w7 ⟨v7, L7, rfl, ho7, hok7, hsp7, hb7⟩; have HO7 := Lib.hid ho7; have HK7 := Lib.hid (show KqOk l size L7 ∧ SpEq (vecsK (L7.map kqV)) ((RF.take (j + 1)).map fun r => eqL l r Z) from ⟨hok7, hsp7⟩); have HB7 := Lib.hid ((HBM.out.alloc HBM.out.size (.cells #[.int .i64 0, .int .i64 0, .int .i64 0, .int .i64 0, .int .i64 0, .int .i64 0, .int .i64 0, nilS, .bool false] 35)).trans (hb7.mono (HBM.out.alloc HBM.out.size (.cells #[.int .i64 0, .int .i64 0, .int .i64 0, .int .i64 0, .int .i64 0, .int .i64 0, .int .i64 0, nilS, .bool false] 35)).size)); obtain ⟨a7, c7, rfl, -, -, -⟩ := ho7.at; have hx7 := (show RDBox (wM.alloc (.cells #[.int .i64 0, .int .i64 0, .int .i64 0, .int .i64 0, .int .i64 0, .int .i64 0, .int .i64 0, nilS, .bool false] 35)) wM.heap.size 0 0 0 0 0 0 0 nilS false from heap_alloc_new wM _).mono hb7; have HXM2 := Lib.hid hx7; obtain ⟨q0, q1, q2, q3, q4, q5, q6, q7, q8⟩ := hx7.cells; have f0 := hx7.free 0; have f1 := hx7.free 1; have f2 := hx7.free 2; have f3 := hx7.free 3; have f4 := hx7.free 4; have f5 := hx7.free 5; have f6 := hx7.free 6; have f7 := hx7.free 7; have f8 := hx7.free 8; have HNE1 := Lib.hid (HNE.out _ HBM.out.size); clear ho7 hok7 hsp7 hb7 hx7))
          all_goals
            go_wp2
            go_meet
            case rel =>
              first
              | exact ⟨wr.heap.size, .slice a7 L7.length c7, L7, rfl, Nat.le_refl _, HXM1.out.store _ _ _ _ _ _ _ _ _, HO7.out.only HXM1.out (by omega) (by decide) (rd_only _ _ _ _ _ _ _ _ _), HK7.out.1, HK7.out.2, rd_below HB7.out (Nat.le_refl _) _ _ _ _ _ _ _ _ _⟩
              | exact ⟨wM.heap.size, .slice a7 L7.length c7, L7, rfl, HBM.out.size, HXM2.out.store _ _ _ _ _ _ _ _ _, HO7.out.only HXM2.out (by have := HBM.out.size; omega) (by decide) (rd_only _ _ _ _ _ _ _ _ _), HK7.out.1, HK7.out.2, rd_below HB7.out HBM.out.size _ _ _ _ _ _ _ _ _⟩
              | exact ⟨w7.heap.size, .slice a7 L7.length c7, L7, rfl, HB7.out.size, heap_alloc_new w7 _, HO7.out.mono ((Below.refl _ _).alloc (Nat.le_refl _) _), HK7.out.1, HK7.out.2, HB7.out.alloc HB7.out.size _⟩
        case rest =>
          obtain ⟨gx, v7, L7, rfl, hgx, hx7, ho7, hok7, hsp7, hb7⟩ := hcut
          have hd7 := HDR.out.mono hb7
          have HD7 := Lib.hid hd7
          have HO7 := Lib.hid ho7
          have HK7 := Lib.hid (show KqOk l size L7 ∧ SpEq (vecsK (L7.map kqV)) ((RF.take (j + 1)).map fun r => eqL l r Z) from ⟨hok7, hsp7⟩)
          have HB7 := Lib.hid hb7
          obtain ⟨a7, c7, rfl, -, -, -⟩ := ho7.at
          obtain ⟨q0, q1, q2, q3, q4, q5, q6, q7, q8⟩ := hx7.cells
          obtain ⟨m0, m1, m2, m3, m4, m5, m6, m7, m8⟩ := hd7.cells
          have f0 := hd7.free 0
          have f1 := hd7.free 1
          have f2 := hd7.free 2
          have f3 := hd7.free 3
          have f4 := hd7.free 4
          have f5 := hd7.free 5
          have f6 := hd7.free 6
          have f7 := hd7.free 7
          have f8 := hd7.free 8
          have hgn := HGN.out
          clear hgx hx7 ho7 hok7 hsp7 hb7 hd7 HSAT HSD0 HSDA HBD HBDA HXA HPUT HNE
          go_wp2
          go_roundw
          case rel =>
            have hon := rd_only (W := wc) (g := gd) (.int .i64 (k : Int)) (.int .i64 (s : Int)) (.int .i64 (h : Int)) (.int .i64 (l : Int)) (.int .i64 (p : Int)) (.int .i64 (sd : Int)) (.int .i64 (size : Int)) (.slice a7 L7.length c7) (.bool false)
            exact ⟨j + 1, .slice a7 L7.length c7, L7, by omega, by go_num, HD7.out.store _ _ _ _ _ _ _ _ _, (hon w.heap.size (by omega)).trans (HRR.out.mono HB7.out), HO7.out.only HD7.out (by omega) (by decide) hon, HK7.out.1, HK7.out.2, (HMF.out.mono HB7.out).far fun x hx _ => hon x (by omega), rd_below (HBR.out.trans (HB7.out.mono HBR.out.size)) (by omega) _ _ _ _ _ _ _ _ _, by have := HB7.out.size; simp [World.setCell] at this ⊢; omega⟩
          case measure => simp [intOf]; omega
      · obtain rfl : j = n := by omega
        obtain ⟨aL, cL, rfl, -, -, -⟩ := ho.at
        obtain ⟨m0, m1, m2, m3, m4, m5, m6, m7, m8⟩ := hd.cells
        obtain ⟨q0, q1, q2, q3, q4, q5, q6, q7, q8⟩ := hr.cells
        have f0 := hr.free 0
        have f1 := hr.free 1
        have f2 := hr.free 2
        have f3 := hr.free 3
        have f4 := hr.free 4
        have f5 := hr.free 5
        have f6 := hr.free 6
        have f7 := hr.free 7
        have f8 := hr.free 8
        clear hd hr ho hok hsp hmf hbel
        go_wp2
        refine bodyPost_ret (results_row1 rfl _ _ w.heap.size 35 _ (0, 0) _ rfl (HRR.out.store _ _ _ _ _ _ _ _ _) Tryz.underlying35 rfl (by kernel_rfl)) rfl ?_
        exact ⟨s, h, l, p, sd, _, L, rfl, HOF.out, HSD.out, HOR.out.only HRR.out (Nat.le_refl _) (by decide) (rd_only _ _ _ _ _ _ _ _ _), HOKR.out, by rw [← HKN.out]; exact HSP.out, rd_below HBR.out (Nat.le_refl _) _ _ _ _ _ _ _ _ _⟩
end Go.Proofs.YtkhdjjcflbdegaaGreatDoor
end

section
/- geyserref13's Add. -/
namespace Go.Proofs.YtkhdjjcflbdegaaGreatDoor
open Go.RowKit Go.Extern.Stop Go.Stop Go.Extern

/-- What comes is told no kind: the decoder stands. -/
theorem rAdd_bad {w : World} (k s h l p sd size : Nat) (aL a : Option Addr) (nL cL m c : Nat) (cl : Bool) (x code : Int)
    (hc : (cl = true ∧ code = 7) ∨ (cl = false ∧ (x < 0 ∨ 65535 < x) ∧ code = 1) ∨ (cl = false ∧ 0 ≤ x ∧ x ≤ 65535 ∧ m ≠ size ∧ code = 2)) :
    Calls Tryz.prog 15 #[.agg #[.int .i64 (k : Int), .int .i64 (s : Int), .int .i64 (h : Int), .int .i64 (l : Int), .int .i64 (p : Int), .int .i64 (sd : Int), .int .i64 (size : Int), .slice aL nL cL, .bool cl], .int .i64 x, .slice a m c] w fun e w' => e = .returned (.tuple #[.agg #[.int .i64 (k : Int), .int .i64 (s : Int), .int .i64 (h : Int), .int .i64 (l : Int), .int .i64 (p : Int), .int .i64 (sd : Int), .int .i64 (size : Int), .slice aL nL cL, .bool cl], .int .i64 0, .int .i64 code]) ∧ Below w.heap.size w w' := by
  obtain ⟨w0, hw0, hb0, hs0, hx0, hx1⟩ := rd_laid w k s h l p sd size (.slice aL nL cL) cl
  have HW0 := Lib.hid hw0
  have HB0 := Lib.hid hb0
  have HX1 := Lib.hid hx1
  obtain ⟨c0, c1, c2, c3, c4, c5, c6, c7, c8⟩ := hx0.cells
  obtain ⟨q0, q1, q2, q3, q4, q5, q6, q7, q8⟩ := hx1.cells
  have f0 := hx1.free 0
  have f1 := hx1.free 1
  have f2 := hx1.free 2
  have f3 := hx1.free 3
  have f4 := hx1.free 4
  have f5 := hx1.free 5
  have f6 := hx1.free 6
  have f7 := hx1.free 7
  have f8 := hx1.free 8
  clear hw0 hb0 hs0 hx0 hx1
  go_enter Tryz.func15, Tryz.ntmps15
  go_upto_region 1 with fail
  rw [← HW0.out]
  rcases hc with ⟨rfl, rfl⟩ | ⟨rfl, h0 | h0, rfl⟩ | ⟨rfl, h0, h1, h2, rfl⟩
  all_goals
    go_wp2
    refine bodyPost_ret (results_row3 rfl _ _ (w.heap.size + 1) 35 _ (0, 0) _ rfl (HX1.out.store _ _ _ _ _ _ _ _ _) Tryz.underlying35 rfl (by kernel_rfl)) rfl ?_
    exact ⟨rfl, rd_below HB0.out (Nat.le_succ _) _ _ _ _ _ _ _ _ _⟩

/-- What comes is told its kind. -/
def RAddSays (base : Nat) (A : Nat → Prop) (w : World) (k s h l p sd size : Nat) (L : List Kq) (e : Vec) (o : Ending) (w' : World) : Prop :=
  ∃ (v' : Value) (L' : List Kq), o = .returned (.tuple #[.agg #[.int .i64 (k : Int), .int .i64 (s : Int), .int .i64 (h : Int), .int .i64 (l : Int), .int .i64 (p : Int), .int .i64 (sd : Int), .int .i64 (size : Int), v', .bool (decide (kindV l (vecsK (L.map kqV)) e = 3))], .int .i64 (kindV l (vecsK (L.map kqV)) e : Nat), .int .i64 0]) ∧
    KqsOwn base base A w' v' L' ∧ KqOk l size L' ∧ SpEq (vecsK (L'.map kqV)) (addV l (vecsK (L.map kqV)) e) ∧ Below w.heap.size w w'

set_option maxRecDepth 1000000 in
set_option maxHeartbeats 8000000 in
theorem rAdd_ok {w : World} (base : Nat) (A : Nat → Prop) (hA : ∀ g, w.heap.size ≤ g → A g) (hbase : base ≤ w.heap.size) (k s h l p sd size n : Nat) (vL vs : Value) (L : List Kq) (y : List Nat) (H : OfP k s h l p) (hk1 : 1 ≤ k) (hk2 : k ≤ 128) (hsd : sd < 65536) (hn : n < 65536) (hL : KqsOwn base base A w vL L) (hok : KqOk l size L) (hy : ElM byteV 5 base A w vs y) (hyl : y.length = size ∧ Octets y) (hz : size ≤ 64) :
    Calls Tryz.prog 15 #[.agg #[.int .i64 (k : Int), .int .i64 (s : Int), .int .i64 (h : Int), .int .i64 (l : Int), .int .i64 (p : Int), .int .i64 (sd : Int), .int .i64 (size : Int), vL, .bool false], .int .i64 (n : Int), vs] w (RAddSays base A w k s h l p sd size L (eqL l (rowE l p sd n) y)) := by
  obtain ⟨w0, hw0, hb0, hs0, hx0, hx1⟩ := rd_laid w k s h l p sd size vL false
  obtain ⟨b1, b2, b3, b4, b5, b6, b7⟩ := H.bounds hk1 hk2
  have hrl := rowE_len l p sd n
  have HRW : Hid (∀ Z, Calls Tryz.prog 41 #[.agg #[.int .i64 (k : Int), .int .i64 (s : Int), .int .i64 (h : Int), .int .i64 (l : Int), .int .i64 (p : Int)], .int .i64 (sd : Int), .int .i64 (n : Int)] Z fun e w' => ∃ v', e = .returned v' ∧ ListAt colV w' v' (rowE l p sd n) ∧ Below Z.heap.size Z w') := Lib.hid fun Z => by
    refine (rRow_any k s h l p sd n H hk1 hk2 hsd hn).mono ?_
    rintro e w' ⟨v', W, rfl, htr, hl, hb⟩
    refine ⟨v', rfl, ?_, hb⟩
    unfold rowE
    rw [walkE_eq htr]
    exact listAt_col hl
  obtain ⟨R, hR⟩ : ∃ R, rowE l p sd n = R := ⟨_, rfl⟩
  have hRl : ∀ c ∈ R, c < l := fun c hc => by rw [← hR] at hc; exact rowE_lt c hc
  rw [hR] at HRW ⊢
  have HPUT0 : Hid (∀ W x, Below w0.heap.size w0 W → ListAt colV W x R → Calls Tryz.prog 40 #[.agg #[.int .i64 (k : Int), .int .i64 (s : Int), .int .i64 (h : Int), .int .i64 (l : Int), .int .i64 (p : Int), .int .i64 (sd : Int), .int .i64 (size : Int), vL, .bool false], x, vs] W (PutSays base A W k s h l p sd size L (eqL l R y))) := Lib.hid fun W x hW hx =>
    have hwW := hb0.trans (hW.mono hb0.size)
    rPut_any (w := W) base A (fun g hg => hA g (Nat.le_trans hwW.size hg)) (Nat.le_trans hbase hwW.size) k s h l p sd size vL x vs L R y (hL.mono hwW) hok hx hRl (hy.mono hwW) hyl (by omega) hz
  unfold RAddSays
  unfold PutSays at HPUT0
  generalize eqL l R y = E at *
  obtain ⟨kd, hkd⟩ : ∃ kd, kindV l (vecsK (L.map kqV)) E = kd := ⟨_, rfl⟩
  rw [hkd] at HPUT0 ⊢
  obtain ⟨bd, hbd⟩ : ∃ bd, decide (kd = 3) = bd := ⟨_, rfl⟩
  rw [hbd] at HPUT0 ⊢
  obtain ⟨AD, hAD⟩ : ∃ AD, addV l (vecsK (L.map kqV)) E = AD := ⟨_, rfl⟩
  rw [hAD] at HPUT0 ⊢
  obtain ⟨aL, cL, rfl, -, -, -⟩ := hL.at
  obtain ⟨ay, cy, rfl, -⟩ := hy.1
  rw [hyl.1] at HPUT0 ⊢
  have HPUT : Hid (∀ W x, Below w0.heap.size w0 W → ListAt colV W x R → Calls Tryz.prog 40 #[.agg #[.int .i64 (k : Int), .int .i64 (s : Int), .int .i64 (h : Int), .int .i64 (l : Int), .int .i64 (p : Int), .int .i64 (sd : Int), .int .i64 (size : Int), .slice aL L.length cL, .bool false], x, .slice ay size cy] W fun e w' => ∃ (v' : Value) (L' : List Kq), e = .returned (.tuple #[.agg #[.int .i64 (k : Int), .int .i64 (s : Int), .int .i64 (h : Int), .int .i64 (l : Int), .int .i64 (p : Int), .int .i64 (sd : Int), .int .i64 (size : Int), v', .bool bd], .int .i64 (kd : Int)]) ∧ KqsOwn base base A w' v' L' ∧ KqOk l size L' ∧ SpEq (vecsK (L'.map kqV)) AD ∧ Below W.heap.size W w') := Lib.hid fun W x hW hx => HPUT0.out W x hW hx
  have HW0 := Lib.hid hw0
  have HB0 := Lib.hid hb0
  have HS0 := Lib.hid hs0
  have HX1 := Lib.hid hx1
  have hlt0 : w.heap.size < w0.heap.size := hx0.lt
  have hlt1 : w.heap.size + 1 < w0.heap.size := hx1.lt
  have HSAT : Hid (∀ Z, Below w0.heap.size w0 Z → Z.cell? ⟨w.heap.size, 0, none⟩ = some (.int .i64 (k : Int)) ∧ Z.cell? ⟨w.heap.size, 1, none⟩ = some (.int .i64 (s : Int)) ∧ Z.cell? ⟨w.heap.size, 2, none⟩ = some (.int .i64 (h : Int)) ∧ Z.cell? ⟨w.heap.size, 3, none⟩ = some (.int .i64 (l : Int)) ∧ Z.cell? ⟨w.heap.size, 4, none⟩ = some (.int .i64 (p : Int)) ∧ Z.cell? ⟨w.heap.size, 5, none⟩ = some (.int .i64 (sd : Int)) ∧ Z.cell? ⟨w.heap.size, 6, none⟩ = some (.int .i64 (size : Int)) ∧ Z.cell? ⟨w.heap.size, 7, none⟩ = some (.slice aL L.length cL) ∧ Z.cell? ⟨w.heap.size, 8, none⟩ = some (.bool false)) := Lib.hid fun Z hZ => (hx0.mono hZ).cells
  obtain ⟨c0, c1, c2, c3, c4, c5, c6, c7, c8⟩ := hx0.cells
  have hbdw : Below w0.heap.size w0 w0.drew := (Below.refl _ _).drew
  have hbda : Below w0.heap.size w0 (w0.alloc (.cells #[.int .i64 0, .int .i64 0, .int .i64 0, .int .i64 0, .int .i64 0, .int .i64 0, .int .i64 0, nilS, .bool false] 35)).drew := ((Below.refl _ _).alloc (Nat.le_refl _) _).drew
  have HBD := Lib.hid hbdw
  have HBDA := Lib.hid hbda
  have HXA : Hid (RDBox (w0.alloc (.cells #[.int .i64 0, .int .i64 0, .int .i64 0, .int .i64 0, .int .i64 0, .int .i64 0, .int .i64 0, nilS, .bool false] 35)).drew w0.heap.size 0 0 0 0 0 0 0 nilS false) := Lib.hid (heap_alloc_new w0 _)
  have HSD0 := Lib.hid (HSAT.out _ hbdw)
  have HSDA := Lib.hid (HSAT.out _ hbda)
  have HNE : Hid (∀ b, w0.heap.size ≤ b → ∀ i j, (⟨b, i, none⟩ : Addr) ≠ ⟨w.heap.size, j, none⟩) := Lib.hid fun b hb i j e => by have h1 := congrArg Addr.block e; simp at h1; omega
  clear hw0 hb0 hs0 hx0 hx1 hbdw hbda hkd hbd hAD hL hok hy hyl hR hRl hrl H hA HPUT0 b1 b2 b3 b4 b5 b6 b7
  go_enter Tryz.func15, Tryz.ntmps15
  go_upto_region 1 with fail
  rw [← HW0.out]
  go_upto_region 7 with fail
  clear c0 c1 c2 c3 c4 c5 c6 c7 c8
  go_cut [9, 10] from 28 to 38 (fun px nx wx => ∃ (gx : Nat) (v' : Value) (L' : List Kq), px = .pointer (some ⟨gx, 0, none⟩) ∧ nx = .int .i64 (kd : Int) ∧ w0.heap.size ≤ gx ∧ RDBox wx gx k s h l p sd size v' bd ∧ KqsOwn base base A wx v' L' ∧ KqOk l size L' ∧ SpEq (vecsK (L'.map kqV)) AD ∧ Below w0.heap.size w0 wx)
  case first =>
    go_region_held3 (fun w' => w'.cell? ⟨w.heap.size, 0, none⟩ = some (.int .i64 (k : Int)) ∧ w'.cell? ⟨w.heap.size, 1, none⟩ = some (.int .i64 (s : Int)) ∧ w'.cell? ⟨w.heap.size, 2, none⟩ = some (.int .i64 (h : Int)) ∧ w'.cell? ⟨w.heap.size, 3, none⟩ = some (.int .i64 (l : Int)) ∧ w'.cell? ⟨w.heap.size, 4, none⟩ = some (.int .i64 (p : Int)) ∧ w'.cell? ⟨w.heap.size, 5, none⟩ = some (.int .i64 (sd : Int)) ∧ w'.cell? ⟨w.heap.size, 6, none⟩ = some (.int .i64 (size : Int)) ∧ w'.cell? ⟨w.heap.size, 7, none⟩ = some (.slice aL L.length cL) ∧ w'.cell? ⟨w.heap.size, 8, none⟩ = some (.bool false))
      (first | (with_reducible exact HSD0.out) | (with_reducible exact HSDA.out) | (with_reducible exact HSAT.out _ HB7.out) | (with_reducible exact HSAT.out _ (HB7.out.alloc HB7.out.size _)) | (with_reducible exact HSAT.out _ HBM.out) | (with_reducible exact HSAT.out _ (HBM.out.alloc HBM.out.size _)) | (refine ⟨?_, ?_, ?_, ?_, ?_, ?_, ?_, ?_, ?_⟩ <;> (repeat (with_reducible rw [World.cell?_setCell_other _ _ _ _ (HNE1.out _ _)])) <;> (first | (with_reducible exact (HSAT.out _ HB7.out).1) | (with_reducible exact (HSAT.out _ HB7.out).2.1) | (with_reducible exact (HSAT.out _ HB7.out).2.2.1) | (with_reducible exact (HSAT.out _ HB7.out).2.2.2.1) | (with_reducible exact (HSAT.out _ HB7.out).2.2.2.2.1) | (with_reducible exact (HSAT.out _ HB7.out).2.2.2.2.2.1) | (with_reducible exact (HSAT.out _ HB7.out).2.2.2.2.2.2.1) | (with_reducible exact (HSAT.out _ HB7.out).2.2.2.2.2.2.2.1) | (with_reducible exact (HSAT.out _ HB7.out).2.2.2.2.2.2.2.2))) | go_keep)
      (first
      | (go_at_call 41; (with_reducible refine (HRW.out w0.drew).mono ?_); rintro e wM ⟨xv, rfl, hlM, hbM⟩; have HLM := Lib.hid hlM; have HBM := Lib.hid (HBD.out.trans (hbM.mono HBD.out.size)); clear hlM hbM)
      | (go_at_call 41; (with_reducible refine (HRW.out _).mono ?_); rintro e wM ⟨xv, rfl, hlM, hbM⟩; have HLM := Lib.hid hlM; have HBM := Lib.hid (HBDA.out.trans (hbM.mono HBDA.out.size)); have HXM := Lib.hid (HXA.out.mono hbM); clear hlM hbM)
      | (go_at_call 40; (with_reducible refine (HPUT.out _ _ HBM.out HLM.out).mono ?_); rintro e w7 ⟨v7, L7, rfl, ho7, hok7, hsp7, hb7⟩; have HO7 := Lib.hid ho7; have HK7 := Lib.hid (show KqOk l size L7 ∧ SpEq (vecsK (L7.map kqV)) AD from ⟨hok7, hsp7⟩); have HB7 := Lib.hid (HBM.out.trans (hb7.mono HBM.out.size)); obtain ⟨a7, c7, rfl, -, -, -⟩ := ho7.at; have hx7 := HXM.out.mono hb7; have HXM1 := Lib.hid hx7; obtain ⟨q0, q1, q2, q3, q4, q5, q6, q7, q8⟩ := hx7.cells; have f0 := hx7.free 0; have f1 := hx7.free 1; have f2 := hx7.free 2; have f3 := hx7.free 3; have f4 := hx7.free 4; have f5 := hx7.free 5; have f6 := hx7.free 6; have f7 := hx7.free 7; have f8 := hx7.free 8; have HNE1 := Lib.hid (HNE.out _ (Nat.le_refl w0.heap.size)); clear ho7 hok7 hsp7 hb7 hx7)
      | (go_at_call 40; (with_reducible refine (HPUT.out _ _ HBM.out HLM.out).mono ?_); rintro e w7 ⟨v7, L7, rfl, ho7, hok7, hsp7, hb7⟩; have HO7 := Lib.hid ho7; have HK7 := Lib.hid (show KqOk l size L7 ∧ SpEq (vecsK (L7.map kqV)) AD from ⟨hok7, hsp7⟩); have HB7 := Lib.hid (HBM.out.trans (hb7.mono HBM.out.size)); obtain ⟨a7, c7, rfl, -, -, -⟩ := ho7.at; clear ho7 hok7 hsp7 hb7)
      | (go_at_call 40; (with_reducible refine (HPUT.out _ _ (HBM.out.alloc HBM.out.size _) (HLM.out.mono ((Below.refl _ _).alloc (Nat.le_refl _) _))).mono ?_); rintro e w7 ⟨v7, L7, rfl, ho7, hok7, hsp7, hb7⟩; have HO7 := Lib.hid ho7; have HK7 := Lib.hid (show KqOk l size L7 ∧ SpEq (vecsK (L7.map kqV)) AD from ⟨hok7, hsp7⟩); have HB7 := Lib.hid ((HBM.out.alloc HBM.out.size (.cells #[.int .i64 0, .int .i64 0, .int .i64 0, .int .i64 0, .int .i64 0, .int .i64 0, .int .i64 0, nilS, .bool false] 35)).trans (hb7.mono (HBM.out.alloc HBM.out.size (.cells #[.int .i64 0, .int .i64 0, .int .i64 0, .int .i64 0, .int .i64 0, .int .i64 0, .int .i64 0, nilS, .bool false] 35)).size)); obtain ⟨a7, c7, rfl, -, -, -⟩ := ho7.at; have hx7 := (show RDBox (wM.alloc (.cells #[.int .i64 0, .int .i64 0, .int .i64 0, .int .i64 0, .int .i64 0, .int .i64 0, .int .i64 0, nilS, .bool false] 35)) wM.heap.size 0 0 0 0 0 0 0 nilS false from heap_alloc_new wM _).mono hb7; have HXM2 := Lib.hid hx7; obtain ⟨q0, q1, q2, q3, q4, q5, q6, q7, q8⟩ := hx7.cells; have f0 := hx7.free 0; have f1 := hx7.free 1; have f2 := hx7.free 2; have f3 := hx7.free 3; have f4 := hx7.free 4; have f5 := hx7.free 5; have f6 := hx7.free 6; have f7 := hx7.free 7; have f8 := hx7.free 8; have HNE1 := Lib.hid (HNE.out _ HBM.out.size); clear ho7 hok7 hsp7 hb7 hx7))
    all_goals
      go_wp2
      go_meet
      case rel =>
        first
        | exact ⟨w0.heap.size, .slice a7 L7.length c7, L7, rfl, rfl, Nat.le_refl _, HXM1.out.store _ _ _ _ _ _ _ _ _, HO7.out.only HXM1.out (by omega) (by decide) (rd_only _ _ _ _ _ _ _ _ _), HK7.out.1, HK7.out.2, rd_below HB7.out (Nat.le_refl _) _ _ _ _ _ _ _ _ _⟩
        | exact ⟨wM.heap.size, .slice a7 L7.length c7, L7, rfl, rfl, HBM.out.size, HXM2.out.store _ _ _ _ _ _ _ _ _, HO7.out.only HXM2.out (by have := HBM.out.size; omega) (by decide) (rd_only _ _ _ _ _ _ _ _ _), HK7.out.1, HK7.out.2, rd_below HB7.out HBM.out.size _ _ _ _ _ _ _ _ _⟩
        | exact ⟨w7.heap.size, .slice a7 L7.length c7, L7, rfl, rfl, HB7.out.size, heap_alloc_new w7 _, HO7.out.mono ((Below.refl _ _).alloc (Nat.le_refl _) _), HK7.out.1, HK7.out.2, HB7.out.alloc HB7.out.size _⟩
  case rest =>
    obtain ⟨gx, v7, L7, rfl, rfl, hgx, hx7, ho7, hok7, hsp7, hb7⟩ := hcut
    have hx1 := HX1.out.mono hb7
    have HX7 := Lib.hid hx1
    have HO7 := Lib.hid ho7
    have HK7 := Lib.hid (show KqOk l size L7 ∧ SpEq (vecsK (L7.map kqV)) AD from ⟨hok7, hsp7⟩)
    have HB7 := Lib.hid (HB0.out.trans (hb7.mono HB0.out.size))
    obtain ⟨a7, c7, rfl, -, -, -⟩ := ho7.at
    obtain ⟨m0, m1, m2, m3, m4, m5, m6, m7, m8⟩ := hx7.cells
    obtain ⟨q0, q1, q2, q3, q4, q5, q6, q7, q8⟩ := hx1.cells
    have f0 := hx1.free 0
    have f1 := hx1.free 1
    have f2 := hx1.free 2
    have f3 := hx1.free 3
    have f4 := hx1.free 4
    have f5 := hx1.free 5
    have f6 := hx1.free 6
    have f7 := hx1.free 7
    have f8 := hx1.free 8
    clear hx7 ho7 hok7 hsp7 hb7 hx1 HSAT HSD0 HSDA HBD HBDA HXA HPUT HRW HNE
    go_wp2
    refine bodyPost_ret (results_row3 rfl _ _ (w.heap.size + 1) 35 _ (0, 0) _ rfl (HX7.out.store _ _ _ _ _ _ _ _ _) Tryz.underlying35 rfl (by kernel_rfl)) rfl ?_
    exact ⟨.slice a7 L7.length c7, L7, rfl, HO7.out.only HX7.out (by omega) (by decide) (rd_only _ _ _ _ _ _ _ _ _), HK7.out.1, HK7.out.2, rd_below HB7.out (Nat.le_succ _) _ _ _ _ _ _ _ _ _⟩
end Go.Proofs.YtkhdjjcflbdegaaGreatDoor
end

section
/- DecodePlays: what each symbol is told, on both sides. -/
namespace Go.Proofs.YtkhdjjcflbdegaaGreatDoor
open Go.RowKit Go.Extern.Stop Go.Stop Go.Extern

theorem rkP_congr {n : Nat} {K M : List Vec} (e : SpEq K M) : rkP n K = rkP n M := rk_congr fun x =>
  ⟨fun h => by obtain ⟨v, hv, ev⟩ := Sp_lift h; rw [← ev]; exact Sp_proj n ((e v).1 hv), fun h => by obtain ⟨v, hv, ev⟩ := Sp_lift h; rw [← ev]; exact Sp_proj n ((e v).2 hv)⟩
theorem Tells.congr {l size : Nat} {K M : List Vec} {V : List (List Nat)} (h : Tells l size K V) (e : SpEq K M) : Tells l size M V :=
  ⟨h.1, fun c hc => let ⟨x, hx, ex⟩ := h.2 c hc; ⟨x, ⟨(e x).1 hx.1, hx.2⟩, ex⟩⟩
theorem KqOk.rank {n size : Nat} {L : List Kq} {K : List Vec} (h : KqOk n size L) (e : SpEq (vecsK (L.map kqV)) K) : rkP n K = L.length := by
  have h1 := h.kept.rank
  rw [List.length_map] at h1
  rw [← rkP_congr e]
  exact h1.symm
/-- One block of another kind has turned. -/
theorem DecAt.far {A : Nat → Prop} {w w' : World} {B g b kb k s h l p sd size x : Nat} {K : List Vec} {cl : Bool} {cur : Array Value} {e : TypeId} {z : Nat × Nat} (d : DecAt A w B g b kb k s h l p sd size K cl) (hx : w.heap[x]? = some (.cells cur e z))
    (he : e ≠ 82 ∧ e ≠ 111 ∧ e ≠ 120 ∧ e ≠ 163 ∧ e ≠ 5) (hs : ∀ y, y ≠ x → w'.heap[y]? = w.heap[y]?) : DecAt A w' B g b kb k s h l p sd size K cl := by
  have key : ∀ (y : Nat) (cur' : Array Value) (e' : TypeId), e ≠ e' → w.heap[y]? = some (.cells cur' e' (0, 0)) → w'.heap[y]? = w.heap[y]? := fun y cur' e' hne hy => hs y fun e1 => by
    rw [e1, hx] at hy
    simp at hy
    exact hne hy.2.1
  obtain ⟨⟨c1, k1⟩, ⟨c2, k2⟩⟩ := d.sys.sys.kinds
  exact ⟨(key _ _ _ he.1 d.box).trans d.box, d.sys.keep2 (key _ _ _ he.2.1 k1) (key _ _ _ he.2.2.1 k2) (fun y cur' e' he' _ hy => key y cur' e' (by rcases he' with rfl | rfl; exact he.2.2.2.1; exact he.2.2.2.2) hy), d.gg, d.gb, d.gk, d.of, d.seed, d.k1, d.k2, d.z1, d.z2⟩

/-- The document's Add: the decoder behind it. -/
def RefNext (base : Nat) (A : Nat → Prop) (Z : World) (k s h l p sd size : Nat) (K' : List Vec) (cl' : Bool) (kd : Nat) (code : Int) (o : Ending) (w' : World) : Prop :=
  ∃ (v' : Value) (L' : List Kq), o = .returned (.tuple #[.agg #[.int .i64 (k : Int), .int .i64 (s : Int), .int .i64 (h : Int), .int .i64 (l : Int), .int .i64 (p : Int), .int .i64 (sd : Int), .int .i64 (size : Int), v', .bool cl'], .int .i64 (kd : Int), .int .i64 code]) ∧ KqsOwn base base A w' v' L' ∧ KqOk l size L' ∧ SpEq (vecsK (L'.map kqV)) K' ∧ Below Z.heap.size Z w'
/-- The program's Add. -/
def DecNext (A : Nat → Prop) (Z : World) (B g b kb k s h l p sd size : Nat) (K' : List Vec) (cl' : Bool) (kd : Nat) (code : Int) (o : Ending) (w' : World) : Prop :=
  ∃ E, o = .returned (.tuple #[.int .i64 (kd : Int), E]) ∧ ErrAns code nameDeAdd w' E ∧ DTouch g b kb Z w' ∧ DecAt A w' B g b kb k s h l p sd size K' cl'

set_option maxRecDepth 1000000 in
theorem next13 {wo : World} (base : Nat) (A1 A2 : Nat → Prop) (hA1 : ∀ x, wo.heap.size ≤ x → A1 x) (hbase : base ≤ wo.heap.size) {B g b kb k s h l p sd size : Nat} {K : List Vec} {cl : Bool} {L : List Kq} {vL vs vo : Value} {y : List Nat} (x : Int)
    (d : DecAt A2 wo B g b kb k s h l p sd size K cl) (hkq : KqsOwn base base A1 wo vL L) (hok : KqOk l size L) (hsp : SpEq (vecsK (L.map kqV)) K) (hy : ElM byteV 5 base A1 wo vs y) (ho : Octets y) :
    ∃ (K' : List Vec) (cl' : Bool) (kd : Nat) (code : Int),
      (∀ Z, Below wo.heap.size wo Z → Calls Tryz.prog 15 #[.agg #[.int .i64 (k : Int), .int .i64 (s : Int), .int .i64 (h : Int), .int .i64 (l : Int), .int .i64 (p : Int), .int .i64 (sd : Int), .int .i64 (size : Int), vL, .bool cl], .int .i64 x, vs] Z (RefNext base A1 Z k s h l p sd size K' cl' kd code)) ∧
      ∀ Z, DecAt A2 Z B g b kb k s h l p sd size K cl → ListAt byteV Z vo y → (∀ x, Z.heap.size ≤ x → A2 x) → DgTab Z → Tab Z → Calls Tryz.prog 16 #[.pointer (some ⟨g, 0, none⟩), .int .i64 x, vo] Z (DecNext A2 Z B g b kb k s h l p sd size K' cl' kd code) := by
  have hbad : ∀ (code : Int), ((cl = true ∧ code = 7) ∨ (cl = false ∧ (x < 0 ∨ 65535 < x) ∧ code = 1) ∨ (cl = false ∧ 0 ≤ x ∧ x ≤ 65535 ∧ y.length ≠ size ∧ code = 2)) →
      ∀ Z, Below wo.heap.size wo Z → Calls Tryz.prog 15 #[.agg #[.int .i64 (k : Int), .int .i64 (s : Int), .int .i64 (h : Int), .int .i64 (l : Int), .int .i64 (p : Int), .int .i64 (sd : Int), .int .i64 (size : Int), vL, .bool cl], .int .i64 x, vs] Z (RefNext base A1 Z k s h l p sd size K cl 0 code) := fun code hc Z hZ => by
    have hkz := hkq.mono hZ
    obtain ⟨aL, cL, rfl, -, -, -⟩ := hkq.at
    obtain ⟨⟨as1, cs, rfl, -⟩, -⟩ := hy
    refine (rAdd_bad (w := Z) k s h l p sd size aL as1 L.length cL y.length cs cl x code hc).mono ?_
    rintro e w' ⟨rfl, hb⟩
    exact ⟨_, L, rfl, hkz.mono hb, hok, hsp, hb⟩
  have hno : ∀ (code : Int) (Z w' : World) (o : Ending), DecAt A2 Z B g b kb k s h l p sd size K cl → NoSays code nameDeAdd (.int .i64 0) Z o w' → DecNext A2 Z B g b kb k s h l p sd size K cl 0 code o w' := fun code Z w' o hd hn => by
    obtain ⟨E, rfl, he, hb⟩ := hn
    exact ⟨E, rfl, he, DTouch.of hb, hd.mono hb⟩
  cases cl with
  | true => exact ⟨K, true, 0, 7, hbad 7 (.inl ⟨rfl, rfl⟩), fun Z hd _ _ _ _ => (DeAdd_over hd _ _).mono fun o w' hn => hno 7 Z w' o hd hn⟩
  | false =>
    by_cases hr : x < 0 ∨ 65535 < x
    · exact ⟨K, false, 0, 1, hbad 1 (.inr (.inl ⟨rfl, hr, rfl⟩)), fun Z hd _ _ _ _ => (DeAdd_range hd x (by omega) _).mono fun o w' hn => hno 1 Z w' o hd hn⟩
    obtain ⟨n, rfl⟩ : ∃ n : Nat, x = (n : Int) := ⟨x.toNat, by omega⟩
    have hn : n < 65536 := by omega
    by_cases hl : y.length = size
    · refine ⟨addV l K (eqL l (rowE l p sd n) y), decide (kindV l K (eqL l (rowE l p sd n) y) = 3), kindV l K (eqL l (rowE l p sd n) y), 0, fun Z hZ => ?_, fun Z hd hv hA hT hB => ?_⟩
      · refine (rAdd_ok (w := Z) base A1 (fun x hx => hA1 x (Nat.le_trans hZ.size hx)) (Nat.le_trans hbase hZ.size) k s h l p sd size n vL vs L y d.of d.k1 d.k2 d.seed.1 hn (hkq.mono hZ) hok (hy.mono hZ) ⟨hl, ho⟩ d.z2).mono ?_
        rintro e w' ⟨v', L', rfl, h1, h2, h3, h4⟩
        rw [kindV_congr hsp]
        refine ⟨v', L', rfl, h1, h2, h3.trans ?_, h4⟩
        unfold addV
        rw [kindV_congr hsp]
        by_cases hk : kindV l K (eqL l (rowE l p sd n) y) = 3
        · rw [if_pos hk, if_pos hk]; exact hsp
        · rw [if_neg hk, if_neg hk]; exact hsp.snoc _
      · refine (DeAdd_ok hd hA n hn vo y hv hl ho hT hB).mono ?_
        rintro o w' ⟨rfl, h1, h2⟩
        exact ⟨.nilIface, rfl, .inl ⟨rfl, rfl⟩, h1, h2⟩
    · exact ⟨K, false, 0, 2, hbad 2 (.inr (.inr ⟨rfl, by omega, by omega, hl, rfl⟩)), fun Z hd hv _ hT _ => (DeAdd_form hd n hn _ y hv hl hT).mono fun o w' hn => hno 2 Z w' o hd hn⟩
end Go.Proofs.YtkhdjjcflbdegaaGreatDoor
end
