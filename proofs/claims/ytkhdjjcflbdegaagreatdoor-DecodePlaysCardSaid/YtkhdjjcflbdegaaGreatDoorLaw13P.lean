/- The thirteenth layer's laws: DecodePlays. -/
import Derived.Test.YtkhdjjcflbdegaaGreatDoorJ3
import Derived.Test.YtkhdjjcflbdegaaGreatDoorH5
import Derived.Test.YtkhdjjcflbdegaaGreatDoorSymsOpen
import Derived.Deep.RegionHeldLaw
import Derived.Deep.RegionHeld3
namespace Go.Proofs.YtkhdjjcflbdegaaGreatDoor
open Go.RowKit Go.Extern.Stop Go.Stop Go.Extern

theorem Chain.keep {w w' : World} {n : Int} {l : List ByteArray} {E : Value} (h : Chain w n l E) (hs : ∀ (b : Nat) (c : ByteArray), w.cell? ⟨b, 0, none⟩ = some (.string c) → w'.heap[b]? = w.heap[b]?) : Chain w' n l E := by
  induction h with
  | leaf => exact .leaf
  | wrap b c E l h0 h1 _ ih => exact .wrap b c E l ((World.cell?_of_block (w := w) (a := ⟨b, 0, none⟩) (hs b c h0)).trans h0) ((World.cell?_of_block (w := w) (a := ⟨b, 1, none⟩) (hs b c h0)).trans h1) ih
theorem ErrAns.keep {k : Int} {c : ByteArray} {w w' : World} {E : Value} (h : ErrAns k c w E) (hs : ∀ (b : Nat) (c : ByteArray), w.cell? ⟨b, 0, Option.none⟩ = Option.some (Value.string c) → w'.heap[b]? = w.heap[b]?) : ErrAns k c w' E := by
  rcases h with h | ⟨h1, ls, h2⟩
  · exact .inl h
  · exact .inr ⟨h1, ls, h2.keep hs⟩

set_option maxRecDepth 1000000 in
set_option maxHeartbeats 20000000 in
theorem plays13 {w : World} (kI sI : Int) (v : Value) (E : List (Int × List Nat)) (hv : SymsIn w v E) (ho : ∀ p ∈ E, Octets p.2) (hln : ∀ p ∈ E, p.2.length ≤ 140737488355328) (hkI : I64 kI) (hsI : I64 sI) (hT : DgTab w) (hB : Tab w) (hg : Laid w) :
    Calls Tryz.prog 3 #[.int .i64 kI, .int .i64 sI, v] w fun e w' => e = .returned (.bool true) ∧ Below w.heap.size w w' := by
  obtain ⟨i0, hi, iz0, iz1, iz2⟩ := info_parts info_u8
  have HT := Lib.hid hT
  have HBT := Lib.hid hB
  have HG := Lib.hid hg
  have HAW : Hid (∀ V, Below w.heap.size w V → Calls Tryz.prog 10 #[] V fun e w' => e = .returned (.bool true) ∧ Below V.heap.size V w') := Lib.hid fun V hV => awake13 V (PairsAt.mono hT hV) (hB.mono hV)
  have HBA : Hid (Below w.heap.size w w) := Lib.hid (Below.refl _ _)
  obtain ⟨av, cv, rfl, -, -, hcell⟩ := hv
  have HC := Lib.hid hcell
  have HOC : Hid (∀ j, j < E.length → Octets (E.getD j noSymE).2) := Lib.hid fun j hj => ho _ (by rw [List.getD_eq_getElem?_getD, List.getElem?_eq_getElem hj]; exact List.getElem_mem hj)
  have HLNG : Hid (∀ j, j < E.length → (E.getD j noSymE).2.length ≤ 140737488355328) := Lib.hid fun j hj => hln _ (by rw [List.getD_eq_getElem?_getD, List.getElem?_eq_getElem hj]; exact List.getElem_mem hj)
  clear hcell ho hln hT hB hg
  generalize E.length = q at *
  unfold I64 at hkI hsI
  by_cases h1 : 12 < kI ∧ kI ≤ 128
  · obtain ⟨ha, hb⟩ := h1
    go_enter Tryz.func3, Tryz.ntmps3
    go_wp2_with fail
    refine (HAW.out _ HBA.out).mono ?_
    rintro e wz ⟨rfl, hbz⟩
    have HBZ := Lib.hid (HBA.out.trans (hbz.mono HBA.out.size))
    clear hbz
    go_wp2
    go_ret
    exact ⟨rfl, HBZ.out⟩
  have hk : kI ≤ 12 ∨ 128 < kI := by omega
  by_cases h2 : 8 < sI ∧ sI ≤ 64
  · obtain ⟨ha, hb⟩ := h2
    clear h1
    rcases hk with hk | hk
    all_goals
      go_enter Tryz.func3, Tryz.ntmps3
      go_wp2_with fail
      refine (HAW.out _ HBA.out).mono ?_
      rintro e wz ⟨rfl, hbz⟩
      have HBZ := Lib.hid (HBA.out.trans (hbz.mono HBA.out.size))
      clear hbz
      go_wp2
      go_ret
      exact ⟨rfl, HBZ.out⟩
  have hs : sI ≤ 8 ∨ 64 < sI := by omega
  clear h1 h2
  by_cases hbad : ¬ (1 ≤ kI ∧ kI ≤ 128 ∧ 1 ≤ sI ∧ sI ≤ 64)
  · have HNW : Hid (Calls Tryz.prog 11 #[.int .i64 kI, .int .i64 sI] w (NoSays 1 nameDeNew nilP w)) := Lib.hid (by
      by_cases hk1 : kI < 1 ∨ 128 < kI
      · exact DeNew_k _ _ hk1
      · obtain ⟨k, rfl⟩ : ∃ k : Nat, kI = (k : Int) := ⟨kI.toNat, by omega⟩
        exact DeNew_size k sI (by omega) (by omega) (by omega))
    have HCK : Hid (∀ Z, Calls Tryz.prog 12 #[.int .i64 kI, .int .i64 sI] Z fun e w' => e = .returned (.int .i64 1) ∧ Z = w') := Lib.hid fun Z => rCheck13_no kI sI hkI hsI hbad
    clear hbad HBA
    rcases hk with hk | hk <;> rcases hs with hs | hs
    all_goals
      go_enter Tryz.func3, Tryz.ntmps3
      go_wp2_with fail
      refine HNW.out.mono ?_
      rintro e w1 ⟨E1, rfl, he1, hb1⟩
      have HB1 := Lib.hid hb1
      have HE1 := Lib.hid he1
      obtain ⟨u1, x1, rfl⟩ := he1.some (by decide)
      clear he1 hb1
      go_wp2_with fail
      refine (HCK.out _).mono ?_
      rintro e w2 ⟨rfl, rfl⟩
      go_wp2_with fail
      refine (tells_ans 1 nameDeNew _ HE1.out (HG.out.mono HB1.out)).mono ?_
      rintro e w3 ⟨rfl, hb3⟩
      have HBA := Lib.hid (HB1.out.trans (hb3.mono HB1.out.size))
      clear hb3
      go_wp2_with fail
      refine (HAW.out _ HBA.out).mono ?_
      rintro e wz ⟨rfl, hbz⟩
      have HBZ := Lib.hid (HBA.out.trans (hbz.mono HBA.out.size))
      clear hbz
      go_wp2
      go_ret
      exact ⟨rfl, HBZ.out⟩
  have hgd : 1 ≤ kI ∧ kI ≤ 12 ∧ 1 ≤ sI ∧ sI ≤ 8 := by omega
  obtain ⟨k, rfl⟩ : ∃ k : Nat, kI = (k : Int) := ⟨kI.toNat, by omega⟩
  obtain ⟨size, rfl⟩ : ∃ size : Nat, sI = (size : Int) := ⟨sI.toNat, by omega⟩
  have hk1 : 1 ≤ k := by omega
  have hk2 : k ≤ 12 := by omega
  have hz1 : 1 ≤ size := by omega
  have hz2 : size ≤ 8 := by omega
  have HCK : Hid (∀ Z, Calls Tryz.prog 12 #[.int .i64 (k : Int), .int .i64 (size : Int)] Z fun e w' => e = .returned (.int .i64 0) ∧ Z = w') := Lib.hid fun Z => rCheck13_ok _ _ (by omega) (by omega) (by omega) (by omega)
  have HNW := Lib.hid (DeNew_ok (w := w) k size hk1 (by omega) hz1 (by omega) HT.out HBT.out)
  clear hk hs hbad hkI hsI hgd HBA
  go_enter Tryz.func3, Tryz.ntmps3
  go_wp2_with fail
  refine HNW.out.mono ?_
  rintro e w1 ⟨g, b, kb, s, h, l, p, sd, rfl, hd, hb1⟩
  have HOF := Lib.hid hd.of
  have HSD := Lib.hid hd.seed
  have HD1 := Lib.hid hd
  have HB1 := Lib.hid hb1
  have HW1 : Hid (w.heap.size ≤ w1.heap.size) := Lib.hid hb1.size
  clear hd hb1
  go_wp2_with fail
  refine (HCK.out _).mono ?_
  rintro e w2 ⟨rfl, rfl⟩
  go_wp2_with fail
  refine (tells_nil nameDeNew).mono ?_
  rintro e w2 ⟨rfl, rfl⟩
  obtain ⟨A0, hA0⟩ : ∃ A0 : Nat → Prop, ∀ x, A0 x ↔ (x < w.heap.size ∨ w1.heap.size ≤ x) := ⟨_, fun x => Iff.rfl⟩
  have HA0 := Lib.hid hA0
  have HRN := Lib.hid (rDeNew_any (w := w1) A0 (fun x hx => (hA0 x).2 (.inr hx)) k size hk1 (by omega) hz1 (by omega))
  clear hA0
  go_wp2_with fail
  refine HRN.out.mono ?_
  rintro e w3 ⟨s', h', l', p', sd', vL, L, rfl, hof, hsd, hkq, hok, hsp, hb3⟩
  obtain ⟨rfl, rfl, rfl, rfl⟩ := HOF.out.unique hof
  obtain rfl := HSD.out.unique hsd
  obtain ⟨aL, cL, hvL, -, -, -⟩ := hkq.at
  obtain ⟨w4, hw4, hb4, hx4⟩ := rd1_laid w3 k s h l p sd size vL false
  have HW4 := Lib.hid hw4
  have hb34 := hb3.trans (hb4.mono hb3.size)
  have HD4 := Lib.hid (HD1.out.mono hb34)
  have HX4 := Lib.hid hx4
  have HKQ4 := Lib.hid (hkq.mono hb4)
  have HOK4 := Lib.hid hok
  have HSP4 := Lib.hid hsp
  have HB4 := Lib.hid (HB1.out.trans (hb34.mono HB1.out.size))
  have HGT := Lib.hid (show (w.heap.size ≤ g ∧ w.heap.size ≤ b ∧ w.heap.size ≤ kb) ∧ g < w1.heap.size ∧ b < w1.heap.size ∧ kb < w1.heap.size from ⟨⟨HD1.out.gg, HD1.out.gb, HD1.out.gk⟩, HD1.out.lts⟩)
  have hgx : w1.heap.size ≤ w3.heap.size := hb3.size
  have hl157 : l ≤ 157 := (HOF.out.bounds hk1 (by omega)).2.2.2.2.1
  subst hvL
  clear hof hsd hkq hok hsp hb3 hw4 hb4 hx4 hb34
  go_upto_region 10 with fail
  rw [← HW4.out]
  obtain ⟨gx, hgx0⟩ : ∃ gx, w3.heap.size = gx := ⟨_, rfl⟩
  rw [hgx0] at HX4 hgx ⊢
  have HGX := Lib.hid hgx
  clear hgx0 hgx
  go_wp2_with fail
  go_loopw [11] (fun i wr => ∃ (j : Nat) (v : Value) (L : List Kq) (K : List Vec) (cl : Bool), j ≤ q ∧ j ≤ 30 ∧ i = .int .i64 j ∧ RDBox wr gx k s h l p sd size v cl ∧ KqsOwn w1.heap.size w1.heap.size A0 wr v L ∧ KqOk l size L ∧ DecAt AnyB wr w.heap.size g b kb k s h l p sd size K cl ∧ SpEq (vecsK (L.map kqV)) K ∧ Below w.heap.size w wr) (fun i _ => 30 - (intOf i).toNat)
  case atStart => exact ⟨0, _, L, _, false, Nat.zero_le _, Nat.zero_le _, rfl, HX4.out, HKQ4.out, HOK4.out, HD4.out.any, HSP4.out, HB4.out⟩
  case round =>
    obtain ⟨j, v, L, K, cl, hj, hj30, rfl, hx, hkq, hok, hd, hsp, hbel⟩ := hrel
    clear HX4 HKQ4 HOK4 HD4 HSP4 HB4
    obtain ⟨wb, hwb⟩ : ∃ wb, wb = wr := ⟨_, rfl⟩
    subst hwb
    have HX := Lib.hid hx
    have HKQ := Lib.hid hkq
    have HOK := Lib.hid hok
    have HD := Lib.hid hd
    have HSP := Lib.hid hsp
    have HBL := Lib.hid hbel
    obtain ⟨aL, cL, rfl, -, -, -⟩ := hkq.at
    have hgxl := hx.lt
    have hgx := HGX.out
    have hw1 := HW1.out
    by_cases hlt : j < q ∧ j < 30
    · obtain ⟨hjq, hj3⟩ := hlt
      have d2 : decide ((j : Int) < 30) = true := decide_eq_true (by omega)
      obtain ⟨be, oe, rfl, hcc⟩ := HC.out (by omega)
      obtain ⟨sv, hx0, hx1, hls⟩ := hcc j hjq
      have hoc := HOC.out j hjq
      have hml := HLNG.out j hjq
      generalize (E.getD j noSymE).1 = x at *
      generalize (E.getD j noSymE).2 = y at *
      have hbe := World.block_lt_of_cell? w _ hx0
      obtain ⟨as1, cs, rfl, hm1, hm2, -⟩ := id hls
      obtain ⟨m, hm⟩ : ∃ m, y.length = m := ⟨_, rfl⟩
      rw [hm] at hx1 hm1 hml
      unfold maxLen at hm2
      have HM := Lib.hid hm
      have HLS := Lib.hid hls
      have HY : Hid (∀ Z, Below w.heap.size w Z → Z.cell? ⟨be, oe + j * 2, none⟩ = some (.int .i64 x) ∧ Z.cell? ⟨be, oe + j * 2 + 1, none⟩ = some (.slice as1 m cs)) := Lib.hid fun Z hZ => ⟨(hZ.cell (p := ⟨be, oe + j * 2, none⟩) hbe).trans hx0, (hZ.cell (p := ⟨be, oe + j * 2 + 1, none⟩) hbe).trans hx1⟩
      have hba : Below wb.heap.size wb (wb.alloc (.cells #[] 5)) := (Below.refl _ _).alloc (Nat.le_refl _) _
      have HBAL := Lib.hid hba
      have hbw := hbel.trans (hba.mono hbel.size)
      have HOW : Hid ((wb.alloc (.cells #[] 5)).ownsRow wb.heap.size 5 1 (.slice (some ⟨wb.heap.size, 0, none⟩) 0 0) 0 []) := Lib.hid (made_own _ (Nat.le_refl _) (by decide))
      have HLA := Lib.hid (hls.mono hbw)
      rw [hm] at HLA
      have hy0 := HY.out _ hbw
      obtain ⟨hy1, hy2⟩ := hy0
      have HLT := Lib.hid hd.lts
      have HOCT := Lib.hid hoc
      clear hx hkq hok hd hsp hcc hx0 hx1 hls hoc hm hba hbw
      go_wp2_with (at_builtin; refine wpList_append_of (f := byteV) _ rfl (.tmp 74) (.tmp 79) 37 rfl wb.heap.size 5 i0 (.int .u8 0) 1 Tryz.underlying37 hi iz0 iz1 iz2 rfl _ 0 [] rfl HOW.out _ y rfl HLA.out (fun _ _ => rfl) (by rw [HM.out]; unfold maxLen; omega) (by rw [HM.out]; omega) HBAL.out.size ?_; intro o w5 hown1 hgrow1; have hb5 := Lib.hid (HBAL.out.grown hgrow1 HBAL.out.size (fun k hk => (HOW.out.lt k hk).1)); rw [Nat.zero_add, List.nil_append, HM.out] at hown1; have HO5 := Lib.hid hown1; clear hown1 hgrow1)
      clear hy1 hy2
      have ho5 := HO5.out
      obtain ⟨ao, co, rfl, -, hao⟩ := own_open ho5
      have HAO := Lib.hid hao
      have HOB : Hid (∀ z, (Value.slice ao m co).ownBlock = some z → wb.heap.size ≤ z ∧ z < w5.heap.size) := Lib.hid fun z hz => ho5.lt z hz
      have hlt5 := HLT.out
      have hs5 : wb.heap.size ≤ w5.heap.size := hb5.out.size
      obtain ⟨A1, hA1⟩ : ∃ A1 : Nat → Prop, ∀ z, A1 z ↔ (A0 z ∧ (z < wb.heap.size ∨ w5.heap.size ≤ z)) := ⟨_, fun _ => Iff.rfl⟩
      obtain ⟨A2, hA2⟩ : ∃ A2 : Nat → Prop, ∀ z, A2 z ↔ (z < wb.heap.size ∨ w5.heap.size ≤ z) := ⟨_, fun _ => Iff.rfl⟩
      have HA1 := Lib.hid hA1
      have HA2 := Lib.hid hA2
      have HB5 := Lib.hid (HBL.out.trans (hb5.out.mono HBL.out.size))
      have HX5 := Lib.hid (HX.out.mono hb5.out)
      have HD5 : Hid (DecAt A2 w5 w.heap.size g b kb k s h l p sd size K cl) := Lib.hid ((HD.out.here (fun z hz => (hA2 z).2 (.inl hz))).mono hb5.out)
      have HKQ5 : Hid (KqsOwn w1.heap.size w1.heap.size A1 w5 (.slice aL L.length cL) L) := Lib.hid ((HKQ.out.weaken (fun z hz ha => (hA1 z).2 ⟨ha, .inl hz⟩)).mono hb5.out)
      have hnx := next13 (wo := w5) (vo := .slice ao m co) w1.heap.size A1 A2 (fun z hz => (hA1 z).2 ⟨(HA0.out z).2 (.inr (by omega)), .inr hz⟩) (by omega) x HD5.out HKQ5.out HOK.out HSP.out (ElM.old (w0 := w) HLS.out HB5.out hw1 (fun z hz => (hA1 z).2 ⟨(HA0.out z).2 (.inl hz), .inl (by omega)⟩)) HOCT.out
      rw [HM.out] at hnx
      obtain ⟨K', cl', kd, code, href, hdec⟩ := hnx
      have HREF := Lib.hid href
      have HDEC := Lib.hid hdec
      unfold RefNext at HREF
      have HSAT : Hid (∀ Z, Below w5.heap.size w5 Z → Z.cell? ⟨gx, 0, none⟩ = some (.int .i64 (k : Int)) ∧ Z.cell? ⟨gx, 1, none⟩ = some (.int .i64 (s : Int)) ∧ Z.cell? ⟨gx, 2, none⟩ = some (.int .i64 (h : Int)) ∧ Z.cell? ⟨gx, 3, none⟩ = some (.int .i64 (l : Int)) ∧ Z.cell? ⟨gx, 4, none⟩ = some (.int .i64 (p : Int)) ∧ Z.cell? ⟨gx, 5, none⟩ = some (.int .i64 (sd : Int)) ∧ Z.cell? ⟨gx, 6, none⟩ = some (.int .i64 (size : Int)) ∧ Z.cell? ⟨gx, 7, none⟩ = some (.slice aL L.length cL) ∧ Z.cell? ⟨gx, 8, none⟩ = some (.bool cl) ∧ Z.cell? ⟨be, oe + j * 2, none⟩ = some (.int .i64 x) ∧ Z.cell? ⟨be, oe + j * 2 + 1, none⟩ = some (.slice as1 m cs)) := Lib.hid fun Z hZ => by
        obtain ⟨c0, c1, c2, c3, c4, c5, c6, c7, c8⟩ := (HX5.out.mono hZ).cells
        obtain ⟨e0, e1⟩ := HY.out Z (HB5.out.trans (hZ.mono HB5.out.size))
        exact ⟨c0, c1, c2, c3, c4, c5, c6, c7, c8, e0, e1⟩
      have hbdw : Below w5.heap.size w5 w5.drew := (Below.refl _ _).drew
      have hbda : Below w5.heap.size w5 (w5.alloc (.cells #[.int .i64 0, .int .i64 0, .int .i64 0, .int .i64 0, .int .i64 0, .int .i64 0, .int .i64 0, nilS, .bool false] 35)).drew := ((Below.refl _ _).alloc (Nat.le_refl _) _).drew
      have HBD := Lib.hid hbdw
      have HBDA := Lib.hid hbda
      have HXA : Hid (RDBox (w5.alloc (.cells #[.int .i64 0, .int .i64 0, .int .i64 0, .int .i64 0, .int .i64 0, .int .i64 0, .int .i64 0, nilS, .bool false] 35)).drew w5.heap.size 0 0 0 0 0 0 0 nilS false) := Lib.hid (heap_alloc_new w5 _)
      have HSD0 := Lib.hid (HSAT.out _ hbdw)
      have HSDA := Lib.hid (HSAT.out _ hbda)
      have hbe5 : be < w5.heap.size := by have := HB5.out.size; omega
      have HNE : Hid (∀ z, w5.heap.size ≤ z → (∀ i j, (⟨z, i, none⟩ : Addr) ≠ ⟨gx, j, none⟩) ∧ (∀ i j, (⟨z, i, none⟩ : Addr) ≠ ⟨be, j, none⟩)) := Lib.hid fun z hz => ⟨fun i j e => by have h1 := congrArg Addr.block e; simp at h1; omega, fun i j e => by have h1 := congrArg Addr.block e; simp at h1; omega⟩
      have HO5' := HO5
      clear hA1 hA2 href hdec hao ho5 hbdw hbda hb5
      go_cut [13, 14, 15] from 82 to 96 (fun px nx ex wx => ∃ (gy : Nat) (v' : Value) (L' : List Kq), px = .pointer (some ⟨gy, 0, none⟩) ∧ nx = .int .i64 (kd : Int) ∧ ex = .int .i64 code ∧ w5.heap.size ≤ gy ∧ RDBox wx gy k s h l p sd size v' cl' ∧ KqsOwn w1.heap.size w1.heap.size A1 wx v' L' ∧ KqOk l size L' ∧ SpEq (vecsK (L'.map kqV)) K' ∧ Below w5.heap.size w5 wx)
      case first =>
        go_region_held3 (fun w' => w'.cell? ⟨gx, 0, none⟩ = some (.int .i64 (k : Int)) ∧ w'.cell? ⟨gx, 1, none⟩ = some (.int .i64 (s : Int)) ∧ w'.cell? ⟨gx, 2, none⟩ = some (.int .i64 (h : Int)) ∧ w'.cell? ⟨gx, 3, none⟩ = some (.int .i64 (l : Int)) ∧ w'.cell? ⟨gx, 4, none⟩ = some (.int .i64 (p : Int)) ∧ w'.cell? ⟨gx, 5, none⟩ = some (.int .i64 (sd : Int)) ∧ w'.cell? ⟨gx, 6, none⟩ = some (.int .i64 (size : Int)) ∧ w'.cell? ⟨gx, 7, none⟩ = some (.slice aL L.length cL) ∧ w'.cell? ⟨gx, 8, none⟩ = some (.bool cl) ∧ w'.cell? ⟨be, oe + j * 2, none⟩ = some (.int .i64 x) ∧ w'.cell? ⟨be, oe + j * 2 + 1, none⟩ = some (.slice as1 m cs))
          (first | (with_reducible exact HSD0.out) | (with_reducible exact HSDA.out) | (with_reducible exact HSAT.out _ HB7.out) | (with_reducible exact HSAT.out _ (HB7.out.alloc HB7.out.size _)) | (refine ⟨?_, ?_, ?_, ?_, ?_, ?_, ?_, ?_, ?_, ?_, ?_⟩ <;> (repeat (first | (with_reducible rw [World.cell?_setCell_other _ _ _ _ (HNE1.out.1 _ _)]) | (with_reducible rw [World.cell?_setCell_other _ _ _ _ (HNE1.out.2 _ _)]))) <;> (first | (with_reducible exact (HSAT.out _ HB7.out).1) | (with_reducible exact (HSAT.out _ HB7.out).2.1) | (with_reducible exact (HSAT.out _ HB7.out).2.2.1) | (with_reducible exact (HSAT.out _ HB7.out).2.2.2.1) | (with_reducible exact (HSAT.out _ HB7.out).2.2.2.2.1) | (with_reducible exact (HSAT.out _ HB7.out).2.2.2.2.2.1) | (with_reducible exact (HSAT.out _ HB7.out).2.2.2.2.2.2.1) | (with_reducible exact (HSAT.out _ HB7.out).2.2.2.2.2.2.2.1) | (with_reducible exact (HSAT.out _ HB7.out).2.2.2.2.2.2.2.2.1) | (with_reducible exact (HSAT.out _ HB7.out).2.2.2.2.2.2.2.2.2.1) | (with_reducible exact (HSAT.out _ HB7.out).2.2.2.2.2.2.2.2.2.2))) | go_keep)
          (first
          | (go_at_call 15; (with_reducible refine (HREF.out w5.drew HBD.out).mono ?_); rintro e w7 ⟨v7, L7, rfl, ho7, hok7, hsp7, hb7⟩; have HO7 := Lib.hid ho7; have HK7 := Lib.hid (show KqOk l size L7 ∧ SpEq (vecsK (L7.map kqV)) K' from ⟨hok7, hsp7⟩); have HB7 := Lib.hid (HBD.out.trans (hb7.mono HBD.out.size)); obtain ⟨a7, c7, rfl, -, -, -⟩ := ho7.at; clear ho7 hok7 hsp7 hb7)
          | (go_at_call 15; (with_reducible refine (HREF.out _ HBDA.out).mono ?_); rintro e w7 ⟨v7, L7, rfl, ho7, hok7, hsp7, hb7⟩; have HO7 := Lib.hid ho7; have HK7 := Lib.hid (show KqOk l size L7 ∧ SpEq (vecsK (L7.map kqV)) K' from ⟨hok7, hsp7⟩); have HB7 := Lib.hid (HBDA.out.trans (hb7.mono HBDA.out.size)); obtain ⟨a7, c7, rfl, -, -, -⟩ := ho7.at; have hx7 := HXA.out.mono hb7; have HXM1 := Lib.hid hx7; obtain ⟨q0, q1, q2, q3, q4, q5, q6, q7, q8⟩ := hx7.cells; have f0 := hx7.free 0; have f1 := hx7.free 1; have f2 := hx7.free 2; have f3 := hx7.free 3; have f4 := hx7.free 4; have f5 := hx7.free 5; have f6 := hx7.free 6; have f7 := hx7.free 7; have f8 := hx7.free 8; have HNE1 := Lib.hid (HNE.out _ (Nat.le_refl w5.heap.size)); clear ho7 hok7 hsp7 hb7 hx7))
        all_goals
          go_wp2
          go_meet
          case rel =>
            first
            | exact ⟨w5.heap.size, .slice a7 L7.length c7, L7, rfl, rfl, rfl, Nat.le_refl _, HXM1.out.store _ _ _ _ _ _ _ _ _, HO7.out.only HXM1.out (by omega) (by decide) (rd_only _ _ _ _ _ _ _ _ _), HK7.out.1, HK7.out.2, rd_below HB7.out (Nat.le_refl _) _ _ _ _ _ _ _ _ _⟩
            | exact ⟨w7.heap.size, .slice a7 L7.length c7, L7, rfl, rfl, rfl, HB7.out.size, heap_alloc_new w7 _, HO7.out.mono ((Below.refl _ _).alloc (Nat.le_refl _) _), HK7.out.1, HK7.out.2, HB7.out.alloc HB7.out.size _⟩
      case rest =>
        obtain ⟨gy, v7, L7, rfl, rfl, rfl, hgy, hy7, ho7, hok7, hsp7, hb7⟩ := hcut
        have hx7 := HX5.out.mono hb7
        obtain ⟨a7, c7, rfl, -, -, -⟩ := ho7.at
        obtain ⟨m0, m1, m2, m3, m4, m5, m6, m7, m8⟩ := hy7.cells
        obtain ⟨q0, q1, q2, q3, q4, q5, q6, q7, q8⟩ := hx7.cells
        have f0 := hx7.free 0
        have f1 := hx7.free 1
        have f2 := hx7.free 2
        have f3 := hx7.free 3
        have f4 := hx7.free 4
        have f5 := hx7.free 5
        have f6 := hx7.free 6
        have f7 := hx7.free 7
        have f8 := hx7.free 8
        obtain ⟨w9, hw9⟩ : ∃ w9, w9 = rdSet wc gx (.int .i64 (k : Int)) (.int .i64 (s : Int)) (.int .i64 (h : Int)) (.int .i64 (l : Int)) (.int .i64 (p : Int)) (.int .i64 (sd : Int)) (.int .i64 (size : Int)) (.slice a7 L7.length c7) (.bool cl') := ⟨_, rfl⟩
        have hon : ∀ z, z ≠ gx → w9.heap[z]? = wc.heap[z]? := by rw [hw9]; exact rd_only _ _ _ _ _ _ _ _ _
        have HX9 : Hid (RDBox w9 gx k s h l p sd size (.slice a7 L7.length c7) cl') := Lib.hid (by rw [hw9]; exact hx7.store _ _ _ _ _ _ _ _ _)
        have HKQ9 : Hid (KqsOwn w1.heap.size w1.heap.size A1 w9 (.slice a7 L7.length c7) L7) := Lib.hid (ho7.only hx7 hgx (by decide) hon)
        have HD9 : Hid (DecAt A2 w9 w.heap.size g b kb k s h l p sd size K cl) := Lib.hid ((HD5.out.mono hb7).far hx7 (by decide) hon)
        have HO9 : Hid (w9.ownsRow wb.heap.size 5 1 (.slice ao m co) m (y.map byteV)) := Lib.hid (own_keep (owns_kept HO5.out hb7) fun z hz _ => hon z (by have := HOB.out z hz; omega))
        have HB9 : Hid (Below w.heap.size w w9) := Lib.hid (by rw [hw9]; exact rd_below (HB5.out.trans (hb7.mono HB5.out.size)) (by omega) _ _ _ _ _ _ _ _ _)
        have HSZ9 : Hid (w5.heap.size ≤ w9.heap.size) := Lib.hid (Nat.le_trans hb7.size (by rw [hw9]; exact (rd_below (Below.refl 0 wc) (Nat.zero_le _) _ _ _ _ _ _ _ _ _).size))
        have HOK7 := Lib.hid hok7
        have HSP7 := Lib.hid hsp7
        unfold rdSet at hw9
        have HW9 := Lib.hid hw9
        clear hgy hy7 hx7 ho7 hok7 hsp7 hb7 hw9 hon HSAT HSD0 HSDA HBD HBDA HXA HREF HNE
        go_upto_region 16 with fail
        rw [← HW9.out]
        obtain ⟨hy1, hy2⟩ := HY.out _ HB9.out
        clear m0 m1 m2 m3 m4 m5 m6 m7 m8 q0 q1 q2 q3 q4 q5 q6 q7 q8 f0 f1 f2 f3 f4 f5 f6 f7 f8 hy2
        go_wp2_with fail
        refine (HDEC.out w9 HD9.out (ListAt.of_owns HO9.out) (fun z hz => (HA2.out z).2 (.inr (by have := HSZ9.out; omega))) (PairsAt.mono HT.out HB9.out) (HBT.out.mono HB9.out)).mono ?_
        rintro e w10 ⟨E10, rfl, he10, ht10, hd10⟩
        have hgt := HGT.out
        have HD10 := Lib.hid hd10
        have HE10 := Lib.hid he10
        have HX10 : Hid (RDBox w10 gx k s h l p sd size (.slice a7 L7.length c7) cl') := Lib.hid ((HD9.out.kind ht10 ⟨by decide, by decide, by decide⟩ HX9.out).trans HX9.out)
        have HKQ10 : Hid (KqsOwn w1.heap.size w1.heap.size A1 w10 (.slice a7 L7.length c7) L7) := Lib.hid (HKQ9.out.keep (fun z cur hz => HD9.out.kind ht10 ⟨by decide, by decide, by decide⟩ hz) fun z ha _ hz => by
          have h1 := (HA0.out z).1 ((HA1.out z).1 ha).1
          exact ht10.block z hz (by omega) (by omega) (by omega))
        have HO10 := Lib.hid (HD9.out.own ht10 ⟨by decide, by decide, by decide⟩ HO9.out)
        have HB10 := Lib.hid (HB9.out.trans (ht10.below hd10.gg hd10.gb hd10.gk HB9.out.size))
        have HS10 : Hid (w5.heap.size ≤ w10.heap.size) := Lib.hid (Nat.le_trans HSZ9.out ht10.size)
        clear he10 ht10 hd10 hy1 HX9 HKQ9 HD9 HO9
        go_wp2_with fail
        go_loopw [18] (fun i wx => ∃ (t : Nat) (Y : List Nat), t ≤ m ∧ i = .int .i64 t ∧ Y.length = m ∧ Octets Y ∧ wx.ownsRow wb.heap.size 5 1 (.slice ao m co) m (Y.map byteV) ∧ (∀ z, (Value.slice ao m co).ownBlock ≠ some z → wx.heap[z]? = w10.heap[z]?) ∧ (t = 0 → wx = w10) ∧ Below wb.heap.size w10 wx) (fun i _ => m - (intOf i).toNat)
        case atStart => exact ⟨0, y, Nat.zero_le _, rfl, HM.out, HOCT.out, HO10.out, (fun _ _ => rfl), (fun _ => rfl), Below.refl _ _⟩
        case round =>
          obtain ⟨t, Y, ht, rfl, hYl, hYo, hown, hsame, h0, hbl⟩ := hrel
          have HOWN := Lib.hid hown
          have HSAME := Lib.hid hsame
          have HBW := Lib.hid hbl
          by_cases hlt : t < m
          · obtain ⟨go, rfl⟩ := HAO.out (by omega)
            have hgo := (HOB.out go rfl).1
            have hyc : wr.cell? ⟨go, t, none⟩ = some (.int .u8 ((Y.getD t 0 : Nat) : Int)) := by
              rw [hown.cellAt t (by omega)]
              simp [List.getD_eq_getElem?_getD, hYl, hlt, byteV]
            have hyf := hown.frozenAt t
            have hyb := hYo.getD t
            have HYL := Lib.hid hYl
            have HYO := Lib.hid hYo
            have HGO := Lib.hid hgo
            generalize Y.getD t 0 = yv at *
            have hge : IntKind.u8.wrap (255 - (yv : Int)) = ((255 - yv : Nat) : Int) := by rw [IntKind.wrap_u8]; omega
            clear hYl hYo hown hsame h0 hbl hgo
            go_wp2
            go_roundw
            case rel => exact ⟨t + 1, Y.set t (255 - yv), by omega, by go_num, by rw [List.length_set]; exact HYL.out, (fun z hz => by
                rcases List.mem_or_eq_of_mem_set hz with h | h
                · exact HYO.out z h
                · omega), by rw [List.map_set]; exact (HOWN.out.stored t _).1, (fun z hz => (Below.heap_setCell _ _ _ _ (fun e => hz (by rw [e]; rfl))).trans (HSAME.out z hz)), (fun e => by omega), HBW.out.setCell (p := ⟨go, t, none⟩) HGO.out _⟩
            case measure => simp [intOf]; omega
          · obtain rfl : t = m := by omega
            obtain ⟨wx, hwx⟩ : ∃ wx, wx = wr := ⟨_, rfl⟩
            subst hwx
            have hne : ∀ z, A2 z → (Value.slice ao t co).ownBlock ≠ some z := fun z hz e => by
              have h1 := HOB.out z e
              have h2 := (HA2.out z).1 hz
              omega
            have hlo : ∀ z, z < wb.heap.size → (Value.slice ao t co).ownBlock ≠ some z := fun z hz e => by
              have h1 := HOB.out z e
              omega
            have HDW : Hid (DecAt A2 wx w.heap.size g b kb k s h l p sd size K' cl') := Lib.hid (HD10.out.keep (hsame _ (hlo _ (by omega))) (hsame _ (hlo _ (by omega))) (hsame _ (hlo _ (by omega))) fun z hz _ => hsame z (hne z hz))
            have HXW : Hid (RDBox wx gx k s h l p sd size (.slice a7 L7.length c7) cl') := Lib.hid ((hsame gx (hlo gx hgxl)).trans HX10.out)
            have HKQW : Hid (KqsOwn w1.heap.size w1.heap.size A1 wx (.slice a7 L7.length c7) L7) := Lib.hid (HKQ10.out.keep (fun z cur hz => hsame z fun e => by
                obtain ⟨-, cur', h2⟩ := own_block HO10.out e
                rw [hz] at h2
                simp at h2) fun z ha _ _ => hsame z fun e => by
                have h1 := HOB.out z e
                have h2 := ((HA1.out z).1 ha).2
                omega)
            have HEW : Hid (ErrAns code nameDeAdd wx E10) := Lib.hid (by
              rcases Nat.eq_zero_or_pos t with hz | hz
              · rw [h0 hz]; exact HE10.out
              · refine HE10.out.keep fun z c hzc => hsame z fun e => ?_
                obtain ⟨go, rfl⟩ := HAO.out hz
                obtain rfl : go = z := by simpa [Value.ownBlock] using e
                have h1 := HO10.out.cellAt 0 (by omega)
                rw [h1] at hzc
                simp [byteV] at hzc)
            have HBX := Lib.hid (HB10.out.trans ((show Below w.heap.size w10 wx from hbl.mono (by omega))))
            have HRL : Hid (rkP l K' = L7.length) := Lib.hid (HOK7.out.rank HSP7.out)
            have hL7 : L7.length ≤ l := HOK7.out.len
            clear hYl hYo hown hsame h0 hbl hne hlo hlt
            have HBc : Hid (Below wx.heap.size wx wx.drew) := Lib.hid (Below.refl _ _).drew
            have HRK : Hid (∀ Z, Below wx.heap.size wx Z → Calls Tryz.prog 17 #[.pointer (some ⟨g, 0, none⟩)] Z fun e w' => e = .returned (.int .i64 (L7.length : Int)) ∧ Below Z.heap.size Z w') := Lib.hid fun Z hZ => by
              have := DeRank_any (HDW.out.mono hZ)
              rw [HRL.out] at this
              exact this.mono fun e w' ⟨h1, n, h2⟩ => ⟨h1, by rw [h2]; exact below_draws (Below.refl _ _) n⟩
            have HLK : Hid (∀ Z, Below wx.heap.size wx Z → Calls Tryz.prog 18 #[.pointer (some ⟨g, 0, none⟩)] Z fun e w' => e = .returned (.int .i64 (IntKind.i64.wrap ((l : Int) - (L7.length : Int)))) ∧ Below Z.heap.size Z w') := Lib.hid fun Z hZ => by
              have := DeLacks_any (HDW.out.mono hZ)
              rw [HRL.out, show ((l - L7.length : Nat) : Int) = IntKind.i64.wrap ((l : Int) - (L7.length : Int)) by rw [IntWalk.i64_in _ (by omega)]; omega] at this
              exact this.mono fun e w' ⟨h1, h2⟩ => ⟨h1, h2 ▸ Below.refl _ _⟩
            obtain ⟨bd, hbd⟩ : ∃ bd, (decide (L7.length = l) && !cl') = bd := ⟨_, rfl⟩
            have HDN : Hid (∀ Z, Below wx.heap.size wx Z → Calls Tryz.prog 19 #[.pointer (some ⟨g, 0, none⟩)] Z fun e w' => e = .returned (.bool bd) ∧ Below Z.heap.size Z w') := Lib.hid fun Z hZ => by
              have := DeDone_any (HDW.out.mono hZ)
              unfold doneB at this
              rw [HRL.out, hbd] at this
              exact this.mono fun e w' ⟨h1, h2⟩ => ⟨h1, h2 ▸ Below.refl _ _⟩
            have HRD : Hid (∀ Z, Calls Tryz.prog 20 #[.agg #[.int .i64 (k : Int), .int .i64 (s : Int), .int .i64 (h : Int), .int .i64 (l : Int), .int .i64 (p : Int), .int .i64 (sd : Int), .int .i64 (size : Int), .slice a7 L7.length c7, .bool cl']] Z fun e w' => e = .returned (.bool bd) ∧ Below Z.heap.size Z w') := Lib.hid fun Z => by
              have := rDone_any (w := Z) k s h l p sd size a7 L7.length c7 cl'
              rwa [hbd] at this
            have HCL : Hid (∀ Z, Below wx.heap.size wx Z → Calls Tryz.prog 21 #[.pointer (some ⟨g, 0, none⟩)] Z fun e w' => e = .returned (.bool cl') ∧ Below Z.heap.size Z w') := Lib.hid fun Z hZ => (DeClashed_any (HDW.out.mono hZ)).mono fun e w' ⟨h1, h2⟩ => ⟨h1, h2 ▸ Below.refl _ _⟩
            have HTE : Hid (∀ Z, Below wx.heap.size wx Z → Calls Tryz.prog 13 #[E10, .int .i64 code, .string nameDeAdd] Z fun e w' => e = .returned (.bool true) ∧ Below Z.heap.size Z w') := Lib.hid fun Z hZ => tells_ans code nameDeAdd E10 (HEW.out.mono hZ) (HG.out.mono (HBX.out.trans (hZ.mono HBX.out.size)))
            unfold nameDeAdd at HTE
            have HSAT : Hid (∀ Z, Below wx.heap.size wx Z → Z.cell? ⟨gx, 0, none⟩ = some (.int .i64 (k : Int)) ∧ Z.cell? ⟨gx, 1, none⟩ = some (.int .i64 (s : Int)) ∧ Z.cell? ⟨gx, 2, none⟩ = some (.int .i64 (h : Int)) ∧ Z.cell? ⟨gx, 3, none⟩ = some (.int .i64 (l : Int)) ∧ Z.cell? ⟨gx, 4, none⟩ = some (.int .i64 (p : Int)) ∧ Z.cell? ⟨gx, 5, none⟩ = some (.int .i64 (sd : Int)) ∧ Z.cell? ⟨gx, 6, none⟩ = some (.int .i64 (size : Int)) ∧ Z.cell? ⟨gx, 7, none⟩ = some (.slice a7 L7.length c7) ∧ Z.cell? ⟨gx, 8, none⟩ = some (.bool cl')) := Lib.hid fun Z hZ => (HXW.out.mono hZ).cells
            have HSD0 := Lib.hid (HSAT.out _ HBc.out)
            clear hbd
            go_wp2_with fail
            have HBB : Hid ((bd != bd) = false) := Lib.hid (by cases bd <;> rfl)
            have HCC : Hid ((cl' != cl') = false) := Lib.hid (by cases cl' <;> rfl)
            go_region_held_law (fun w' => w'.cell? ⟨gx, 0, none⟩ = some (.int .i64 (k : Int)) ∧ w'.cell? ⟨gx, 1, none⟩ = some (.int .i64 (s : Int)) ∧ w'.cell? ⟨gx, 2, none⟩ = some (.int .i64 (h : Int)) ∧ w'.cell? ⟨gx, 3, none⟩ = some (.int .i64 (l : Int)) ∧ w'.cell? ⟨gx, 4, none⟩ = some (.int .i64 (p : Int)) ∧ w'.cell? ⟨gx, 5, none⟩ = some (.int .i64 (sd : Int)) ∧ w'.cell? ⟨gx, 6, none⟩ = some (.int .i64 (size : Int)) ∧ w'.cell? ⟨gx, 7, none⟩ = some (.slice a7 L7.length c7) ∧ w'.cell? ⟨gx, 8, none⟩ = some (.bool cl'))
              (first | (with_reducible exact HSD0.out) | (with_reducible exact HSAT.out _ HBc.out) | go_keep)
              (first
              | (go_at_call 13; (with_reducible refine (HTE.out _ HBc.out).mono ?_); rintro e wn ⟨rfl, hbn⟩; have HBc := Lib.hid (HBc.out.trans (hbn.mono HBc.out.size)); clear hbn)
              | (go_at_call 17; (with_reducible refine (HRK.out _ HBc.out).mono ?_); rintro e wn ⟨rfl, hbn⟩; have HBc := Lib.hid (HBc.out.trans (hbn.mono HBc.out.size)); clear hbn)
              | (go_at_call 18; (with_reducible refine (HLK.out _ HBc.out).mono ?_); rintro e wn ⟨rfl, hbn⟩; have HBc := Lib.hid (HBc.out.trans (hbn.mono HBc.out.size)); clear hbn)
              | (go_at_call 19; (with_reducible refine (HDN.out _ HBc.out).mono ?_); rintro e wn ⟨rfl, hbn⟩; have HBc := Lib.hid (HBc.out.trans (hbn.mono HBc.out.size)); clear hbn)
              | (go_at_call 20; (with_reducible refine (HRD.out _).mono ?_); rintro e wn ⟨rfl, hbn⟩; have HBc := Lib.hid (HBc.out.trans (hbn.mono HBc.out.size)); clear hbn)
              | (go_at_call 21; (with_reducible refine (HCL.out _ HBc.out).mono ?_); rintro e wn ⟨rfl, hbn⟩; have HBc := Lib.hid (HBc.out.trans (hbn.mono HBc.out.size)); clear hbn))
            all_goals
              go_wp2
              go_roundw
              case rel => exact ⟨j + 1, .slice a7 L7.length c7, L7, K', _, by omega, by omega, by go_num, HXW.out.mono HBc.out, (HKQW.out.mono HBc.out).weaken (fun z _ ha => ((HA1.out z).1 ha).1), HOK7.out, (HDW.out.mono HBc.out).any, HSP7.out, HBX.out.trans (HBc.out.mono HBX.out.size)⟩
              case measure => simp [intOf]; omega
    · obtain ⟨c0, c1, c2, c3, c4, c5, c6, c7, c8⟩ := hx.cells
      have hrk := hok.rank hsp
      have HRL := Lib.hid hrk
      have HXS : Hid (∀ Z, Below wb.heap.size wb Z → Z.cell? ⟨gx, 0, none⟩ = some (.int .i64 (k : Int)) ∧ Z.cell? ⟨gx, 1, none⟩ = some (.int .i64 (s : Int)) ∧ Z.cell? ⟨gx, 2, none⟩ = some (.int .i64 (h : Int)) ∧ Z.cell? ⟨gx, 3, none⟩ = some (.int .i64 (l : Int)) ∧ Z.cell? ⟨gx, 4, none⟩ = some (.int .i64 (p : Int)) ∧ Z.cell? ⟨gx, 5, none⟩ = some (.int .i64 (sd : Int)) ∧ Z.cell? ⟨gx, 6, none⟩ = some (.int .i64 (size : Int)) ∧ Z.cell? ⟨gx, 7, none⟩ = some (.slice aL L.length cL) ∧ Z.cell? ⟨gx, 8, none⟩ = some (.bool cl)) := Lib.hid fun Z hZ => (HX.out.mono hZ).cells
      clear hx hkq hok hd hsp hbel
      by_cases hjq : j < q
      · have d2 : decide ((j : Int) < 30) = false := decide_eq_false (by omega)
        clear hlt
        rcases cl with _ | _
        · by_cases hfull : L.length = l
          · have HS1 := Lib.hid (DeSrc_ok HD.out (by rw [HRL.out]; exact hfull) (PairsAt.mono HT.out HBL.out))
            have HKA := Lib.hid HKQ.out.at
            have HFU := Lib.hid hfull
            clear c0 c1 c2 c3 c4 c5 c6 c7 c8 hfull
            go_wp2_with fail
            refine HS1.out.mono ?_
            rintro e w11 ⟨v11, U, rfl, htl, hm11, hb11⟩
            have HM11 := Lib.hid hm11
            have HTL := Lib.hid htl
            have HB11 := Lib.hid hb11
            obtain ⟨c0, c1, c2, c3, c4, c5, c6, c7, c8⟩ := HXS.out _ hb11
            have HS2 := Lib.hid (rSource_ok (w := w11) k s h l p sd size _ L HOF.out hk1 (by omega) HSD.out.1 (HKA.out.mono hb11) HOK.out HFU.out (by omega))
            obtain ⟨a11, c11, rfl, -, -, -⟩ := hm11.opens
            clear htl hm11 hb11
            go_wp2_with fail
            refine HS2.out.mono ?_
            rintro e w12 ⟨v12, U2, rfl, hm12, htl2, hb12⟩
            obtain rfl : U2 = U := Tells.unique HD.out.sys.sys.cons (htl2.congr HSP.out) HTL.out
            have HB12 := Lib.hid (HB11.out.trans (hb12.mono HB11.out.size))
            have HM12 := Lib.hid hm12
            have HM11 := Lib.hid (HM11.out.mono hb12)
            obtain ⟨a12, c12, rfl, -, -, -⟩ := hm12.opens
            clear htl2 hm12 hb12 c0 c1 c2 c3 c4 c5 c6 c7 c8
            go_wp2_with fail
            refine (tells_nil nameDeSource).mono ?_
            rintro e wn ⟨rfl, rfl⟩
            go_wp2_with fail
            rw [List.length_map, List.length_range] at HM11 HM12
            with_reducible refine (sSame_any _ _ _ HM11.out HM12.out).mono ?_
            rintro e w13 ⟨rfl, hb13⟩
            have HBA := Lib.hid (HBL.out.trans ((HB12.out.trans (hb13.mono HB12.out.size)).mono HBL.out.size))
            clear hb13
            go_wp2_with fail
            refine (HAW.out _ HBA.out).mono ?_
            rintro e wz ⟨rfl, hbz⟩
            have HBZ := Lib.hid (HBA.out.trans (hbz.mono HBA.out.size))
            clear hbz
            go_wp2
            go_ret
            exact ⟨rfl, HBZ.out⟩
          · have HS1 := Lib.hid (DeSrc_none HD.out (by rw [HRL.out]; exact hfull) (HG.out.mono HBL.out))
            have HS2 : Hid (∀ Z, Calls Tryz.prog 23 #[.agg #[.int .i64 (k : Int), .int .i64 (s : Int), .int .i64 (h : Int), .int .i64 (l : Int), .int .i64 (p : Int), .int .i64 (sd : Int), .int .i64 (size : Int), .slice aL L.length cL, .bool false]] Z fun e w' => e = .returned (.tuple #[nilS, .int .i64 4]) ∧ Below Z.heap.size Z w') := Lib.hid fun Z => rSource_none k s h l p sd size aL L.length cL hfull
            clear c0 c1 c2 c3 c4 c5 c6 c7 c8 hfull
            go_wp2_with fail
            refine HS1.out.mono ?_
            rintro e w11 ⟨E11, rfl, he11, hb11⟩
            have HE11 := Lib.hid he11
            have HB11 := Lib.hid hb11
            obtain ⟨c0, c1, c2, c3, c4, c5, c6, c7, c8⟩ := HXS.out _ hb11
            clear he11 hb11
            go_wp2_with fail
            refine (HS2.out _).mono ?_
            rintro e w12 ⟨rfl, hb12⟩
            have hb112 := HB11.out.trans (hb12.mono HB11.out.size)
            have HB12 := Lib.hid hb112
            have HE12 := Lib.hid (HE11.out.mono hb12)
            clear hb12 hb112 c0 c1 c2 c3 c4 c5 c6 c7 c8
            go_wp2_with fail
            refine (tells_ans 4 nameDeSource _ HE12.out (HG.out.mono (HBL.out.trans (HB12.out.mono HBL.out.size)))).mono ?_
            rintro e w13 ⟨rfl, hb13⟩
            have HB13 := Lib.hid (HB12.out.trans (hb13.mono HB12.out.size))
            clear hb13
            go_wp2_with fail
            refine (sSame_any _ _ [] (MatAt.nil _ _) (MatAt.nil _ _)).mono ?_
            rintro e w14 ⟨rfl, hb14⟩
            have HBA := Lib.hid (HBL.out.trans ((HB13.out.trans (hb14.mono HB13.out.size)).mono HBL.out.size))
            clear hb14
            go_wp2_with fail
            refine (HAW.out _ HBA.out).mono ?_
            rintro e wz ⟨rfl, hbz⟩
            have HBZ := Lib.hid (HBA.out.trans (hbz.mono HBA.out.size))
            clear hbz
            go_wp2
            go_ret
            exact ⟨rfl, HBZ.out⟩
        · have HS1 := Lib.hid (DeSrc_over HD.out (HG.out.mono HBL.out))
          have HS2 : Hid (∀ Z, Calls Tryz.prog 23 #[.agg #[.int .i64 (k : Int), .int .i64 (s : Int), .int .i64 (h : Int), .int .i64 (l : Int), .int .i64 (p : Int), .int .i64 (sd : Int), .int .i64 (size : Int), .slice aL L.length cL, .bool true]] Z fun e w' => e = .returned (.tuple #[nilS, .int .i64 7]) ∧ Below Z.heap.size Z w') := Lib.hid fun Z => rSource_over k s h l p sd size _
          clear c0 c1 c2 c3 c4 c5 c6 c7 c8
          go_wp2_with fail
          refine HS1.out.mono ?_
          rintro e w11 ⟨E11, rfl, he11, hb11⟩
          have HE11 := Lib.hid he11
          have HB11 := Lib.hid hb11
          obtain ⟨c0, c1, c2, c3, c4, c5, c6, c7, c8⟩ := HXS.out _ hb11
          clear he11 hb11
          go_wp2_with fail
          refine (HS2.out _).mono ?_
          rintro e w12 ⟨rfl, hb12⟩
          have hb112 := HB11.out.trans (hb12.mono HB11.out.size)
          have HB12 := Lib.hid hb112
          have HE12 := Lib.hid (HE11.out.mono hb12)
          clear hb12 hb112 c0 c1 c2 c3 c4 c5 c6 c7 c8
          go_wp2_with fail
          refine (tells_ans 7 nameDeSource _ HE12.out (HG.out.mono (HBL.out.trans (HB12.out.mono HBL.out.size)))).mono ?_
          rintro e w13 ⟨rfl, hb13⟩
          have HB13 := Lib.hid (HB12.out.trans (hb13.mono HB12.out.size))
          clear hb13
          go_wp2_with fail
          refine (sSame_any _ _ [] (MatAt.nil _ _) (MatAt.nil _ _)).mono ?_
          rintro e w14 ⟨rfl, hb14⟩
          have HBA := Lib.hid (HBL.out.trans ((HB13.out.trans (hb14.mono HB13.out.size)).mono HBL.out.size))
          clear hb14
          go_wp2_with fail
          refine (HAW.out _ HBA.out).mono ?_
          rintro e wz ⟨rfl, hbz⟩
          have HBZ := Lib.hid (HBA.out.trans (hbz.mono HBA.out.size))
          clear hbz
          go_wp2
          go_ret
          exact ⟨rfl, HBZ.out⟩
      · clear hlt
        rcases cl with _ | _
        · by_cases hfull : L.length = l
          · have HS1 := Lib.hid (DeSrc_ok HD.out (by rw [HRL.out]; exact hfull) (PairsAt.mono HT.out HBL.out))
            have HKA := Lib.hid HKQ.out.at
            have HFU := Lib.hid hfull
            clear c0 c1 c2 c3 c4 c5 c6 c7 c8 hfull
            go_wp2_with fail
            refine HS1.out.mono ?_
            rintro e w11 ⟨v11, U, rfl, htl, hm11, hb11⟩
            have HM11 := Lib.hid hm11
            have HTL := Lib.hid htl
            have HB11 := Lib.hid hb11
            obtain ⟨c0, c1, c2, c3, c4, c5, c6, c7, c8⟩ := HXS.out _ hb11
            have HS2 := Lib.hid (rSource_ok (w := w11) k s h l p sd size _ L HOF.out hk1 (by omega) HSD.out.1 (HKA.out.mono hb11) HOK.out HFU.out (by omega))
            obtain ⟨a11, c11, rfl, -, -, -⟩ := hm11.opens
            clear htl hm11 hb11
            go_wp2_with fail
            refine HS2.out.mono ?_
            rintro e w12 ⟨v12, U2, rfl, hm12, htl2, hb12⟩
            obtain rfl : U2 = U := Tells.unique HD.out.sys.sys.cons (htl2.congr HSP.out) HTL.out
            have HB12 := Lib.hid (HB11.out.trans (hb12.mono HB11.out.size))
            have HM12 := Lib.hid hm12
            have HM11 := Lib.hid (HM11.out.mono hb12)
            obtain ⟨a12, c12, rfl, -, -, -⟩ := hm12.opens
            clear htl2 hm12 hb12 c0 c1 c2 c3 c4 c5 c6 c7 c8
            go_wp2_with fail
            refine (tells_nil nameDeSource).mono ?_
            rintro e wn ⟨rfl, rfl⟩
            go_wp2_with fail
            rw [List.length_map, List.length_range] at HM11 HM12
            with_reducible refine (sSame_any _ _ _ HM11.out HM12.out).mono ?_
            rintro e w13 ⟨rfl, hb13⟩
            have HBA := Lib.hid (HBL.out.trans ((HB12.out.trans (hb13.mono HB12.out.size)).mono HBL.out.size))
            clear hb13
            go_wp2_with fail
            refine (HAW.out _ HBA.out).mono ?_
            rintro e wz ⟨rfl, hbz⟩
            have HBZ := Lib.hid (HBA.out.trans (hbz.mono HBA.out.size))
            clear hbz
            go_wp2
            go_ret
            exact ⟨rfl, HBZ.out⟩
          · have HS1 := Lib.hid (DeSrc_none HD.out (by rw [HRL.out]; exact hfull) (HG.out.mono HBL.out))
            have HS2 : Hid (∀ Z, Calls Tryz.prog 23 #[.agg #[.int .i64 (k : Int), .int .i64 (s : Int), .int .i64 (h : Int), .int .i64 (l : Int), .int .i64 (p : Int), .int .i64 (sd : Int), .int .i64 (size : Int), .slice aL L.length cL, .bool false]] Z fun e w' => e = .returned (.tuple #[nilS, .int .i64 4]) ∧ Below Z.heap.size Z w') := Lib.hid fun Z => rSource_none k s h l p sd size aL L.length cL hfull
            clear c0 c1 c2 c3 c4 c5 c6 c7 c8 hfull
            go_wp2_with fail
            refine HS1.out.mono ?_
            rintro e w11 ⟨E11, rfl, he11, hb11⟩
            have HE11 := Lib.hid he11
            have HB11 := Lib.hid hb11
            obtain ⟨c0, c1, c2, c3, c4, c5, c6, c7, c8⟩ := HXS.out _ hb11
            clear he11 hb11
            go_wp2_with fail
            refine (HS2.out _).mono ?_
            rintro e w12 ⟨rfl, hb12⟩
            have hb112 := HB11.out.trans (hb12.mono HB11.out.size)
            have HB12 := Lib.hid hb112
            have HE12 := Lib.hid (HE11.out.mono hb12)
            clear hb12 hb112 c0 c1 c2 c3 c4 c5 c6 c7 c8
            go_wp2_with fail
            refine (tells_ans 4 nameDeSource _ HE12.out (HG.out.mono (HBL.out.trans (HB12.out.mono HBL.out.size)))).mono ?_
            rintro e w13 ⟨rfl, hb13⟩
            have HB13 := Lib.hid (HB12.out.trans (hb13.mono HB12.out.size))
            clear hb13
            go_wp2_with fail
            refine (sSame_any _ _ [] (MatAt.nil _ _) (MatAt.nil _ _)).mono ?_
            rintro e w14 ⟨rfl, hb14⟩
            have HBA := Lib.hid (HBL.out.trans ((HB13.out.trans (hb14.mono HB13.out.size)).mono HBL.out.size))
            clear hb14
            go_wp2_with fail
            refine (HAW.out _ HBA.out).mono ?_
            rintro e wz ⟨rfl, hbz⟩
            have HBZ := Lib.hid (HBA.out.trans (hbz.mono HBA.out.size))
            clear hbz
            go_wp2
            go_ret
            exact ⟨rfl, HBZ.out⟩
        · have HS1 := Lib.hid (DeSrc_over HD.out (HG.out.mono HBL.out))
          have HS2 : Hid (∀ Z, Calls Tryz.prog 23 #[.agg #[.int .i64 (k : Int), .int .i64 (s : Int), .int .i64 (h : Int), .int .i64 (l : Int), .int .i64 (p : Int), .int .i64 (sd : Int), .int .i64 (size : Int), .slice aL L.length cL, .bool true]] Z fun e w' => e = .returned (.tuple #[nilS, .int .i64 7]) ∧ Below Z.heap.size Z w') := Lib.hid fun Z => rSource_over k s h l p sd size _
          clear c0 c1 c2 c3 c4 c5 c6 c7 c8
          go_wp2_with fail
          refine HS1.out.mono ?_
          rintro e w11 ⟨E11, rfl, he11, hb11⟩
          have HE11 := Lib.hid he11
          have HB11 := Lib.hid hb11
          obtain ⟨c0, c1, c2, c3, c4, c5, c6, c7, c8⟩ := HXS.out _ hb11
          clear he11 hb11
          go_wp2_with fail
          refine (HS2.out _).mono ?_
          rintro e w12 ⟨rfl, hb12⟩
          have hb112 := HB11.out.trans (hb12.mono HB11.out.size)
          have HB12 := Lib.hid hb112
          have HE12 := Lib.hid (HE11.out.mono hb12)
          clear hb12 hb112 c0 c1 c2 c3 c4 c5 c6 c7 c8
          go_wp2_with fail
          refine (tells_ans 7 nameDeSource _ HE12.out (HG.out.mono (HBL.out.trans (HB12.out.mono HBL.out.size)))).mono ?_
          rintro e w13 ⟨rfl, hb13⟩
          have HB13 := Lib.hid (HB12.out.trans (hb13.mono HB12.out.size))
          clear hb13
          go_wp2_with fail
          refine (sSame_any _ _ [] (MatAt.nil _ _) (MatAt.nil _ _)).mono ?_
          rintro e w14 ⟨rfl, hb14⟩
          have HBA := Lib.hid (HBL.out.trans ((HB13.out.trans (hb14.mono HB13.out.size)).mono HBL.out.size))
          clear hb14
          go_wp2_with fail
          refine (HAW.out _ HBA.out).mono ?_
          rintro e wz ⟨rfl, hbz⟩
          have HBZ := Lib.hid (HBA.out.trans (hbz.mono HBA.out.size))
          clear hbz
          go_wp2
          go_ret
          exact ⟨rfl, HBZ.out⟩
end Go.Proofs.YtkhdjjcflbdegaaGreatDoor
