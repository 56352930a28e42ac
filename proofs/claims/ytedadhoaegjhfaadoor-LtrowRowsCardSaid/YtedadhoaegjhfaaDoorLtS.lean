/- Package geyserref10: Row, Check, CheckTrip. -/
import Derived.Test.YtedadhoaegjhfaaDoorLtR
namespace Go.Proofs.YtedadhoaegjhfaaDoor
open Go.RowKit Go.Extern.Stop Go.Stop Go.Extern

set_option maxRecDepth 1000000 in
set_option maxHeartbeats 4000000 in
theorem rCheck_in {w : World} (k s h l p seed esi : Nat) (H : OfP k s h l p) (hk1 : 1 ≤ k) (hk2 : k ≤ 128) (hs : seed < 65536) (he : esi < 65536) :
    Calls Tryd.prog 9 #[parV k s h l p, .int .i64 (seed : Int), .int .i64 (esi : Int)] w fun e w' => e = .returned (.int .i64 0) ∧ Below w.heap.size w w' := by
  obtain ⟨w0, hw0, hb0, hbx⟩ := par_laid w k s h l p
  have HW0 := Lib.hid hw0
  have HB0 := Lib.hid hb0
  obtain ⟨c0, c1, c2, c3, c4⟩ := hbx.cells
  have HR : Hid (∀ V, Calls Tryd.prog 26 #[.agg #[.int .i64 (k : Int), .int .i64 (s : Int), .int .i64 (h : Int), .int .i64 (l : Int), .int .i64 (p : Int)]] V fun e w' => e = .returned (.bool true) ∧ Below V.heap.size V w') := Lib.hid fun V => rRight_good k s h l p H hk1 hk2
  have d1 : decide ((seed : Int) < 0) = false := decide_eq_false (by omega)
  have d2 : decide ((65535 : Int) < (seed : Int)) = false := decide_eq_false (by omega)
  have d3 : decide ((esi : Int) < 0) = false := decide_eq_false (by omega)
  have d4 : decide ((65535 : Int) < (esi : Int)) = false := decide_eq_false (by omega)
  have d5 : decide (65535 < seed) = false := decide_eq_false (by omega)
  have d6 : decide (65535 < esi) = false := decide_eq_false (by omega)
  clear hw0 hb0 hbx H
  unfold parV parC
  go_enter Tryd.func9, Tryd.ntmps9
  go_upto_region 1 with fail
  rw [← HW0.out]
  go_wp2_with fail
  refine (HR.out _).mono ?_
  rintro e w2 ⟨rfl, hb2⟩
  have HB2 := Lib.hid (HB0.out.trans (hb2.mono HB0.out.size))
  clear hb2 c0 c1 c2 c3 c4
  go_wp2
  go_ret
  exact ⟨rfl, HB2.out⟩

set_option maxRecDepth 1000000 in
set_option maxHeartbeats 4000000 in
theorem rCheck_no {w : World} (K S H L P seed esi : Int) (hK : I64 K) (hbad : ¬ Good K S H L P ∨ seed < 0 ∨ 65536 ≤ seed ∨ esi < 0 ∨ 65536 ≤ esi) :
    Calls Tryd.prog 9 #[parV K S H L P, .int .i64 seed, .int .i64 esi] w fun e w' => e = .returned (.int .i64 1) ∧ Below w.heap.size w w' := by
  obtain ⟨w0, hw0, hb0, hbx⟩ := par_laid w K S H L P
  have HW0 := Lib.hid hw0
  have HB0 := Lib.hid hb0
  obtain ⟨c0, c1, c2, c3, c4⟩ := hbx.cells
  clear hw0 hb0 hbx
  by_cases hgood : Good K S H L P
  · obtain ⟨k, s, h, l, p, rfl, rfl, rfl, rfl, rfl, hk1, hk2, hof⟩ := hgood
    have hout : seed < 0 ∨ 65536 ≤ seed ∨ esi < 0 ∨ 65536 ≤ esi := hbad.resolve_left fun hn => hn ⟨k, s, h, l, p, rfl, rfl, rfl, rfl, rfl, hk1, hk2, hof⟩
    have HD : Hid (decide (seed < 0) = true ∨ (decide (seed < 0) = false ∧ decide (65535 < seed) = true) ∨ (decide (seed < 0) = false ∧ decide (65535 < seed) = false ∧ decide (esi < 0) = true) ∨ (decide (seed < 0) = false ∧ decide (65535 < seed) = false ∧ decide (esi < 0) = false ∧ decide (65535 < esi) = true)) := Lib.hid (by
      simp only [decide_eq_true_eq, decide_eq_false_iff_not]
      omega)
    have HR : Hid (∀ V, Calls Tryd.prog 26 #[.agg #[.int .i64 (k : Int), .int .i64 (s : Int), .int .i64 (h : Int), .int .i64 (l : Int), .int .i64 (p : Int)]] V fun e w' => e = .returned (.bool true) ∧ Below V.heap.size V w') := Lib.hid fun V => rRight_good k s h l p hof hk1 hk2
    clear hout hbad hof hK
    unfold parV parC
    rcases HD.out with d1 | ⟨d1, d2⟩ | ⟨d1, d2, d3⟩ | ⟨d1, d2, d3, d4⟩
    all_goals
      go_enter Tryd.func9, Tryd.ntmps9
      go_upto_region 1 with fail
      rw [← HW0.out]
      go_wp2_with fail
      refine (HR.out _).mono ?_
      rintro e w2 ⟨rfl, hb2⟩
      have HB2 := Lib.hid (HB0.out.trans (hb2.mono HB0.out.size))
      clear hb2 c0 c1 c2 c3 c4
      go_wp2
      go_ret
      exact ⟨rfl, HB2.out⟩
  · have HR : Hid (∀ V, Calls Tryd.prog 26 #[.agg #[.int .i64 K, .int .i64 S, .int .i64 H, .int .i64 L, .int .i64 P]] V fun e w' => e = .returned (.bool false) ∧ Below V.heap.size V w') := Lib.hid fun V => rRight_bad K S H L P hgood hK
    clear hbad hgood hK
    unfold parV parC
    go_enter Tryd.func9, Tryd.ntmps9
    go_upto_region 1 with fail
    rw [← HW0.out]
    go_wp2_with fail
    refine (HR.out _).mono ?_
    rintro e w2 ⟨rfl, hb2⟩
    have HB2 := Lib.hid (HB0.out.trans (hb2.mono HB0.out.size))
    clear hb2 c0 c1 c2 c3 c4
    go_wp2
    go_ret
    exact ⟨rfl, HB2.out⟩

/-- A trip that may be, of good numbers. -/
def TripIn (l p : Nat) (d s a : Int) : Prop := 1 ≤ d ∧ d ≤ (l : Int) ∧ 1 ≤ s ∧ s < (p : Int) ∧ 0 ≤ a ∧ a < (p : Int)

set_option maxRecDepth 1000000 in
set_option maxHeartbeats 4000000 in
theorem rCheckTrip_in {w : World} (k s h l p d st a : Nat) (H : OfP k s h l p) (hk1 : 1 ≤ k) (hk2 : k ≤ 128) (hd1 : 1 ≤ d) (hd2 : d ≤ l) (hs1 : 1 ≤ st) (hs2 : st < p) (ha : a < p) :
    Calls Tryd.prog 14 #[parV k s h l p, tripV d st a] w fun e w' => e = .returned (.int .i64 0) ∧ Below w.heap.size w w' := by
  obtain ⟨b1, b2, b3, b4, b5, b6, b7⟩ := H.bounds hk1 hk2
  obtain ⟨w0, hw0, hb0, hbx⟩ := par_laid w k s h l p
  obtain ⟨w1, hw1, hb1, hbt⟩ := trip_laid w0 d st a
  have hs0 : w0.heap.size = w.heap.size + 1 := by rw [hw0]; simp
  have HW0 := Lib.hid hw0
  have HW1 := Lib.hid hw1
  have HB1 := Lib.hid (hb0.trans (hb1.mono hb0.size))
  rw [hs0] at hbt
  have HBX := Lib.hid (hbx.mono hb1)
  have HBT := Lib.hid hbt
  obtain ⟨c0, c1, c2, c3, c4⟩ := HBX.out.cells
  obtain ⟨t0, t1, t2⟩ := HBT.out.cells
  have HR : Hid (∀ V, Calls Tryd.prog 26 #[.agg #[.int .i64 (k : Int), .int .i64 (s : Int), .int .i64 (h : Int), .int .i64 (l : Int), .int .i64 (p : Int)]] V fun e w' => e = .returned (.bool true) ∧ Below V.heap.size V w') := Lib.hid fun V => rRight_good k s h l p H hk1 hk2
  have hwp : IntKind.i64.wrap ((p : Int) - 1) = (p : Int) - 1 := IntWalk.i64_in _ (by omega)
  have d1 : decide ((d : Int) < 1) = false := decide_eq_false (by omega)
  have d2 : decide ((l : Int) < (d : Int)) = false := decide_eq_false (by omega)
  have d3 : decide ((st : Int) < 1) = false := decide_eq_false (by omega)
  have d4 : decide ((p : Int) - 1 < (st : Int)) = false := decide_eq_false (by omega)
  have d5 : decide ((a : Int) < 0) = false := decide_eq_false (by omega)
  have d6 : decide ((p : Int) - 1 < (a : Int)) = false := decide_eq_false (by omega)
  have d7 : decide (l < d) = false := decide_eq_false (by omega)
  clear hw0 hw1 hb0 hb1 hbx hbt hs0 H
  unfold parV parC tripV tripC
  go_enter Tryd.func14, Tryd.ntmps14
  go_upto_region 1 with fail
  rw [← HW0.out, ← HW1.out]
  go_wp2_with fail
  refine (HR.out _).mono ?_
  rintro e w2 ⟨rfl, hb2⟩
  have HB2 := Lib.hid (HB1.out.trans (hb2.mono HB1.out.size))
  have HBX2 := HBX.out.mono hb2
  have HBT2 := HBT.out.mono hb2
  clear hb2 c0 c1 c2 c3 c4 t0 t1 t2
  obtain ⟨c0, c1, c2, c3, c4⟩ := HBX2.cells
  obtain ⟨t0, t1, t2⟩ := HBT2.cells
  clear HBX2 HBT2
  go_wp2
  go_ret
  exact ⟨rfl, HB2.out⟩

set_option maxRecDepth 1000000 in
set_option maxHeartbeats 4000000 in
theorem rCheckTrip_no {w : World} (K S H L P d st a : Int) (hK : I64 K) (hbad : ∀ k s h l p : Nat, K = k → S = s → H = h → L = l → P = p → 1 ≤ k → k ≤ 128 → OfP k s h l p → ¬ TripIn l p d st a) :
    Calls Tryd.prog 14 #[parV K S H L P, tripV d st a] w fun e w' => e = .returned (.int .i64 1) ∧ Below w.heap.size w w' := by
  obtain ⟨w0, hw0, hb0, hbx⟩ := par_laid w K S H L P
  obtain ⟨w1, hw1, hb1, hbt⟩ := trip_laid w0 d st a
  have hs0 : w0.heap.size = w.heap.size + 1 := by rw [hw0]; simp
  have HW0 := Lib.hid hw0
  have HW1 := Lib.hid hw1
  have HB1 := Lib.hid (hb0.trans (hb1.mono hb0.size))
  rw [hs0] at hbt
  have HBX := Lib.hid (hbx.mono hb1)
  have HBT := Lib.hid hbt
  obtain ⟨c0, c1, c2, c3, c4⟩ := HBX.out.cells
  obtain ⟨t0, t1, t2⟩ := HBT.out.cells
  clear hw0 hw1 hb0 hb1 hbx hbt hs0
  by_cases hgood : Good K S H L P
  · obtain ⟨k, s, h, l, p, rfl, rfl, rfl, rfl, rfl, hk1, hk2, hof⟩ := hgood
    obtain ⟨b1, b2, b3, b4, b5, b6, b7⟩ := hof.bounds hk1 hk2
    have hn := hbad k s h l p rfl rfl rfl rfl rfl hk1 hk2 hof
    unfold TripIn at hn
    have HD : Hid (decide (d < 1) = true ∨ (decide (d < 1) = false ∧ decide ((l : Int) < d) = true) ∨ (decide (d < 1) = false ∧ decide ((l : Int) < d) = false ∧ decide (st < 1) = true) ∨ (decide (d < 1) = false ∧ decide ((l : Int) < d) = false ∧ decide (st < 1) = false ∧ decide ((p : Int) - 1 < st) = true) ∨ (decide (d < 1) = false ∧ decide ((l : Int) < d) = false ∧ decide (st < 1) = false ∧ decide ((p : Int) - 1 < st) = false ∧ decide (a < 0) = true) ∨ (decide (d < 1) = false ∧ decide ((l : Int) < d) = false ∧ decide (st < 1) = false ∧ decide ((p : Int) - 1 < st) = false ∧ decide (a < 0) = false ∧ decide ((p : Int) - 1 < a) = true)) := Lib.hid (by
      simp only [decide_eq_true_eq, decide_eq_false_iff_not]
      omega)
    have hwp : IntKind.i64.wrap ((p : Int) - 1) = (p : Int) - 1 := IntWalk.i64_in _ (by omega)
    have HR : Hid (∀ V, Calls Tryd.prog 26 #[.agg #[.int .i64 (k : Int), .int .i64 (s : Int), .int .i64 (h : Int), .int .i64 (l : Int), .int .i64 (p : Int)]] V fun e w' => e = .returned (.bool true) ∧ Below V.heap.size V w') := Lib.hid fun V => rRight_good k s h l p hof hk1 hk2
    clear hn hbad hof hK
    unfold parV parC tripV tripC
    rcases HD.out with d1 | ⟨d1, d2⟩ | ⟨d1, d2, d3⟩ | ⟨d1, d2, d3, d4⟩ | ⟨d1, d2, d3, d4, d5⟩ | ⟨d1, d2, d3, d4, d5, d6⟩
    all_goals
      go_enter Tryd.func14, Tryd.ntmps14
      go_upto_region 1 with fail
      rw [← HW0.out, ← HW1.out]
      go_wp2_with fail
      refine (HR.out _).mono ?_
      rintro e w2 ⟨rfl, hb2⟩
      have HB2 := Lib.hid (HB1.out.trans (hb2.mono HB1.out.size))
      have HBX2 := HBX.out.mono hb2
      have HBT2 := HBT.out.mono hb2
      clear hb2 c0 c1 c2 c3 c4 t0 t1 t2
      obtain ⟨c0, c1, c2, c3, c4⟩ := HBX2.cells
      obtain ⟨t0, t1, t2⟩ := HBT2.cells
      clear HBX2 HBT2
      go_wp2
      go_ret
      exact ⟨rfl, HB2.out⟩
  · have HR : Hid (∀ V, Calls Tryd.prog 26 #[.agg #[.int .i64 K, .int .i64 S, .int .i64 H, .int .i64 L, .int .i64 P]] V fun e w' => e = .returned (.bool false) ∧ Below V.heap.size V w') := Lib.hid fun V => rRight_bad K S H L P hgood hK
    clear hbad hgood hK
    unfold parV parC tripV tripC
    go_enter Tryd.func14, Tryd.ntmps14
    go_upto_region 1 with fail
    rw [← HW0.out, ← HW1.out]
    go_wp2_with fail
    refine (HR.out _).mono ?_
    rintro e w2 ⟨rfl, hb2⟩
    have HB2 := Lib.hid (HB1.out.trans (hb2.mono HB1.out.size))
    clear hb2 c0 c1 c2 c3 c4 t0 t1 t2
    go_wp2
    go_ret
    exact ⟨rfl, HB2.out⟩

set_option maxRecDepth 1000000 in
set_option maxHeartbeats 4000000 in
theorem rRow_any {w : World} (k s h l p seed esi : Nat) (H : OfP k s h l p) (hk1 : 1 ≤ k) (hk2 : k ≤ 128) (hs : seed < 65536) (he : esi < 65536) :
    Calls Tryd.prog 18 #[parV k s h l p, .int .i64 (seed : Int), .int .i64 (esi : Int)] w fun e w' => ∃ v W, e = .returned v ∧ IsTr l p (trS p (mixN esi seed)) (trA p (mixN esi seed)) (trD l (mixN esi seed)) W ∧ ListAt intV w' v ((risN l W).map Int.ofNat) ∧ Below w.heap.size w w' := by
  obtain ⟨i0, hi, hz0, hz1, hz2⟩ := info_parts info_int
  obtain ⟨b1, b2, b3, b4, b5, b6, b7⟩ := H.bounds hk1 hk2
  have hl1 : 1 ≤ l := by have := H.2.2.1; omega
  have hp2 : 2 ≤ p := H.2.2.2.two
  have hpp : IsP p := H.2.2.2.1
  obtain ⟨w0, hw0, hb0, hbx⟩ := par_laid w k s h l p
  have HW0 := Lib.hid hw0
  have HB0 := Lib.hid hb0
  have HBX := Lib.hid hbx
  obtain ⟨c0, c1, c2, c3, c4⟩ := hbx.cells
  obtain ⟨D, hD⟩ : ∃ D, trD l (mixN esi seed) = D := ⟨_, rfl⟩
  obtain ⟨S, hS⟩ : ∃ S, trS p (mixN esi seed) = S := ⟨_, rfl⟩
  obtain ⟨A, hA⟩ : ∃ A, trA p (mixN esi seed) = A := ⟨_, rfl⟩
  have bD := trD_bd (y := mixN esi seed) hl1
  have bS := trS_bd (y := mixN esi seed) hp2
  have bA := trA_bd (y := mixN esi seed) hp2
  rw [hD] at bD
  rw [hS] at bS
  rw [hA] at bA
  have HTR : Hid (∀ V, Calls Tryd.prog 12 #[.agg #[.int .i64 (k : Int), .int .i64 (s : Int), .int .i64 (h : Int), .int .i64 (l : Int), .int .i64 (p : Int)], .int .i64 (seed : Int), .int .i64 (esi : Int)] V fun e w' => e = .returned (.agg #[.int .i64 (D : Int), .int .i64 (S : Int), .int .i64 (A : Int)]) ∧ Below V.heap.size V w') := Lib.hid fun V => by
    have := rTrip_any (w := V) k s h l p seed esi hp2 (by omega) hs he
    rwa [hD, hS, hA] at this
  have HWK : Hid (∀ V, Calls Tryd.prog 16 #[.agg #[.int .i64 (k : Int), .int .i64 (s : Int), .int .i64 (h : Int), .int .i64 (l : Int), .int .i64 (p : Int)], .agg #[.int .i64 (D : Int), .int .i64 (S : Int), .int .i64 (A : Int)]] V fun e w' => ∃ v W, e = .returned v ∧ IsTr l p S A D W ∧ ListAt intV w' v (W.map Int.ofNat) ∧ Below V.heap.size V w') := Lib.hid fun V => rWalk_any k s h l p D S A hpp b6 (by omega) bS.1 bS.2 bA bD.1 bD.2
  rw [hD, hS, hA]
  have HBL : Hid (l ≤ 1000) := Lib.hid (by omega)
  clear hw0 hb0 hbx H hD hS hA b1 b2 b3 b4 b5 b6 b7 hl1 hp2 hpp bD bS bA
  unfold parV parC
  go_enter Tryd.func18, Tryd.ntmps18
  go_upto_region 1 with fail
  rw [← HW0.out]
  have HSAT : Hid (∀ V, Below w0.heap.size w0 V → V.cell? ⟨w.heap.size, 0, none⟩ = some (.int .i64 (k : Int)) ∧ V.cell? ⟨w.heap.size, 1, none⟩ = some (.int .i64 (s : Int)) ∧ V.cell? ⟨w.heap.size, 2, none⟩ = some (.int .i64 (h : Int)) ∧ V.cell? ⟨w.heap.size, 3, none⟩ = some (.int .i64 (l : Int)) ∧ V.cell? ⟨w.heap.size, 4, none⟩ = some (.int .i64 (p : Int))) := Lib.hid fun V hV => (HBX.out.mono hV).cells
  have HBD : Hid (Below w0.heap.size w0 w0.drew) := Lib.hid (Below.refl _ _).drew
  go_region_held3 (fun w' => w'.cell? ⟨w.heap.size, 0, none⟩ = some (.int .i64 (k : Int)) ∧ w'.cell? ⟨w.heap.size, 1, none⟩ = some (.int .i64 (s : Int)) ∧ w'.cell? ⟨w.heap.size, 2, none⟩ = some (.int .i64 (h : Int)) ∧ w'.cell? ⟨w.heap.size, 3, none⟩ = some (.int .i64 (l : Int)) ∧ w'.cell? ⟨w.heap.size, 4, none⟩ = some (.int .i64 (p : Int)))
    (first | exact HSAT.out _ HB4.out | exact HSAT.out _ HB3.out | exact HSAT.out _ HBD.out | go_keep)
    (first
    | (go_at_call 12; (with_reducible refine (HTR.out _).mono ?_); rintro e w3 ⟨rfl, hb3⟩; have HB3 := Lib.hid (HBD.out.trans (hb3.mono HBD.out.size)); clear hb3)
    | (go_at_call 16; (with_reducible refine (HWK.out _).mono ?_); rintro e w4 ⟨v, W, rfl, hw, hl, hb4⟩; have HB4 := Lib.hid (HB3.out.trans (hb4.mono HB3.out.size)); have HW := Lib.hid hw; have HL := Lib.hid hl; clear hb4 hw hl))
  all_goals
    have HX4 := Lib.hid (HBX.out.mono HB4.out)
    have HBB := Lib.hid (HB0.out.trans (HB4.out.mono HB0.out.size))
    clear c0 c1 c2 c3 c4
    obtain ⟨c0, c1, c2, c3, c4⟩ := HX4.out.cells
    have hba : Below w4.heap.size w4 (w4.alloc (.cells #[] 3)) := (Below.refl _ _).alloc (Nat.le_refl _) _
    have HBA := Lib.hid hba
    clear hba
    have hbl : l ≤ 1000 := HBL.out
    go_wp2_with fail
    go_loopg [8, 9] l (fun gk out i wr => ∃ k' : Nat, k' + gk = l ∧ i = .int .i64 (k' : Int) ∧ wr.ownsRow w4.heap.size 3 1 out (risN k' W).length (((risN k' W).map Int.ofNat).map intV) ∧ Below w4.heap.size w4 wr)
    case atStart => exact ⟨0, by omega, rfl, World.ownsRow_made (base := w4.heap.size) (e := 3) (size := 1) w4 #[] 0 (Nat.le_refl _) (by decide) rfl, HBA.out⟩
    case round =>
      obtain ⟨k', hkl, rfl, hown, hbel⟩ := hrel
      have HO := Lib.hid hown
      have HB := Lib.hid hbel
      have HS := Lib.hid hbel.size
      have HQ : Hid ((risN k' W).length ≤ k') := Lib.hid (by
        unfold risN
        exact Nat.le_trans (List.length_filter_le _ _) (by rw [List.length_range]; exact Nat.le_refl _))
      clear c0 c1 c2 c3 c4
      obtain ⟨c0, c1, c2, c3, c4⟩ := (HX4.out.mono hbel).cells
      cases gk with
      | zero =>
        obtain rfl : k' = l := by omega
        clear hkl hown hbel
        go_wp2
        go_ret
        exact ⟨_, W, rfl, HW.out, ListAt.of_owns (f := intV) (by have := HO.out; rwa [← List.length_map (f := Int.ofNat)] at this), HBB.out.trans (HB.out.mono HBB.out.size)⟩
      | succ go =>
        have hkd1 : k' < l := by omega
        have HGO : Hid (k' + 1 + go = l) := Lib.hid (by omega)
        have HIN : Hid (∀ V, Below w4.heap.size w4 V → Calls Tryd.prog 20 #[v, .int .i64 (k' : Int)] V fun e w' => e = .returned (.bool (decide (k' ∈ W))) ∧ V = w') := Lib.hid fun V hV => by
          have := In_any (w := V) v (W.map Int.ofNat) (k' : Int) (HL.out.mono hV)
          rwa [show decide ((k' : Int) ∈ W.map Int.ofNat) = decide (k' ∈ W) from by rw [decide_eq_decide]; exact mem_mapI] at this
        clear hkl hown hbel
        by_cases hm : k' ∈ W
        · have HI := Lib.hid (risN_in hm)
          have HM : Hid (decide (k' ∈ W) = true) := Lib.hid (decide_eq_true hm)
          obtain ⟨q, hqe⟩ : ∃ q, (risN k' W).length = q := ⟨_, rfl⟩
          have hq : q ≤ k' := hqe ▸ HQ.out
          have HO3 : Hid ((wr.alloc (.cells #[.int .i64 (k' : Int)] 3)).ownsRow w4.heap.size 3 1 u8 q (((risN k' W).map Int.ofNat).map intV)) := Lib.hid (by rw [← hqe]; exact HO.out.alloc (.cells #[.int .i64 (k' : Int)] 3))
          have HQE := Lib.hid hqe
          clear hm hqe
          go_wp2_with fail
          refine (HIN.out _ HB.out).mono ?_
          rintro e w5 ⟨rfl, rfl⟩
          rw [HM.out]
          go_wp2_with (at_builtin; refine wpList_append_own _ rfl (.tmp 26) (.tmp 28) 35 rfl w4.heap.size 3 i0 (.int .i64 0) 1 8 Tryd.underlying35 hi hz0 hz1 hz2 rfl (by decide) _ q (((risN k' W).map Int.ofNat).map intV) rfl HO3.out ⟨wr.heap.size, 0, none⟩ 1 1 [.int .i64 (k' : Int)] rfl rfl (cell_one_new _ _ _) (fun x hx => by simp at hx; subst hx; rfl) (by unfold maxLen; omega) (by omega) (by have := HS.out; simp; omega) ?_; intro v5 w5 hown1 hgrow1 _; have hgr5 : Hid ((wr.alloc (.cells #[.int .i64 (k' : Int)] 3)).grownBy w5 u8.ownBlock) := Lib.hid hgrow1; have ho5 := Lib.hid hown1; clear hown1 hgrow1)
          go_roundg go
          case measure => omega
          have hba : Below wr.heap.size wr (wr.alloc (.cells #[.int .i64 (k' : Int)] 3)) := (Below.refl _ _).alloc (Nat.le_refl _) _
          exact ⟨k' + 1, HGO.out, by go_num, by rw [HI.out, List.length_append, HQE.out, List.map_append, List.map_append]; exact ho5.out, (HB.out.trans (hba.mono HB.out.size)).grown hgr5.out (by have := HS.out; simp; omega) (fun k hk => (HO3.out.lt k hk).1)⟩
        · have HI := Lib.hid (risN_out hm)
          have HM : Hid (decide (k' ∈ W) = false) := Lib.hid (decide_eq_false hm)
          clear hm
          go_wp2_with fail
          refine (HIN.out _ HB.out).mono ?_
          rintro e w5 ⟨rfl, rfl⟩
          rw [HM.out]
          go_wp2
          go_roundg go
          case measure => omega
          exact ⟨k' + 1, HGO.out, by go_num, by rw [HI.out]; exact HO.out, HB.out⟩
end Go.Proofs.YtedadhoaegjhfaaDoor
