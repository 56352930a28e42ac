/- Package ltrow: Trip where it answers. -/
import Derived.Test.YtedadhoaegjhfaaDoorLtB
import Derived.Deep.RegionHeld3
import Derived.Deep.CutBlock
namespace Go.Proofs.YtedadhoaegjhfaaDoor
open Go.RowKit Go.Extern.Stop Go.Stop Go.Extern

set_option maxRecDepth 1000000 in
set_option maxHeartbeats 4000000 in
theorem Trip_ok {w : World} (k s h l p seed esi : Nat) (H : OfP k s h l p) (hk1 : 1 ≤ k) (hk2 : k ≤ 128) (hs : seed < 65536) (he : esi < 65536) (hT : DgTab w) :
    Calls Tryd.prog 8 #[parV k s h l p, .int .i64 (seed : Int), .int .i64 (esi : Int)] w fun e w' => e = .returned (.tuple #[tripV (trD l (mixN esi seed) : Nat) (trS p (mixN esi seed) : Nat) (trA p (mixN esi seed) : Nat), .nilIface]) ∧ Below w.heap.size w w' := by
  obtain ⟨b1, b2, b3, b4, b5, b6, b7⟩ := H.bounds hk1 hk2
  have hl1 : 1 ≤ l := by have := H.2.2.1; omega
  have hp2 : 2 ≤ p := H.2.2.2.two
  obtain ⟨w0, hw0, hb0, hbx⟩ := par_laid w k s h l p
  obtain ⟨w1, hw1, hb1, hbt⟩ := trip_laid w0 0 0 0
  have hs0 : w0.heap.size = w.heap.size + 1 := by rw [hw0]; simp
  have HW0 := Lib.hid hw0
  have HW1 := Lib.hid hw1
  have HB1 := Lib.hid (hb0.trans (hb1.mono hb0.size))
  have HT := Lib.hid hT
  rw [hs0] at hbt
  have HBX := Lib.hid (hbx.mono hb1)
  have HBT := Lib.hid hbt
  obtain ⟨c0, c1, c2, c3, c4⟩ := HBX.out.cells
  have HR : Hid (∀ w, Calls Tryd.prog 21 #[.agg #[.int .i64 (k : Int), .int .i64 (s : Int), .int .i64 (h : Int), .int .i64 (l : Int), .int .i64 (p : Int)]] w fun e w' => e = .returned .nilIface ∧ Below w.heap.size w w') := Lib.hid fun w => lRight_ok k s h l p H hk1 hk2
  obtain ⟨y, hy⟩ : ∃ y, mixN esi seed = y := ⟨_, rfl⟩
  rw [hy]
  have HM : Hid (∀ V, Calls Tryd.prog 25 #[.int .u32 (IntKind.u32.wrap (esi : Int)), .int .u32 (IntKind.u32.wrap (seed : Int))] V fun e w' => e = .returned (.int .u32 (y : Int)) ∧ V = w') := Lib.hid fun V => by
    have := mixU_any (w := V) esi seed
    rw [wrap_u32_nat, wrap_u32_nat, Nat.mod_eq_of_lt (show esi < 4294967296 by omega), Nat.mod_eq_of_lt (show seed < 4294967296 by omega)]
    rwa [hy] at this
  have d1 : decide ((seed : Int) < 0) = false := decide_eq_false (by omega)
  have d2 : decide ((65536 : Int) ≤ (seed : Int)) = false := decide_eq_false (by omega)
  have d3 : decide ((esi : Int) < 0) = false := decide_eq_false (by omega)
  have d4 : decide ((65536 : Int) ≤ (esi : Int)) = false := decide_eq_false (by omega)
  have d5 : decide (65536 ≤ seed) = false := decide_eq_false (by omega)
  have d6 : decide (65536 ≤ esi) = false := decide_eq_false (by omega)
  obtain ⟨D, hD⟩ : ∃ D, trD l y = D := ⟨_, rfl⟩
  obtain ⟨S, hS⟩ : ∃ S, trS p y = S := ⟨_, rfl⟩
  obtain ⟨A, hA⟩ : ∃ A, trA p y = A := ⟨_, rfl⟩
  rw [hD, hS, hA]
  have HDR : Hid (∀ V, DgTab V → Calls Tryd.prog 24 #[.agg #[.int .i64 (k : Int), .int .i64 (s : Int), .int .i64 (h : Int), .int .i64 (l : Int), .int .i64 (p : Int)], .int .u32 (y : Int)] V fun e w' => e = .returned (.tuple #[.agg #[.int .i64 (D : Int), .int .i64 (S : Int), .int .i64 (A : Int)], .nilIface]) ∧ Below V.heap.size V w') := Lib.hid fun V hV => by
    have := draw_ok (w := V) k s h l p y hl1 (by omega) hp2 (by omega) hV
    rwa [hD, hS, hA] at this
  clear hw0 hw1 hb0 hb1 hbx hbt hT hs0 H hy hD hS hA b1 b2 b3 b4 b5 b6 b7 hl1 hp2
  unfold parV parC tripV tripC
  go_enter Tryd.func8, Tryd.ntmps8
  go_upto_region 1 with fail
  rw [← HW0.out, ← HW1.out]
  go_wp2_with fail
  refine (HR.out _).mono ?_
  rintro e w2 ⟨rfl, hb2⟩
  have HB2 := Lib.hid (HB1.out.trans (hb2.mono HB1.out.size))
  have HBX2 := Lib.hid (HBX.out.mono hb2)
  have HBT2 := Lib.hid (HBT.out.mono hb2)
  have HT2 := Lib.hid (PairsAt.mono HT.out HB2.out)
  clear hb2 c0 c1 c2 c3 c4
  obtain ⟨c0, c1, c2, c3, c4⟩ := HBX2.out.cells
  obtain ⟨t0, t1, t2⟩ := HBT2.out.cells
  obtain ⟨y0, y1, y2⟩ := HBT2.out.free
  go_upto_region 6 with fail
  have HSAT : Hid (∀ V, Below w2.heap.size w2 V → V.cell? ⟨w.heap.size, 0, none⟩ = some (.int .i64 (k : Int)) ∧ V.cell? ⟨w.heap.size, 1, none⟩ = some (.int .i64 (s : Int)) ∧ V.cell? ⟨w.heap.size, 2, none⟩ = some (.int .i64 (h : Int)) ∧ V.cell? ⟨w.heap.size, 3, none⟩ = some (.int .i64 (l : Int)) ∧ V.cell? ⟨w.heap.size, 4, none⟩ = some (.int .i64 (p : Int))) := Lib.hid fun V hV => (HBX2.out.mono hV).cells
  have HBD : Hid (Below w2.heap.size w2 w2.drew) := Lib.hid (Below.refl _ _).drew
  have HSD := Lib.hid (HSAT.out _ HBD.out)
  obtain ⟨u2, hu2, hbu2, hut2⟩ := trip_laid w2 0 0 0
  have HU2 := Lib.hid hu2
  have HBDA : Hid (Below w2.heap.size w2 u2.drew) := Lib.hid hbu2.drew
  have HBTA : Hid (TripBox u2.drew w2.heap.size 0 0 0) := Lib.hid hut2
  clear hu2 hbu2 hut2
  go_region_held3 (fun w' => w'.cell? ⟨w.heap.size, 0, none⟩ = some (.int .i64 (k : Int)) ∧ w'.cell? ⟨w.heap.size, 1, none⟩ = some (.int .i64 (s : Int)) ∧ w'.cell? ⟨w.heap.size, 2, none⟩ = some (.int .i64 (h : Int)) ∧ w'.cell? ⟨w.heap.size, 3, none⟩ = some (.int .i64 (l : Int)) ∧ w'.cell? ⟨w.heap.size, 4, none⟩ = some (.int .i64 (p : Int)))
    (first | exact HSD.out | exact HSAT.out _ HB3.out | exact HSAT.out _ (HB3.out.alloc HB3.out.size _) | exact HSAT.out _ (TripBox.below HB3.out (Nat.le_refl _) _ _ _) | go_keep)
    (first
    | (go_at_call 25; (with_reducible refine (HM.out _).mono ?_); rintro e w3 ⟨rfl, rfl⟩)
    | (go_at_call 24; (with_reducible refine (HDR.out _ (PairsAt.mono HT2.out HBD.out)).mono ?_); rintro e w3 ⟨rfl, hb3⟩; have HB3 := Lib.hid (HBD.out.trans (hb3.mono HBD.out.size)); clear hb3)
    | (rw [← HU2.out]; go_at_call 24; (with_reducible refine (HDR.out _ (PairsAt.mono HT2.out HBDA.out)).mono ?_); rintro e w3 ⟨rfl, hb3⟩; have HB3 := Lib.hid (HBDA.out.trans (hb3.mono HBDA.out.size)); have hbt3 := HBTA.out.mono hb3; obtain ⟨g0, g1, g2⟩ := hbt3.cells; obtain ⟨i0, i1, i2⟩ := hbt3.free; have HBT3 := Lib.hid hbt3; clear hb3 hbt3))
  all_goals first
    | (obtain ⟨V, hV, hbV, htV, hrV⟩ : ∃ V, V = w3.alloc (.cells #[.int .i64 (D : Int), .int .i64 (S : Int), .int .i64 (A : Int)] 25) ∧ Below w.heap.size w V ∧ TripBox V w3.heap.size D S A ∧ TripBox V (w.heap.size + 1) 0 0 0 := ⟨_, rfl, (HB2.out.trans (HB3.out.mono HB2.out.size)).alloc (Nat.le_trans HB2.out.size HB3.out.size) _, heap_alloc_new w3 _, (HBT2.out.mono HB3.out).mono ((Below.refl _ _).alloc (Nat.le_refl _) _)⟩
       rw [← hV]
       have HVB := Lib.hid hbV
       have HVT := Lib.hid htV
       have HVR := Lib.hid hrV
       obtain ⟨v0, v1, v2⟩ := htV.cells
       obtain ⟨r0, r1, r2⟩ := hrV.cells
       obtain ⟨f0, f1, f2⟩ := hrV.free
       have HST := Lib.hid (((htV.set (b := w.heap.size + 1) (j := 0) (u := .int .i64 (D : Int)) (by have h1 := HBT2.out.lt; have h2 := HB3.out.size; omega)).set (b := w.heap.size + 1) (j := 1) (u := .int .i64 (S : Int)) (by have h1 := HBT2.out.lt; have h2 := HB3.out.size; omega)).set (b := w.heap.size + 1) (j := 2) (u := .int .i64 (A : Int)) (by have h1 := HBT2.out.lt; have h2 := HB3.out.size; omega)).cells
       clear hV hbV htV hrV  c0 c1 c2 c3 c4 t0 t1 t2 y0 y1 y2
       go_upto_region 7 with fail
       go_region_held3 (fun w' => w'.cell? ⟨w3.heap.size, 0, none⟩ = some (.int .i64 (D : Int)) ∧ w'.cell? ⟨w3.heap.size, 1, none⟩ = some (.int .i64 (S : Int)) ∧ w'.cell? ⟨w3.heap.size, 2, none⟩ = some (.int .i64 (A : Int)))
         (first | exact ⟨v0, v1, v2⟩ | exact HST.out | go_keep)
         (first
         | (go_at_call 22; (with_reducible refine (Wrap_nil _ _).mono ?_); rintro e w4 ⟨rfl, rfl⟩))
       all_goals
         go_wp2
         refine bodyPost_ret (results_row2 rfl _ _ (w.heap.size + 1) 25 _ (0, 0) _ rfl (HVR.out.done _ _ _) Tryd.underlying25 rfl (by kernel_rfl)) rfl ?_
         exact ⟨rfl, (TripBox.below HVB.out (by omega) _ _ _).drew⟩)
    | (obtain ⟨V, hV, hbV, htV, hrV⟩ : ∃ V, V = ((w3.setCell ⟨w2.heap.size, 0, none⟩ (.int .i64 (D : Int))).setCell ⟨w2.heap.size, 1, none⟩ (.int .i64 (S : Int))).setCell ⟨w2.heap.size, 2, none⟩ (.int .i64 (A : Int)) ∧ Below w.heap.size w V ∧ TripBox V w2.heap.size D S A ∧ TripBox V (w.heap.size + 1) 0 0 0 := ⟨_, rfl, TripBox.below (HB2.out.trans (HB3.out.mono HB2.out.size)) HB2.out.size _ _ _, HBT3.out.done _ _ _, (((HBT2.out.mono HB3.out).set (Nat.ne_of_lt HBT2.out.lt)).set (Nat.ne_of_lt HBT2.out.lt)).set (Nat.ne_of_lt HBT2.out.lt)⟩
       rw [← hV]
       have HVB := Lib.hid hbV
       have HVT := Lib.hid htV
       have HVR := Lib.hid hrV
       obtain ⟨v0, v1, v2⟩ := htV.cells
       obtain ⟨r0, r1, r2⟩ := hrV.cells
       obtain ⟨f0, f1, f2⟩ := hrV.free
       have HST := Lib.hid (((htV.set (b := w.heap.size + 1) (j := 0) (u := .int .i64 (D : Int)) (by have h1 := HBT2.out.lt; omega)).set (b := w.heap.size + 1) (j := 1) (u := .int .i64 (S : Int)) (by have h1 := HBT2.out.lt; omega)).set (b := w.heap.size + 1) (j := 2) (u := .int .i64 (A : Int)) (by have h1 := HBT2.out.lt; omega)).cells
       clear hV hbV htV hrV  c0 c1 c2 c3 c4 t0 t1 t2 y0 y1 y2
       go_upto_region 7 with fail
       go_region_held3 (fun w' => w'.cell? ⟨w2.heap.size, 0, none⟩ = some (.int .i64 (D : Int)) ∧ w'.cell? ⟨w2.heap.size, 1, none⟩ = some (.int .i64 (S : Int)) ∧ w'.cell? ⟨w2.heap.size, 2, none⟩ = some (.int .i64 (A : Int)))
         (first | exact ⟨v0, v1, v2⟩ | exact HST.out | go_keep)
         (first
         | (go_at_call 22; (with_reducible refine (Wrap_nil _ _).mono ?_); rintro e w4 ⟨rfl, rfl⟩))
       all_goals
         go_wp2
         refine bodyPost_ret (results_row2 rfl _ _ (w.heap.size + 1) 25 _ (0, 0) _ rfl (HVR.out.done _ _ _) Tryd.underlying25 rfl (by kernel_rfl)) rfl ?_
         exact ⟨rfl, (TripBox.below HVB.out (by omega) _ _ _).drew⟩)
end Go.Proofs.YtedadhoaegjhfaaDoor
