import Derived.Test.YtkhdjjcflbdegaaGreatDoorG19
import Derived.Deep.RegionHeld3
import Derived.Deep.CutBlock
import Derived.Test.YtkhdjjcflbdegaaGreatDoorG18

section
/- Package ltrow: Trip where it answers. -/
namespace Go.Proofs.YtkhdjjcflbdegaaGreatDoor
open Go.RowKit Go.Extern.Stop Go.Stop Go.Extern

set_option maxRecDepth 1000000 in
set_option maxHeartbeats 4000000 in
theorem Trip_ok {w : World} (k s h l p seed esi : Nat) (H : OfP k s h l p) (hk1 : 1 ≤ k) (hk2 : k ≤ 128) (hs : seed < 65536) (he : esi < 65536) (hT : DgTab w) :
    Calls Tryz.prog 98 #[parV k s h l p, .int .i64 (seed : Int), .int .i64 (esi : Int)] w fun e w' => e = .returned (.tuple #[tripV (trD l (mixN esi seed) : Nat) (trS p (mixN esi seed) : Nat) (trA p (mixN esi seed) : Nat), .nilIface]) ∧ Below w.heap.size w w' := by
  obtain ⟨b1, b2, b3, b4, b5, b6, b7⟩ := H.bounds hk1 hk2
  have hl1 : 1 ≤ l := by have := H.2.2.1; omega
  have hp2 : 2 ≤ p := H.2.2.2.two
  obtain ⟨w0, hw0, hb0, hbx⟩ := par_laid w k s h l p
  obtain ⟨w1, hw1, hb1, hbt⟩ := trip_laid w0 0 0 0
  have hs0 : w0.heap.size = w.heap.size + 1 := by rw [hw0]; simp
  have HW0 := Lib.hid hw0
  have HW1 := Lib.hid hw1
  have HB1 := Lib.hid (hb0.trans (hb1.mono hb0.size))
  have HT := Lib.hid hT
  rw [hs0] at hbt
  have HBX := Lib.hid (hbx.mono hb1)
  have HBT := Lib.hid hbt
  obtain ⟨c0, c1, c2, c3, c4⟩ := HBX.out.cells
  have HR : Hid (∀ w, Calls Tryz.prog 124 #[.agg #[.int .i64 (k : Int), .int .i64 (s : Int), .int .i64 (h : Int), .int .i64 (l : Int), .int .i64 (p : Int)]] w fun e w' => e = .returned .nilIface ∧ Below w.heap.size w w') := Lib.hid fun w => lRight_ok k s h l p H hk1 hk2
  obtain ⟨y, hy⟩ : ∃ y, mixN esi seed = y := ⟨_, rfl⟩
  rw [hy]
  have HM : Hid (∀ V, Calls Tryz.prog 126 #[.int .u32 (IntKind.u32.wrap (esi : Int)), .int .u32 (IntKind.u32.wrap (seed : Int))] V fun e w' => e = .returned (.int .u32 (y : Int)) ∧ V = w') := Lib.hid fun V => by
    have := mixU_any (w := V) esi seed
    rw [wrap_u32_nat, wrap_u32_nat, Nat.mod_eq_of_lt (show esi < 4294967296 by omega), Nat.mod_eq_of_lt (show seed < 4294967296 by omega)]
    rwa [hy] at this
  have d1 : decide ((seed : Int) < 0) = false := decide_eq_false (by omega)
  have d2 : decide ((65536 : Int) ≤ (seed : Int)) = false := decide_eq_false (by omega)
  have d3 : decide ((esi : Int) < 0) = false := decide_eq_false (by omega)
  have d4 : decide ((65536 : Int) ≤ (esi : Int)) = false := decide_eq_false (by omega)
  have d5 : decide (65536 ≤ seed) = false := decide_eq_false (by omega)
  have d6 : decide (65536 ≤ esi) = false := decide_eq_false (by omega)
  obtain ⟨D, hD⟩ : ∃ D, trD l y = D := ⟨_, rfl⟩
  obtain ⟨S, hS⟩ : ∃ S, trS p y = S := ⟨_, rfl⟩
  obtain ⟨A, hA⟩ : ∃ A, trA p y = A := ⟨_, rfl⟩
  rw [hD, hS, hA]
  have HDR : Hid (∀ V, DgTab V → Calls Tryz.prog 125 #[.agg #[.int .i64 (k : Int), .int .i64 (s : Int), .int .i64 (h : Int), .int .i64 (l : Int), .int .i64 (p : Int)], .int .u32 (y : Int)] V fun e w' => e = .returned (.tuple #[.agg #[.int .i64 (D : Int), .int .i64 (S : Int), .int .i64 (A : Int)], .nilIface]) ∧ Below V.heap.size V w') := Lib.hid fun V hV => by
    have := draw_ok (w := V) k s h l p y hl1 (by omega) hp2 (by omega) hV
    rwa [hD, hS, hA] at this
  clear hw0 hw1 hb0 hb1 hbx hbt hT hs0 H hy hD hS hA b1 b2 b3 b4 b5 b6 b7 hl1 hp2
  unfold parV parC tripV tripC
  go_enter Tryz.func98, Tryz.ntmps98
  go_upto_region 1 with fail
  rw [← HW0.out, ← HW1.out]
  go_wp2_with fail
  refine (HR.out _).mono ?_
  rintro e w2 ⟨rfl, hb2⟩
  have HB2 := Lib.hid (HB1.out.trans (hb2.mono HB1.out.size))
  have HBX2 := Lib.hid (HBX.out.mono hb2)
  have HBT2 := Lib.hid (HBT.out.mono hb2)
  have HT2 := Lib.hid (PairsAt.mono HT.out HB2.out)
  clear hb2 c0 c1 c2 c3 c4
  obtain ⟨c0, c1, c2, c3, c4⟩ := HBX2.out.cells
  obtain ⟨t0, t1, t2⟩ := HBT2.out.cells
  obtain ⟨y0, y1, y2⟩ := HBT2.out.free
  go_upto_region 6 with fail
  have HSAT : Hid (∀ V, Below w2.heap.size w2 V → V.cell? ⟨w.heap.size, 0, none⟩ = some (.int .i64 (k : Int)) ∧ V.cell? ⟨w.heap.size, 1, none⟩ = some (.int .i64 (s : Int)) ∧ V.cell? ⟨w.heap.size, 2, none⟩ = some (.int .i64 (h : Int)) ∧ V.cell? ⟨w.heap.size, 3, none⟩ = some (.int .i64 (l : Int)) ∧ V.cell? ⟨w.heap.size, 4, none⟩ = some (.int .i64 (p : Int))) := Lib.hid fun V hV => (HBX2.out.mono hV).cells
  have HBD : Hid (Below w2.heap.size w2 w2.drew) := Lib.hid (Below.refl _ _).drew
  have HSD := Lib.hid (HSAT.out _ HBD.out)
  obtain ⟨u2, hu2, hbu2, hut2⟩ := trip_laid w2 0 0 0
  have HU2 := Lib.hid hu2
  have HBDA : Hid (Below w2.heap.size w2 u2.drew) := Lib.hid hbu2.drew
  have HBTA : Hid (TripBox u2.drew w2.heap.size 0 0 0) := Lib.hid hut2
  clear hu2 hbu2 hut2
  go_region_held3 (fun w' => w'.cell? ⟨w.heap.size, 0, none⟩ = some (.int .i64 (k : Int)) ∧ w'.cell? ⟨w.heap.size, 1, none⟩ = some (.int .i64 (s : Int)) ∧ w'.cell? ⟨w.heap.size, 2, none⟩ = some (.int .i64 (h : Int)) ∧ w'.cell? ⟨w.heap.size, 3, none⟩ = some (.int .i64 (l : Int)) ∧ w'.cell? ⟨w.heap.size, 4, none⟩ = some (.int .i64 (p : Int)))
    (first | exact HSD.out | exact HSAT.out _ HB3.out | exact HSAT.out _ (HB3.out.alloc HB3.out.size _) | exact HSAT.out _ (TripBox.below HB3.out (Nat.le_refl _) _ _ _) | go_keep)
    (first
    | (go_at_call 126; (with_reducible refine (HM.out _).mono ?_); rintro e w3 ⟨rfl, rfl⟩)
    | (go_at_call 125; (with_reducible refine (HDR.out _ (PairsAt.mono HT2.out HBD.out)).mono ?_); rintro e w3 ⟨rfl, hb3⟩; have HB3 := Lib.hid (HBD.out.trans (hb3.mono HBD.out.size)); clear hb3)
    | (rw [← HU2.out]; go_at_call 125; (with_reducible refine (HDR.out _ (PairsAt.mono HT2.out HBDA.out)).mono ?_); rintro e w3 ⟨rfl, hb3⟩; have HB3 := Lib.hid (HBDA.out.trans (hb3.mono HBDA.out.size)); have hbt3 := HBTA.out.mono hb3; obtain ⟨g0, g1, g2⟩ := hbt3.cells; obtain ⟨i0, i1, i2⟩ := hbt3.free; have HBT3 := Lib.hid hbt3; clear hb3 hbt3))
  all_goals first
    | (obtain ⟨V, hV, hbV, htV, hrV⟩ : ∃ V, V = w3.alloc (.cells #[.int .i64 (D : Int), .int .i64 (S : Int), .int .i64 (A : Int)] 145) ∧ Below w.heap.size w V ∧ TripBox V w3.heap.size D S A ∧ TripBox V (w.heap.size + 1) 0 0 0 := ⟨_, rfl, (HB2.out.trans (HB3.out.mono HB2.out.size)).alloc (Nat.le_trans HB2.out.size HB3.out.size) _, heap_alloc_new w3 _, (HBT2.out.mono HB3.out).mono ((Below.refl _ _).alloc (Nat.le_refl _) _)⟩
       rw [← hV]
       have HVB := Lib.hid hbV
       have HVT := Lib.hid htV
       have HVR := Lib.hid hrV
       obtain ⟨v0, v1, v2⟩ := htV.cells
       obtain ⟨r0, r1, r2⟩ := hrV.cells
       obtain ⟨f0, f1, f2⟩ := hrV.free
       have HST := Lib.hid (((htV.set (b := w.heap.size + 1) (j := 0) (u := .int .i64 (D : Int)) (by have h1 := HBT2.out.lt; have h2 := HB3.out.size; omega)).set (b := w.heap.size + 1) (j := 1) (u := .int .i64 (S : Int)) (by have h1 := HBT2.out.lt; have h2 := HB3.out.size; omega)).set (b := w.heap.size + 1) (j := 2) (u := .int .i64 (A : Int)) (by have h1 := HBT2.out.lt; have h2 := HB3.out.size; omega)).cells
       clear hV hbV htV hrV  c0 c1 c2 c3 c4 t0 t1 t2 y0 y1 y2
       go_upto_region 7 with fail
       go_region_held3 (fun w' => w'.cell? ⟨w3.heap.size, 0, none⟩ = some (.int .i64 (D : Int)) ∧ w'.cell? ⟨w3.heap.size, 1, none⟩ = some (.int .i64 (S : Int)) ∧ w'.cell? ⟨w3.heap.size, 2, none⟩ = some (.int .i64 (A : Int)))
         (first | exact ⟨v0, v1, v2⟩ | exact HST.out | go_keep)
         (first
         | (go_at_call 31; (with_reducible refine (Wrap_nil _ _).mono ?_); rintro e w4 ⟨rfl, rfl⟩))
       all_goals
         go_wp2
         refine bodyPost_ret (results_row2 rfl _ _ (w.heap.size + 1) 145 _ (0, 0) _ rfl (HVR.out.done _ _ _) Tryz.underlying145 rfl (by kernel_rfl)) rfl ?_
         exact ⟨rfl, (TripBox.below HVB.out (by omega) _ _ _).drew⟩)
    | (obtain ⟨V, hV, hbV, htV, hrV⟩ : ∃ V, V = ((w3.setCell ⟨w2.heap.size, 0, none⟩ (.int .i64 (D : Int))).setCell ⟨w2.heap.size, 1, none⟩ (.int .i64 (S : Int))).setCell ⟨w2.heap.size, 2, none⟩ (.int .i64 (A : Int)) ∧ Below w.heap.size w V ∧ TripBox V w2.heap.size D S A ∧ TripBox V (w.heap.size + 1) 0 0 0 := ⟨_, rfl, TripBox.below (HB2.out.trans (HB3.out.mono HB2.out.size)) HB2.out.size _ _ _, HBT3.out.done _ _ _, (((HBT2.out.mono HB3.out).set (Nat.ne_of_lt HBT2.out.lt)).set (Nat.ne_of_lt HBT2.out.lt)).set (Nat.ne_of_lt HBT2.out.lt)⟩
       rw [← hV]
       have HVB := Lib.hid hbV
       have HVT := Lib.hid htV
       have HVR := Lib.hid hrV
       obtain ⟨v0, v1, v2⟩ := htV.cells
       obtain ⟨r0, r1, r2⟩ := hrV.cells
       obtain ⟨f0, f1, f2⟩ := hrV.free
       have HST := Lib.hid (((htV.set (b := w.heap.size + 1) (j := 0) (u := .int .i64 (D : Int)) (by have h1 := HBT2.out.lt; omega)).set (b := w.heap.size + 1) (j := 1) (u := .int .i64 (S : Int)) (by have h1 := HBT2.out.lt; omega)).set (b := w.heap.size + 1) (j := 2) (u := .int .i64 (A : Int)) (by have h1 := HBT2.out.lt; omega)).cells
       clear hV hbV htV hrV  c0 c1 c2 c3 c4 t0 t1 t2 y0 y1 y2
       go_upto_region 7 with fail
       go_region_held3 (fun w' => w'.cell? ⟨w2.heap.size, 0, none⟩ = some (.int .i64 (D : Int)) ∧ w'.cell? ⟨w2.heap.size, 1, none⟩ = some (.int .i64 (S : Int)) ∧ w'.cell? ⟨w2.heap.size, 2, none⟩ = some (.int .i64 (A : Int)))
         (first | exact ⟨v0, v1, v2⟩ | exact HST.out | go_keep)
         (first
         | (go_at_call 31; (with_reducible refine (Wrap_nil _ _).mono ?_); rintro e w4 ⟨rfl, rfl⟩))
       all_goals
         go_wp2
         refine bodyPost_ret (results_row2 rfl _ _ (w.heap.size + 1) 145 _ (0, 0) _ rfl (HVR.out.done _ _ _) Tryz.underlying145 rfl (by kernel_rfl)) rfl ?_
         exact ⟨rfl, (TripBox.below HVB.out (by omega) _ _ _).drew⟩)
end Go.Proofs.YtkhdjjcflbdegaaGreatDoor
end

section
/- Package ltrow: what is refused. -/
namespace Go.Proofs.YtkhdjjcflbdegaaGreatDoor
open Go.RowKit Go.Extern.Stop Go.Stop Go.Extern

def nameLTrip : ByteArray := ⟨#[108, 116, 114, 111, 119, 46, 84, 114, 105, 112]⟩
def nameLWalk : ByteArray := ⟨#[108, 116, 114, 111, 119, 46, 87, 97, 108, 107]⟩
def nameLRow : ByteArray := ⟨#[108, 116, 114, 111, 119, 46, 82, 111, 119]⟩

set_option maxRecDepth 1000000 in
set_option maxHeartbeats 4000000 in
theorem Trip_no {w : World} (K S H L P seed esi : Int) (hK : I64 K) (hbad : ¬ Good K S H L P ∨ seed < 0 ∨ 65536 ≤ seed ∨ esi < 0 ∨ 65536 ≤ esi) :
    Calls Tryz.prog 98 #[parV K S H L P, .int .i64 seed, .int .i64 esi] w (NoSays 1 nameLTrip (tripV 0 0 0) w) := by
  obtain ⟨w0, hw0, hb0, hbx⟩ := par_laid w K S H L P
  obtain ⟨w1, hw1, hb1, hbt⟩ := trip_laid w0 0 0 0
  have hs0 : w0.heap.size = w.heap.size + 1 := by rw [hw0]; simp
  have HW0 := Lib.hid hw0
  have HW1 := Lib.hid hw1
  have HB1 := Lib.hid (hb0.trans (hb1.mono hb0.size))
  rw [hs0] at hbt
  have HBX := Lib.hid (hbx.mono hb1)
  have HBT := Lib.hid hbt
  obtain ⟨c0, c1, c2, c3, c4⟩ := HBX.out.cells
  clear hw0 hw1 hb0 hb1 hbx hbt hs0
  by_cases hgood : Good K S H L P
  · obtain ⟨k, s, h, l, p, rfl, rfl, rfl, rfl, rfl, hk1, hk2, hof⟩ := hgood
    have hout : seed < 0 ∨ 65536 ≤ seed ∨ esi < 0 ∨ 65536 ≤ esi := hbad.resolve_left fun hn => hn ⟨k, s, h, l, p, rfl, rfl, rfl, rfl, rfl, hk1, hk2, hof⟩
    have HD : Hid (decide (seed < 0) = true ∨ (decide (seed < 0) = false ∧ decide (65536 ≤ seed) = true) ∨ (decide (seed < 0) = false ∧ decide (65536 ≤ seed) = false ∧ decide (esi < 0) = true) ∨ (decide (seed < 0) = false ∧ decide (65536 ≤ seed) = false ∧ decide (esi < 0) = false ∧ decide (65536 ≤ esi) = true)) := Lib.hid (by
      simp only [decide_eq_true_eq, decide_eq_false_iff_not]
      omega)
    have HR : Hid (∀ w, Calls Tryz.prog 124 #[.agg #[.int .i64 (k : Int), .int .i64 (s : Int), .int .i64 (h : Int), .int .i64 (l : Int), .int .i64 (p : Int)]] w fun e w' => e = .returned .nilIface ∧ Below w.heap.size w w') := Lib.hid fun w => lRight_ok k s h l p hof hk1 hk2
    clear hout hbad hof hK
    unfold parV parC
    rcases HD.out with d1 | ⟨d1, d2⟩ | ⟨d1, d2, d3⟩ | ⟨d1, d2, d3, d4⟩
    all_goals
      go_enter Tryz.func98, Tryz.ntmps98
      go_upto_region 1 with fail
      rw [← HW0.out, ← HW1.out]
      go_wp2_with fail
      refine (HR.out _).mono ?_
      rintro e w2 ⟨rfl, hb2⟩
      have HB2 := Lib.hid (HB1.out.trans (hb2.mono HB1.out.size))
      have HBT2 := Lib.hid (HBT.out.mono hb2)
      clear hb2 c0 c1 c2 c3 c4
      go_wp2_with fail
      refine (New_ans nameLTrip 1 (by decide) _).mono ?_
      rintro e w3 ⟨E, rfl, hc3, hb3⟩
      have HC3 := Lib.hid hc3
      have HB3 := Lib.hid (HB2.out.trans (hb3.mono HB2.out.size))
      have HBT3 := Lib.hid (HBT2.out.mono hb3)
      obtain ⟨u, x, rfl⟩ := hc3.some (by decide)
      obtain ⟨t0, t1, t2⟩ := HBT3.out.cells
      obtain ⟨y0, y1, y2⟩ := HBT3.out.free
      clear hc3 hb3
      go_wp2
      refine bodyPost_ret (results_row2 rfl _ _ (w.heap.size + 1) 145 _ (0, 0) _ rfl (HBT3.out.done _ _ _) Tryz.underlying145 rfl (by kernel_rfl)) rfl ?_
      exact ⟨_, rfl, HBT3.out.err HC3.out _ _ _, TripBox.below HB3.out (by omega) _ _ _⟩
  · have HR : Hid (∀ w, Calls Tryz.prog 124 #[.agg #[.int .i64 K, .int .i64 S, .int .i64 H, .int .i64 L, .int .i64 P]] w fun e w' => ∃ E ls, e = .returned E ∧ Chain w' 1 ls E ∧ Below w.heap.size w w') := Lib.hid fun w => lRight_bad K S H L P hgood hK
    clear hbad hgood hK
    unfold parV parC
    go_enter Tryz.func98, Tryz.ntmps98
    go_upto_region 1 with fail
    rw [← HW0.out, ← HW1.out]
    go_wp2_with fail
    refine (HR.out _).mono ?_
    rintro e w2 ⟨E, ls, rfl, hch, hb2⟩
    have HB2 := Lib.hid (HB1.out.trans (hb2.mono HB1.out.size))
    have HBT2 := Lib.hid (HBT.out.mono hb2)
    have HCH := Lib.hid hch
    obtain ⟨u, x, rfl⟩ := hch.iface
    clear hb2 hch c0 c1 c2 c3 c4
    go_wp2_with fail
    refine (Wrap_chain nameLTrip 1 ls _ _ HCH.out).mono ?_
    rintro e w3 ⟨E2, rfl, hch, hb3⟩
    have HB3 := Lib.hid (HB2.out.trans (hb3.mono HB2.out.size))
    have HBT3 := Lib.hid (HBT2.out.mono hb3)
    have HCH2 := Lib.hid hch
    obtain ⟨u2, x2, rfl⟩ := hch.iface
    obtain ⟨t0, t1, t2⟩ := HBT3.out.cells
    obtain ⟨y0, y1, y2⟩ := HBT3.out.free
    clear hch hb3
    go_wp2
    refine bodyPost_ret (results_row2 rfl _ _ (w.heap.size + 1) 145 _ (0, 0) _ rfl (HBT3.out.done _ _ _) Tryz.underlying145 rfl (by kernel_rfl)) rfl ?_
    exact ⟨_, rfl, HBT3.out.err (.inr ⟨by decide, ls, HCH2.out⟩) _ _ _, TripBox.below HB3.out (by omega) _ _ _⟩

set_option maxRecDepth 1000000 in
set_option maxHeartbeats 4000000 in
theorem lRow_no {w : World} (K S H L P seed esi : Int) (hK : I64 K) (hbad : ¬ Good K S H L P ∨ seed < 0 ∨ 65536 ≤ seed ∨ esi < 0 ∨ 65536 ≤ esi) :
    Calls Tryz.prog 82 #[parV K S H L P, .int .i64 seed, .int .i64 esi] w (NoSays 1 nameLRow nilS w) := by
  obtain ⟨w0, hw0, hb0, hbx⟩ := par_laid w K S H L P
  have HW0 := Lib.hid hw0
  have HB0 := Lib.hid hb0
  obtain ⟨c0, c1, c2, c3, c4⟩ := hbx.cells
  have HT : Hid (∀ w, Calls Tryz.prog 98 #[.agg #[.int .i64 K, .int .i64 S, .int .i64 H, .int .i64 L, .int .i64 P], .int .i64 seed, .int .i64 esi] w (NoSays 1 nameLTrip (.agg #[.int .i64 0, .int .i64 0, .int .i64 0]) w)) := Lib.hid fun w => Trip_no K S H L P seed esi hK hbad
  clear hw0 hb0 hbx hbad hK
  unfold parV parC
  go_enter Tryz.func82, Tryz.ntmps82
  go_upto_region 1 with fail
  rw [← HW0.out]
  go_wp2_with fail
  refine (HT.out _).mono ?_
  rintro e w1 ⟨E, rfl, hc, hb1⟩
  obtain ⟨w2, hw2, hb2, hbt⟩ := trip_laid w1 0 0 0
  have HW2 := Lib.hid hw2
  have hbb := hb1.trans (hb2.mono hb1.size)
  have HB2 := Lib.hid (HB0.out.trans (hbb.mono HB0.out.size))
  obtain ⟨ls, hch⟩ : ∃ ls, Chain w1 1 (nameLTrip :: ls) E := (hc.resolve_left (by rintro ⟨h, -⟩; cases h)).2
  have HCH := Lib.hid (hch.mono hb2)
  obtain ⟨u, x, rfl⟩ := hch.iface
  clear hw2 hb1 hb2 hbb hbt hc hch c0 c1 c2 c3 c4
  go_upto_region 2 with fail
  rw [← HW2.out]
  go_wp2_with fail
  refine (Wrap_chain nameLRow 1 _ _ _ HCH.out).mono ?_
  rintro e w3 ⟨E2, rfl, hch, hb3⟩
  have HB3 := Lib.hid (HB2.out.trans (hb3.mono HB2.out.size))
  have HCH2 := Lib.hid hch
  obtain ⟨u2, x2, rfl⟩ := hch.iface
  clear hch hb3
  go_wp2
  go_ret2
  exact ⟨_, rfl, .inr ⟨by decide, _, HCH2.out⟩, HB3.out⟩
end Go.Proofs.YtkhdjjcflbdegaaGreatDoor
end

section
/- Package system: right. -/
namespace Go.Proofs.YtkhdjjcflbdegaaGreatDoor
open Go.RowKit Go.Extern.Stop Go.Stop Go.Extern

open Classical in
/-- Why there are no rows of these numbers, by this seed, of these encoding symbols. -/
noncomputable def checkR (K S H L P seed : Int) (es : List Int) : Int :=
  if ¬ Good K S H L P ∨ seed < 0 ∨ 65535 < seed then 1 else if es.any (fun e => decide (e < 0) || decide (65536 ≤ e)) = true then 1 else if 4096 < es.length then 3 else 0
theorem checkR_one {K S H L P seed : Int} {es : List Int} (h : ¬ Good K S H L P ∨ seed < 0 ∨ 65535 < seed) : checkR K S H L P seed es = 1 := if_pos h
theorem checkR_esi {K S H L P seed : Int} {es : List Int} (h : ¬ (¬ Good K S H L P ∨ seed < 0 ∨ 65535 < seed)) {j : Nat} (hj : j < es.length) (he : es.getD j 0 < 0 ∨ 65536 ≤ es.getD j 0) : checkR K S H L P seed es = 1 := by
  unfold checkR
  rw [if_neg h, if_pos]
  rw [List.any_eq_true]
  refine ⟨es.getD j 0, ?_, ?_⟩
  · rw [List.getD_eq_getElem?_getD, List.getElem?_eq_getElem hj]
    exact List.getElem_mem hj
  · simpa using he
theorem checkR_rest {K S H L P seed : Int} {es : List Int} (h : ¬ (¬ Good K S H L P ∨ seed < 0 ∨ 65535 < seed)) (he : ∀ j, j < es.length → 0 ≤ es.getD j 0 ∧ es.getD j 0 < 65536) : checkR K S H L P seed es = if 4096 < es.length then 3 else 0 := by
  unfold checkR
  rw [if_neg h, if_neg]
  rw [List.any_eq_true]
  rintro ⟨e, hm, hx⟩
  obtain ⟨j, hj, rfl⟩ := List.getElem_of_mem hm
  have := he j hj
  rw [List.getD_eq_getElem?_getD, List.getElem?_eq_getElem hj, Option.getD_some] at this
  simp at hx
  omega
theorem checkR_zero {K S H L P seed : Int} {es : List Int} (h : checkR K S H L P seed es = 0) : Good K S H L P ∧ 0 ≤ seed ∧ seed < 65536 ∧ (∃ ns : List Nat, es = ns.map Int.ofNat ∧ ∀ e ∈ ns, e < 65536) ∧ es.length ≤ 4096 := by
  unfold checkR at h
  split at h
  · cases h
  · rename_i h1
    split at h
    · cases h
    · rename_i h2
      split at h
      · cases h
      · rename_i h3
        have hg : Good K S H L P := Classical.byContradiction fun hn => h1 (.inl hn)
        have hall : ∀ e ∈ es, 0 ≤ e ∧ e < 65536 := fun e he => by
          have : ¬ (decide (e < 0) || decide (65536 ≤ e)) = true := fun hx => h2 (List.any_eq_true.2 ⟨e, he, hx⟩)
          simp at this
          omega
        refine ⟨hg, by omega, by omega, ⟨es.map Int.toNat, ?_, fun e he => ?_⟩, by omega⟩
        · rw [List.map_map]
          conv => lhs; rw [← List.map_id es]
          refine List.map_congr_left fun e he => ?_
          have := hall e he
          show e = ((e.toNat : Nat) : Int)
          omega
        · obtain ⟨x, hx, rfl⟩ := List.mem_map.1 he
          have := hall x hx
          omega
/-- A number's error, under whatever calls: none, or a chain round it. -/
def RawAns (k : Int) (w : World) (E : Value) : Prop := (k = 0 ∧ E = .nilIface) ∨ (k ≠ 0 ∧ ∃ ls, Chain w k ls E)
theorem RawAns.mono {k : Int} {w w' : World} {E : Value} (h : RawAns k w E) (hb : Below w.heap.size w w') : RawAns k w' E := by
  rcases h with h | ⟨h1, ls, h2⟩
  · exact .inl h
  · exact .inr ⟨h1, ls, h2.mono hb⟩
theorem RawAns.some {k : Int} {w : World} {E : Value} (h : RawAns k w E) (hk : k ≠ 0) : ∃ ls, Chain w k ls E := by
  rcases h with ⟨h, _⟩ | ⟨_, h⟩
  · exact absurd h hk
  · exact h
theorem RawAns.nil {k : Int} {w : World} {E : Value} (h : RawAns k w E) (hk : k = 0) : E = .nilIface := by
  rcases h with ⟨_, h⟩ | ⟨h, _⟩
  · exact h
  · exact absurd hk h

set_option maxRecDepth 1000000 in
set_option maxHeartbeats 4000000 in
theorem sRight_any {w : World} (K S H L P seed : Int) (v : Value) (es : List Int) (hK : I64 K) (hv : ListAt intV w v es) (hT : DgTab w) :
    Calls Tryz.prog 62 #[parV K S H L P, .int .i64 seed, v] w fun e w' => ∃ E, e = .returned E ∧ RawAns (checkR K S H L P seed es) w' E ∧ Below w.heap.size w w' := by
  obtain ⟨w0, hw0, hb0, hbx⟩ := par_laid w K S H L P
  have HW0 := Lib.hid hw0
  have HB0 := Lib.hid hb0
  obtain ⟨c0, c1, c2, c3, c4⟩ := hbx.cells
  have HV := Lib.hid hv
  have HT := Lib.hid (PairsAt.mono hT hb0)
  obtain ⟨av, cv, rfl, -, -, -⟩ := hv
  by_cases hbad : ¬ Good K S H L P ∨ seed < 0 ∨ 65535 < seed
  · have HC := Lib.hid (checkR_one (es := es) hbad)
    have HN : Hid (∀ w, Calls Tryz.prog 98 #[.agg #[.int .i64 K, .int .i64 S, .int .i64 H, .int .i64 L, .int .i64 P], .int .i64 seed, .int .i64 0] w (NoSays 1 nameLTrip (.agg #[.int .i64 0, .int .i64 0, .int .i64 0]) w)) := Lib.hid fun w => Trip_no K S H L P seed 0 hK (by
      rcases hbad with h | h | h
      · exact .inl h
      · exact .inr (.inl h)
      · exact .inr (.inr (.inl (by omega))))
    clear hw0 hb0 hbx hbad hK hT
    unfold parV parC
    go_enter Tryz.func62, Tryz.ntmps62
    go_upto_region 1 with fail
    rw [← HW0.out]
    go_wp2_with fail
    refine (HN.out _).mono ?_
    rintro e w1 ⟨E, rfl, hc, hb1⟩
    obtain ⟨w2, hw2, hb2, hbt⟩ := trip_laid w1 0 0 0
    have HW2 := Lib.hid hw2
    have hbb := hb1.trans (hb2.mono hb1.size)
    have HB2 := Lib.hid (HB0.out.trans (hbb.mono HB0.out.size))
    obtain ⟨ls, hch⟩ : ∃ ls, Chain w1 1 (nameLTrip :: ls) E := (hc.resolve_left (by rintro ⟨h, -⟩; cases h)).2
    have HCH := Lib.hid (hch.mono hb2)
    obtain ⟨u, x, rfl⟩ := hch.iface
    clear hw2 hb1 hb2 hbb hbt hc hch c0 c1 c2 c3 c4
    go_upto_region 2 with fail
    rw [← HW2.out]
    go_wp2
    go_ret
    exact ⟨_, rfl, .inr ⟨by rw [HC.out]; decide, _, by rw [HC.out]; exact HCH.out⟩, HB2.out⟩
  · have HBAD := Lib.hid hbad
    obtain ⟨k, s, h, l, p, rfl, rfl, rfl, rfl, rfl, hk1, hk2, hof⟩ : Good K S H L P := Classical.byContradiction fun hn => hbad (.inl hn)
    obtain ⟨sd, rfl⟩ : ∃ sd : Nat, seed = (sd : Int) := ⟨seed.toNat, by omega⟩
    have hsd : sd < 65536 := by omega
    obtain ⟨D, hD⟩ : ∃ D, trD l (mixN 0 sd) = D := ⟨_, rfl⟩
    obtain ⟨S, hS⟩ : ∃ S, trS p (mixN 0 sd) = S := ⟨_, rfl⟩
    obtain ⟨A, hA⟩ : ∃ A, trA p (mixN 0 sd) = A := ⟨_, rfl⟩
    have HTR : Hid (∀ V, DgTab V → Calls Tryz.prog 98 #[.agg #[.int .i64 (k : Int), .int .i64 (s : Int), .int .i64 (h : Int), .int .i64 (l : Int), .int .i64 (p : Int)], .int .i64 (sd : Int), .int .i64 0] V fun e w' => e = .returned (.tuple #[.agg #[.int .i64 (D : Int), .int .i64 (S : Int), .int .i64 (A : Int)], .nilIface]) ∧ Below V.heap.size V w') := Lib.hid fun V hV => by
      have := Trip_ok (w := V) k s h l p sd 0 hof hk1 hk2 hsd (by decide) hV
      rwa [hD, hS, hA] at this
    clear hw0 hb0 hbx hbad hK hT hD hS hA hof hk1 hk2 hsd
    unfold parV parC
    go_enter Tryz.func62, Tryz.ntmps62
    go_upto_region 1 with fail
    rw [← HW0.out]
    go_wp2_with fail
    refine (HTR.out _ HT.out).mono ?_
    rintro e w1 ⟨rfl, hb1⟩
    obtain ⟨w2, hw2, hb2, hbt⟩ := trip_laid w1 D S A
    have HW2 := Lib.hid hw2
    have hbb := hb1.trans (hb2.mono hb1.size)
    have HB2 := Lib.hid (HB0.out.trans (hbb.mono HB0.out.size))
    have HV2 := Lib.hid (HV.out.mono HB2.out)
    clear hw2 hb1 hb2 hbb hbt c0 c1 c2 c3 c4
    go_upto_region 2 with fail
    rw [← HW2.out]
    have hlen := HV2.out.len
    obtain ⟨av', cv', hve, -, -, hcell⟩ := HV2.out
    cases hve
    have HC := Lib.hid hcell
    clear hcell
    go_wp2
    go_loopw [22] (fun i wr => ∃ j : Nat, j ≤ es.length ∧ i = .int .i64 j ∧ (∀ t, t < j → 0 ≤ es.getD t 0 ∧ es.getD t 0 < 65536) ∧ w2 = wr) (fun i _ => es.length - (intOf i).toNat)
    case atStart => exact ⟨0, Nat.zero_le _, rfl, fun t ht => by omega, rfl⟩
    case round =>
      obtain ⟨j, hj, rfl, hz, rfl⟩ := hrel
      by_cases hlt : j < es.length
      · obtain ⟨b, off, rfl, hcc⟩ := HC.out (by omega)
        have hx := hcc j hlt
        have HF : Hid (es.getD j 0 < 0 ∨ 65536 ≤ es.getD j 0 → checkR k s h l p sd es = 1) := Lib.hid (checkR_esi HBAD.out hlt)
        have HZ : Hid (0 ≤ es.getD j 0 ∧ es.getD j 0 < 65536 → ∀ t, t < j + 1 → 0 ≤ es.getD t 0 ∧ es.getD t 0 < 65536) := Lib.hid fun hh t ht => by
          by_cases e : t = j
          · rw [e]; exact hh
          · exact hz t (by omega)
        have hxe : es[j] = es.getD j 0 := by simp [List.getD_eq_getElem?_getD, hlt]
        have hy : w2.cell? ⟨b, off + j, none⟩ = some (.int .i64 (es.getD j 0)) := by rw [hx, ← hxe]; rfl
        clear hcc hx hz hxe
        generalize es.getD j 0 = y at *
        by_cases h1 : y < 0
        · have d1 : decide (y < 0) = true := decide_eq_true h1
          have HE := Lib.hid (HF.out (.inl h1))
          clear HF HZ h1
          go_wp2
          go_ret
          exact ⟨_, rfl, .inr ⟨by rw [HE.out]; decide, [], by rw [HE.out]; exact .leaf⟩, HB2.out⟩
        · have d1 : decide (y < 0) = false := decide_eq_false h1
          by_cases h2 : 65536 ≤ y
          · have d2 : decide (65536 ≤ y) = true := decide_eq_true h2
            have HE := Lib.hid (HF.out (.inr h2))
            clear HF HZ h1 h2
            go_wp2
            go_ret
            exact ⟨_, rfl, .inr ⟨by rw [HE.out]; decide, [], by rw [HE.out]; exact .leaf⟩, HB2.out⟩
          · have d2 : decide (65536 ≤ y) = false := decide_eq_false h2
            have HZ' := Lib.hid (HZ.out ⟨by omega, by omega⟩)
            clear HF HZ h1 h2
            go_wp2
            go_roundw
            case rel => exact ⟨j + 1, by omega, by go_num, HZ'.out, trivial⟩
            case measure => simp [intOf]; omega
      · have hj' : j = es.length := by omega
        have HE : Hid (checkR k s h l p sd es = if 4096 < es.length then 3 else 0) := Lib.hid (checkR_rest HBAD.out fun t ht => hz t (by omega))
        clear hz
        by_cases h3 : 4096 < es.length
        · have HE' : Hid (checkR k s h l p sd es = 3) := Lib.hid (by rw [HE.out, if_pos h3])
          clear HE
          go_wp2
          go_ret
          exact ⟨_, rfl, .inr ⟨by rw [HE'.out]; decide, [], by rw [HE'.out]; exact .leaf⟩, HB2.out⟩
        · have HE' : Hid (checkR k s h l p sd es = 0) := Lib.hid (by rw [HE.out, if_neg h3])
          clear HE
          go_wp2
          go_ret
          exact ⟨_, rfl, .inl ⟨HE'.out, rfl⟩, HB2.out⟩
end Go.Proofs.YtkhdjjcflbdegaaGreatDoor
end
