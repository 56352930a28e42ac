/- The tenth layer's laws LtrowTrips, LtrowWalks, LtrowRows: the walks. -/
import Derived.Test.YtedadhoaegjhfaaDoorLaw10
import Derived.Test.YtedadhoaegjhfaaDoorLaw10T
namespace Go.Proofs.YtedadhoaegjhfaaDoor
open Go.RowKit Go.Extern.Stop Go.Stop Go.Extern

set_option maxRecDepth 1000000 in
set_option maxHeartbeats 4000000 in
theorem trips10 {w : World} (K S H L P seed esi : Int) (hK : I64 K) (hT : DgTab w) (hg : Laid w) : Calls Tryd.prog 3 #[parV K S H L P, .int .i64 seed, .int .i64 esi] w fun e w' => e = .returned (.bool true) ∧ Below w.heap.size w w' := by
  obtain ⟨w0, hw0, hb0, hbx⟩ := par_laid w K S H L P
  have HW0 := Lib.hid hw0
  have HB0 := Lib.hid hb0
  have HBX := Lib.hid hbx
  have HG := Lib.hid (hg.mono hb0)
  have HT := Lib.hid (PairsAt.mono hT hb0)
  obtain ⟨c0, c1, c2, c3, c4⟩ := hbx.cells
  clear hw0 hb0 hbx hg hT
  by_cases hin : Good K S H L P ∧ 0 ≤ seed ∧ seed < 65536 ∧ 0 ≤ esi ∧ esi < 65536
  · obtain ⟨⟨k, s, h, l, p, rfl, rfl, rfl, rfl, rfl, hk1, hk2, hof⟩, i1, i2, i3, i4⟩ := hin
    obtain ⟨se, rfl⟩ : ∃ n : Nat, seed = n := ⟨seed.toNat, by omega⟩
    obtain ⟨es, rfl⟩ : ∃ n : Nat, esi = n := ⟨esi.toNat, by omega⟩
    obtain ⟨b1, b2, b3, b4, b5, b6, b7⟩ := hof.bounds hk1 hk2
    have hp2 : 2 ≤ p := hof.2.2.2.two
    obtain ⟨D, hD⟩ : ∃ D, trD l (mixN es se) = D := ⟨_, rfl⟩
    obtain ⟨S, hS⟩ : ∃ S, trS p (mixN es se) = S := ⟨_, rfl⟩
    obtain ⟨A, hA⟩ : ∃ A, trA p (mixN es se) = A := ⟨_, rfl⟩
    have HTR : Hid (∀ V, DgTab V → Calls Tryd.prog 8 #[.agg #[.int .i64 (k : Int), .int .i64 (s : Int), .int .i64 (h : Int), .int .i64 (l : Int), .int .i64 (p : Int)], .int .i64 (se : Int), .int .i64 (es : Int)] V fun e w' => e = .returned (.tuple #[.agg #[.int .i64 (D : Int), .int .i64 (S : Int), .int .i64 (A : Int)], .nilIface]) ∧ Below V.heap.size V w') := Lib.hid fun V hV => by
      have := Trip_ok (w := V) k s h l p se es hof hk1 hk2 (by omega) (by omega) hV
      rwa [hD, hS, hA] at this
    have HRT : Hid (∀ V, Calls Tryd.prog 12 #[.agg #[.int .i64 (k : Int), .int .i64 (s : Int), .int .i64 (h : Int), .int .i64 (l : Int), .int .i64 (p : Int)], .int .i64 (se : Int), .int .i64 (es : Int)] V fun e w' => e = .returned (.agg #[.int .i64 (D : Int), .int .i64 (S : Int), .int .i64 (A : Int)]) ∧ Below V.heap.size V w') := Lib.hid fun V => by
      have := rTrip_any (w := V) k s h l p se es hp2 (by omega) (by omega) (by omega)
      rwa [hD, hS, hA] at this
    have HCK : Hid (∀ V, Calls Tryd.prog 9 #[.agg #[.int .i64 (k : Int), .int .i64 (s : Int), .int .i64 (h : Int), .int .i64 (l : Int), .int .i64 (p : Int)], .int .i64 (se : Int), .int .i64 (es : Int)] V fun e w' => e = .returned (.int .i64 0) ∧ Below V.heap.size V w') := Lib.hid fun V => rCheck_in k s h l p se es hof hk1 hk2 (by omega) (by omega)
    clear hof hK hD hS hA b1 b2 b3 b4 b5 b6 b7 hp2
    unfold parV parC
    go_enter Tryd.func3, Tryd.ntmps3
    go_upto_region 1 with fail
    rw [← HW0.out]
    go_wp2_with fail
    refine (HTR.out _ HT.out).mono ?_
    rintro e w1 ⟨rfl, hb1⟩
    obtain ⟨w2, hw2, hb2, hbt⟩ := trip_laid w1 D S A
    have HW2 := Lib.hid hw2
    have HBS := Lib.hid (hb1.trans (hb2.mono hb1.size))
    have HB2 := Lib.hid (HB0.out.trans (HBS.out.mono HB0.out.size))
    have HBT := Lib.hid hbt
    clear hw2 hb1 hb2 hbt c0 c1 c2 c3 c4
    obtain ⟨c0, c1, c2, c3, c4⟩ := (HBX.out.mono HBS.out).cells
    obtain ⟨t0, t1, t2⟩ := HBT.out.cells
    go_upto_region 2 with fail
    rw [← HW2.out]
    generalize w1.heap.size = g1 at *
    go_wp2_with fail
    refine (HCK.out _).mono ?_
    rintro e w3 ⟨rfl, hb3⟩
    have HBS3 := Lib.hid (HBS.out.trans (hb3.mono HBS.out.size))
    have HB3 := Lib.hid (HB2.out.trans (hb3.mono HB2.out.size))
    have HBT3 := Lib.hid (HBT.out.mono hb3)
    clear hb3 c0 c1 c2 c3 c4 t0 t1 t2
    obtain ⟨c0, c1, c2, c3, c4⟩ := (HBX.out.mono HBS3.out).cells
    obtain ⟨t0, t1, t2⟩ := HBT3.out.cells
    go_wp2_with fail
    refine (tells_nil _).mono ?_
    rintro e w4 ⟨rfl, rfl⟩
    go_wp2_with fail
    have HSAT : Hid (∀ V, Below w3.heap.size w3 V → (V.cell? ⟨w.heap.size, 0, none⟩ = some (.int .i64 (k : Int)) ∧ V.cell? ⟨w.heap.size, 1, none⟩ = some (.int .i64 (s : Int)) ∧ V.cell? ⟨w.heap.size, 2, none⟩ = some (.int .i64 (h : Int)) ∧ V.cell? ⟨w.heap.size, 3, none⟩ = some (.int .i64 (l : Int)) ∧ V.cell? ⟨w.heap.size, 4, none⟩ = some (.int .i64 (p : Int))) ∧ V.cell? ⟨g1, 0, none⟩ = some (.int .i64 (D : Int)) ∧ V.cell? ⟨g1, 1, none⟩ = some (.int .i64 (S : Int)) ∧ V.cell? ⟨g1, 2, none⟩ = some (.int .i64 (A : Int))) := Lib.hid fun V hV => ⟨((HBX.out.mono HBS3.out).mono hV).cells, (HBT3.out.mono hV).cells⟩
    have HBD : Hid (Below w3.heap.size w3 w3.drew) := Lib.hid (Below.refl _ _).drew
    have HT3 := Lib.hid (PairsAt.mono HT.out HBS3.out)
    go_region_held3 (fun w' => (w'.cell? ⟨w.heap.size, 0, none⟩ = some (.int .i64 (k : Int)) ∧ w'.cell? ⟨w.heap.size, 1, none⟩ = some (.int .i64 (s : Int)) ∧ w'.cell? ⟨w.heap.size, 2, none⟩ = some (.int .i64 (h : Int)) ∧ w'.cell? ⟨w.heap.size, 3, none⟩ = some (.int .i64 (l : Int)) ∧ w'.cell? ⟨w.heap.size, 4, none⟩ = some (.int .i64 (p : Int))) ∧ w'.cell? ⟨g1, 0, none⟩ = some (.int .i64 (D : Int)) ∧ w'.cell? ⟨g1, 1, none⟩ = some (.int .i64 (S : Int)) ∧ w'.cell? ⟨g1, 2, none⟩ = some (.int .i64 (A : Int)))
      (first | exact HSAT.out _ HB5.out | exact HSAT.out _ HB4.out | exact HSAT.out _ HBD.out | go_keep)
      (first
      | (go_at_call 12; (with_reducible refine (HRT.out _).mono ?_); rintro e w4 ⟨rfl, hb4⟩; have HB4 := Lib.hid (HBD.out.trans (hb4.mono HBD.out.size)); clear hb4)
      | (go_at_call 11; (with_reducible refine (awake10 _ (PairsAt.mono HT3.out HB4.out)).mono ?_); rintro e w5 ⟨rfl, hb5⟩; have HB5 := Lib.hid (HB4.out.trans (hb5.mono HB4.out.size)); clear hb5))
    all_goals
      go_wp2
      go_ret
      exact ⟨rfl, HB3.out.trans (HB5.out.mono HB3.out.size)⟩
  · have hbad : ¬ Good K S H L P ∨ seed < 0 ∨ 65536 ≤ seed ∨ esi < 0 ∨ 65536 ≤ esi := by
      by_cases hgd : Good K S H L P
      · have : ¬ (0 ≤ seed ∧ seed < 65536 ∧ 0 ≤ esi ∧ esi < 65536) := fun hh => hin ⟨hgd, hh⟩
        omega
      · exact .inl hgd
    have HTR : Hid (∀ V, Calls Tryd.prog 8 #[.agg #[.int .i64 K, .int .i64 S, .int .i64 H, .int .i64 L, .int .i64 P], .int .i64 seed, .int .i64 esi] V (NoSays 1 nameLTrip (.agg #[.int .i64 0, .int .i64 0, .int .i64 0]) V)) := Lib.hid fun V => Trip_no K S H L P seed esi hK hbad
    have HCK : Hid (∀ V, Calls Tryd.prog 9 #[.agg #[.int .i64 K, .int .i64 S, .int .i64 H, .int .i64 L, .int .i64 P], .int .i64 seed, .int .i64 esi] V fun e w' => e = .returned (.int .i64 1) ∧ Below V.heap.size V w') := Lib.hid fun V => rCheck_no K S H L P seed esi hK hbad
    clear hbad hin hK
    unfold parV parC
    go_enter Tryd.func3, Tryd.ntmps3
    go_upto_region 1 with fail
    rw [← HW0.out]
    go_wp2_with fail
    refine (HTR.out _).mono ?_
    rintro e w1 ⟨E1, rfl, hc1, hb1⟩
    obtain ⟨w2, hw2, hb2, hbt⟩ := trip_laid w1 0 0 0
    have HW2 := Lib.hid hw2
    have HC2 := Lib.hid (hc1.mono hb2)
    have HBS := Lib.hid (hb1.trans (hb2.mono hb1.size))
    have HB2 := Lib.hid (HB0.out.trans (HBS.out.mono HB0.out.size))
    have HBT := Lib.hid hbt
    obtain ⟨u, x, rfl⟩ := hc1.some (by decide)
    clear hw2 hb1 hb2 hbt hc1 c0 c1 c2 c3 c4
    obtain ⟨c0, c1, c2, c3, c4⟩ := (HBX.out.mono HBS.out).cells
    obtain ⟨t0, t1, t2⟩ := HBT.out.cells
    go_upto_region 2 with fail
    rw [← HW2.out]
    generalize w1.heap.size = g1 at *
    go_wp2_with fail
    refine (HCK.out _).mono ?_
    rintro e w3 ⟨rfl, hb3⟩
    have HC3 := Lib.hid (HC2.out.mono hb3)
    have HBS3 := Lib.hid (HBS.out.trans (hb3.mono HBS.out.size))
    have HB3 := Lib.hid (HB2.out.trans (hb3.mono HB2.out.size))
    have HBT3 := Lib.hid (HBT.out.mono hb3)
    clear hb3 c0 c1 c2 c3 c4 t0 t1 t2
    obtain ⟨t0, t1, t2⟩ := HBT3.out.cells
    go_wp2_with fail
    refine (tells_ans 1 _ _ HC3.out (HG.out.mono HBS3.out)).mono ?_
    rintro e w4 ⟨rfl, hb4⟩
    have HB4 := Lib.hid (HB3.out.trans (hb4.mono HB3.out.size))
    have HBT4 := Lib.hid (HBT3.out.mono hb4)
    have HT4 := Lib.hid (PairsAt.mono HT.out (HBS3.out.trans (hb4.mono HBS3.out.size)))
    clear hb4 t0 t1 t2
    obtain ⟨t0, t1, t2⟩ := HBT4.out.cells
    go_wp2_with fail
    refine (awake10 _ HT4.out).mono ?_
    rintro e w5 ⟨rfl, hb5⟩
    have HB5 := Lib.hid (HB4.out.trans (hb5.mono HB4.out.size))
    clear hb5
    go_wp2
    go_ret
    exact ⟨rfl, HB5.out⟩

set_option maxRecDepth 1000000 in
set_option maxHeartbeats 4000000 in
theorem walks10 {w : World} (K S H L P d st a : Int) (hK : I64 K) (hT : DgTab w) (hg : Laid w) : Calls Tryd.prog 4 #[parV K S H L P, tripV d st a] w fun e w' => e = .returned (.bool true) ∧ Below w.heap.size w w' := by
  obtain ⟨w0, hw0, hb0, hbx⟩ := par_laid w K S H L P
  obtain ⟨w1, hw1, hb1, hbt⟩ := trip_laid w0 d st a
  have hs0 : w0.heap.size = w.heap.size + 1 := by rw [hw0]; simp
  have HW0 := Lib.hid hw0
  have HW1 := Lib.hid hw1
  have hbb := hb0.trans (hb1.mono hb0.size)
  have HB1 := Lib.hid hbb
  rw [hs0] at hbt
  have HBX := Lib.hid (hbx.mono hb1)
  have HBT := Lib.hid hbt
  have HG := Lib.hid (hg.mono hbb)
  have HT := Lib.hid (PairsAt.mono hT hbb)
  obtain ⟨c0, c1, c2, c3, c4⟩ := HBX.out.cells
  obtain ⟨t0, t1, t2⟩ := HBT.out.cells
  clear hw0 hw1 hb0 hb1 hbx hbt hs0 hbb hg hT
  by_cases hin : ∃ k s h l p : Nat, K = k ∧ S = s ∧ H = h ∧ L = l ∧ P = p ∧ 1 ≤ k ∧ k ≤ 128 ∧ OfP k s h l p ∧ TripIn l p d st a
  · obtain ⟨k, s, h, l, p, rfl, rfl, rfl, rfl, rfl, hk1, hk2, hof, i1, i2, i3, i4, i5, i6⟩ := hin
    obtain ⟨D, rfl⟩ : ∃ n : Nat, d = n := ⟨d.toNat, by omega⟩
    obtain ⟨T, rfl⟩ : ∃ n : Nat, st = n := ⟨st.toNat, by omega⟩
    obtain ⟨A, rfl⟩ : ∃ n : Nat, a = n := ⟨a.toNat, by omega⟩
    obtain ⟨b1, b2, b3, b4, b5, b6, b7⟩ := hof.bounds hk1 hk2
    have hpp : IsP p := hof.2.2.2.1
    have HWK : Hid (∀ V, Calls Tryd.prog 13 #[.agg #[.int .i64 (k : Int), .int .i64 (s : Int), .int .i64 (h : Int), .int .i64 (l : Int), .int .i64 (p : Int)], .agg #[.int .i64 (D : Int), .int .i64 (T : Int), .int .i64 (A : Int)]] V fun e w' => ∃ v W, e = .returned (.tuple #[v, .nilIface]) ∧ IsTr l p T A D W ∧ ListAt intV w' v (W.map Int.ofNat) ∧ Below V.heap.size V w') := Lib.hid fun V => lWalk_ok k s h l p D T A hof hk1 hk2 (by omega) (by omega) (by omega) (by omega) (by omega)
    have HRW : Hid (∀ V, Calls Tryd.prog 16 #[.agg #[.int .i64 (k : Int), .int .i64 (s : Int), .int .i64 (h : Int), .int .i64 (l : Int), .int .i64 (p : Int)], .agg #[.int .i64 (D : Int), .int .i64 (T : Int), .int .i64 (A : Int)]] V fun e w' => ∃ v W, e = .returned v ∧ IsTr l p T A D W ∧ ListAt intV w' v (W.map Int.ofNat) ∧ Below V.heap.size V w') := Lib.hid fun V => rWalk_any k s h l p D T A hpp b6 (by omega) (by omega) (by omega) (by omega) (by omega) (by omega)
    have HCK : Hid (∀ V, Calls Tryd.prog 14 #[.agg #[.int .i64 (k : Int), .int .i64 (s : Int), .int .i64 (h : Int), .int .i64 (l : Int), .int .i64 (p : Int)], .agg #[.int .i64 (D : Int), .int .i64 (T : Int), .int .i64 (A : Int)]] V fun e w' => e = .returned (.int .i64 0) ∧ Below V.heap.size V w') := Lib.hid fun V => rCheckTrip_in k s h l p D T A hof hk1 hk2 (by omega) (by omega) (by omega) (by omega) (by omega)
    clear hof hK hpp b1 b2 b3 b4 b5 b6 b7
    unfold parV parC tripV tripC
    go_enter Tryd.func4, Tryd.ntmps4
    go_upto_region 1 with fail
    rw [← HW0.out, ← HW1.out]
    go_wp2_with fail
    refine (HWK.out _).mono ?_
    rintro e w2 ⟨v2, W, rfl, hw2, hl2, hb2⟩
    have HW2 := Lib.hid hw2
    have HL2 := Lib.hid hl2
    have HBS2 := Lib.hid hb2
    have HB2 := Lib.hid (HB1.out.trans (hb2.mono HB1.out.size))
    clear hw2 hl2 hb2 c0 c1 c2 c3 c4 t0 t1 t2
    obtain ⟨c0, c1, c2, c3, c4⟩ := (HBX.out.mono HBS2.out).cells
    obtain ⟨t0, t1, t2⟩ := (HBT.out.mono HBS2.out).cells
    go_wp2_with fail
    refine (HCK.out _).mono ?_
    rintro e w3 ⟨rfl, hb3⟩
    have HBS3 := Lib.hid (HBS2.out.trans (hb3.mono HBS2.out.size))
    have HB3 := Lib.hid (HB2.out.trans (hb3.mono HB2.out.size))
    have HL3 := Lib.hid (HL2.out.mono hb3)
    clear hb3 c0 c1 c2 c3 c4 t0 t1 t2
    obtain ⟨c0, c1, c2, c3, c4⟩ := (HBX.out.mono HBS3.out).cells
    obtain ⟨t0, t1, t2⟩ := (HBT.out.mono HBS3.out).cells
    go_wp2_with fail
    refine (tells_nil _).mono ?_
    rintro e w4 ⟨rfl, rfl⟩
    go_wp2_with fail
    refine (HRW.out _).mono ?_
    rintro e w4 ⟨v4, W4, rfl, hw4, hl4, hb4⟩
    obtain rfl := hw4.unique HW2.out
    have HS := Lib.hid (SameI_any v2 v4 _ (HL3.out.mono hb4) hl4)
    have HB4 := Lib.hid (HB3.out.trans (hb4.mono HB3.out.size))
    have HT4 := Lib.hid (PairsAt.mono HT.out (HBS3.out.trans (hb4.mono HBS3.out.size)))
    clear hw4 hl4 hb4 c0 c1 c2 c3 c4 t0 t1 t2
    go_wp2_with fail
    refine HS.out.mono ?_
    rintro e w5 ⟨rfl, hb5⟩
    have HB5 := Lib.hid (HB4.out.trans (hb5.mono HB4.out.size))
    have HT5 := Lib.hid (PairsAt.mono HT4.out hb5)
    clear hb5
    go_wp2_with fail
    refine (awake10 _ HT5.out).mono ?_
    rintro e w6 ⟨rfl, hb6⟩
    have HB6 := Lib.hid (HB5.out.trans (hb6.mono HB5.out.size))
    clear hb6
    go_wp2
    go_ret
    exact ⟨rfl, HB6.out⟩
  · have hbad : ∀ k s h l p : Nat, K = k → S = s → H = h → L = l → P = p → 1 ≤ k → k ≤ 128 → OfP k s h l p → ¬ TripIn l p d st a := fun k s h l p e1 e2 e3 e4 e5 h1 h2 h3 h4 => hin ⟨k, s, h, l, p, e1, e2, e3, e4, e5, h1, h2, h3, h4⟩
    have HWK : Hid (∀ V, Calls Tryd.prog 13 #[.agg #[.int .i64 K, .int .i64 S, .int .i64 H, .int .i64 L, .int .i64 P], .agg #[.int .i64 d, .int .i64 st, .int .i64 a]] V (NoSays 1 nameLWalk nilS V)) := Lib.hid fun V => lWalk_no K S H L P d st a hK hbad
    have HCK : Hid (∀ V, Calls Tryd.prog 14 #[.agg #[.int .i64 K, .int .i64 S, .int .i64 H, .int .i64 L, .int .i64 P], .agg #[.int .i64 d, .int .i64 st, .int .i64 a]] V fun e w' => e = .returned (.int .i64 1) ∧ Below V.heap.size V w') := Lib.hid fun V => rCheckTrip_no K S H L P d st a hK hbad
    clear hbad hin hK
    unfold parV parC tripV tripC
    go_enter Tryd.func4, Tryd.ntmps4
    go_upto_region 1 with fail
    rw [← HW0.out, ← HW1.out]
    go_wp2_with fail
    refine (HWK.out _).mono ?_
    rintro e w2 ⟨E1, rfl, hc1, hb2⟩
    have HC2 := Lib.hid hc1
    have HBS2 := Lib.hid hb2
    have HB2 := Lib.hid (HB1.out.trans (hb2.mono HB1.out.size))
    obtain ⟨u, x, rfl⟩ := hc1.some (by decide)
    clear hb2 hc1 c0 c1 c2 c3 c4 t0 t1 t2
    obtain ⟨c0, c1, c2, c3, c4⟩ := (HBX.out.mono HBS2.out).cells
    obtain ⟨t0, t1, t2⟩ := (HBT.out.mono HBS2.out).cells
    go_wp2_with fail
    refine (HCK.out _).mono ?_
    rintro e w3 ⟨rfl, hb3⟩
    have HC3 := Lib.hid (HC2.out.mono hb3)
    have HBS3 := Lib.hid (HBS2.out.trans (hb3.mono HBS2.out.size))
    have HB3 := Lib.hid (HB2.out.trans (hb3.mono HB2.out.size))
    clear hb3 c0 c1 c2 c3 c4 t0 t1 t2
    go_wp2_with fail
    refine (tells_ans 1 _ _ HC3.out (HG.out.mono HBS3.out)).mono ?_
    rintro e w4 ⟨rfl, hb4⟩
    have HB4 := Lib.hid (HB3.out.trans (hb4.mono HB3.out.size))
    have HT4 := Lib.hid (PairsAt.mono HT.out (HBS3.out.trans (hb4.mono HBS3.out.size)))
    clear hb4
    go_wp2_with fail
    refine (awake10 _ HT4.out).mono ?_
    rintro e w5 ⟨rfl, hb5⟩
    have HB5 := Lib.hid (HB4.out.trans (hb5.mono HB4.out.size))
    clear hb5
    go_wp2
    go_ret
    exact ⟨rfl, HB5.out⟩

set_option maxRecDepth 1000000 in
set_option maxHeartbeats 4000000 in
theorem rows10 {w : World} (K S H L P seed esi : Int) (hK : I64 K) (hT : DgTab w) (hg : Laid w) : Calls Tryd.prog 5 #[parV K S H L P, .int .i64 seed, .int .i64 esi] w fun e w' => e = .returned (.bool true) ∧ Below w.heap.size w w' := by
  obtain ⟨w0, hw0, hb0, hbx⟩ := par_laid w K S H L P
  have HW0 := Lib.hid hw0
  have HB0 := Lib.hid hb0
  have HBX := Lib.hid hbx
  have HG := Lib.hid (hg.mono hb0)
  have HT := Lib.hid (PairsAt.mono hT hb0)
  obtain ⟨c0, c1, c2, c3, c4⟩ := hbx.cells
  clear hw0 hb0 hbx hg hT
  by_cases hin : Good K S H L P ∧ 0 ≤ seed ∧ seed < 65536 ∧ 0 ≤ esi ∧ esi < 65536
  · obtain ⟨⟨k, s, h, l, p, rfl, rfl, rfl, rfl, rfl, hk1, hk2, hof⟩, i1, i2, i3, i4⟩ := hin
    obtain ⟨se, rfl⟩ : ∃ n : Nat, seed = n := ⟨seed.toNat, by omega⟩
    obtain ⟨es, rfl⟩ : ∃ n : Nat, esi = n := ⟨esi.toNat, by omega⟩
    obtain ⟨D, hD⟩ : ∃ D, trD l (mixN es se) = D := ⟨_, rfl⟩
    obtain ⟨S, hS⟩ : ∃ S, trS p (mixN es se) = S := ⟨_, rfl⟩
    obtain ⟨A, hA⟩ : ∃ A, trA p (mixN es se) = A := ⟨_, rfl⟩
    have HLR : Hid (∀ V, DgTab V → Calls Tryd.prog 17 #[.agg #[.int .i64 (k : Int), .int .i64 (s : Int), .int .i64 (h : Int), .int .i64 (l : Int), .int .i64 (p : Int)], .int .i64 (se : Int), .int .i64 (es : Int)] V fun e w' => ∃ v W, e = .returned (.tuple #[v, .nilIface]) ∧ IsTr l p S A D W ∧ ListAt intV w' v ((risN l W).map Int.ofNat) ∧ Below V.heap.size V w') := Lib.hid fun V hV => by
      have := Row_ok (w := V) k s h l p se es hof hk1 hk2 (by omega) (by omega) hV
      rwa [hD, hS, hA] at this
    have HRR : Hid (∀ V, Calls Tryd.prog 18 #[.agg #[.int .i64 (k : Int), .int .i64 (s : Int), .int .i64 (h : Int), .int .i64 (l : Int), .int .i64 (p : Int)], .int .i64 (se : Int), .int .i64 (es : Int)] V fun e w' => ∃ v W, e = .returned v ∧ IsTr l p S A D W ∧ ListAt intV w' v ((risN l W).map Int.ofNat) ∧ Below V.heap.size V w') := Lib.hid fun V => by
      have := rRow_any (w := V) k s h l p se es hof hk1 hk2 (by omega) (by omega)
      rwa [hD, hS, hA] at this
    have HCK : Hid (∀ V, Calls Tryd.prog 9 #[.agg #[.int .i64 (k : Int), .int .i64 (s : Int), .int .i64 (h : Int), .int .i64 (l : Int), .int .i64 (p : Int)], .int .i64 (se : Int), .int .i64 (es : Int)] V fun e w' => e = .returned (.int .i64 0) ∧ Below V.heap.size V w') := Lib.hid fun V => rCheck_in k s h l p se es hof hk1 hk2 (by omega) (by omega)
    clear hof hK hD hS hA
    unfold parV parC
    go_enter Tryd.func5, Tryd.ntmps5
    go_upto_region 1 with fail
    rw [← HW0.out]
    go_wp2_with fail
    refine (HLR.out _ HT.out).mono ?_
    rintro e w2 ⟨v2, W, rfl, hw2, hl2, hb2⟩
    have HW2 := Lib.hid hw2
    have HL2 := Lib.hid hl2
    have HBS2 := Lib.hid hb2
    have HB2 := Lib.hid (HB0.out.trans (hb2.mono HB0.out.size))
    clear hw2 hl2 hb2 c0 c1 c2 c3 c4
    obtain ⟨c0, c1, c2, c3, c4⟩ := (HBX.out.mono HBS2.out).cells
    go_wp2_with fail
    refine (HCK.out _).mono ?_
    rintro e w3 ⟨rfl, hb3⟩
    have HBS3 := Lib.hid (HBS2.out.trans (hb3.mono HBS2.out.size))
    have HB3 := Lib.hid (HB2.out.trans (hb3.mono HB2.out.size))
    have HL3 := Lib.hid (HL2.out.mono hb3)
    clear hb3 c0 c1 c2 c3 c4
    obtain ⟨c0, c1, c2, c3, c4⟩ := (HBX.out.mono HBS3.out).cells
    go_wp2_with fail
    refine (tells_nil _).mono ?_
    rintro e w4 ⟨rfl, rfl⟩
    go_wp2_with fail
    refine (HRR.out _).mono ?_
    rintro e w4 ⟨v4, W4, rfl, hw4, hl4, hb4⟩
    obtain rfl := hw4.unique HW2.out
    have HS := Lib.hid (SameI_any v2 v4 _ (HL3.out.mono hb4) hl4)
    have HB4 := Lib.hid (HB3.out.trans (hb4.mono HB3.out.size))
    have HT4 := Lib.hid (PairsAt.mono HT.out (HBS3.out.trans (hb4.mono HBS3.out.size)))
    clear hw4 hl4 hb4 c0 c1 c2 c3 c4
    go_wp2_with fail
    refine HS.out.mono ?_
    rintro e w5 ⟨rfl, hb5⟩
    have HB5 := Lib.hid (HB4.out.trans (hb5.mono HB4.out.size))
    have HT5 := Lib.hid (PairsAt.mono HT4.out hb5)
    clear hb5
    go_wp2_with fail
    refine (awake10 _ HT5.out).mono ?_
    rintro e w6 ⟨rfl, hb6⟩
    have HB6 := Lib.hid (HB5.out.trans (hb6.mono HB5.out.size))
    clear hb6
    go_wp2
    go_ret
    exact ⟨rfl, HB6.out⟩
  · have hbad : ¬ Good K S H L P ∨ seed < 0 ∨ 65536 ≤ seed ∨ esi < 0 ∨ 65536 ≤ esi := by
      by_cases hgd : Good K S H L P
      · have : ¬ (0 ≤ seed ∧ seed < 65536 ∧ 0 ≤ esi ∧ esi < 65536) := fun hh => hin ⟨hgd, hh⟩
        omega
      · exact .inl hgd
    have HLR : Hid (∀ V, Calls Tryd.prog 17 #[.agg #[.int .i64 K, .int .i64 S, .int .i64 H, .int .i64 L, .int .i64 P], .int .i64 seed, .int .i64 esi] V (NoSays 1 nameLRow nilS V)) := Lib.hid fun V => lRow_no K S H L P seed esi hK hbad
    have HCK : Hid (∀ V, Calls Tryd.prog 9 #[.agg #[.int .i64 K, .int .i64 S, .int .i64 H, .int .i64 L, .int .i64 P], .int .i64 seed, .int .i64 esi] V fun e w' => e = .returned (.int .i64 1) ∧ Below V.heap.size V w') := Lib.hid fun V => rCheck_no K S H L P seed esi hK hbad
    clear hbad hin hK
    unfold parV parC
    go_enter Tryd.func5, Tryd.ntmps5
    go_upto_region 1 with fail
    rw [← HW0.out]
    go_wp2_with fail
    refine (HLR.out _).mono ?_
    rintro e w2 ⟨E1, rfl, hc1, hb2⟩
    have HC2 := Lib.hid hc1
    have HBS2 := Lib.hid hb2
    have HB2 := Lib.hid (HB0.out.trans (hb2.mono HB0.out.size))
    obtain ⟨u, x, rfl⟩ := hc1.some (by decide)
    clear hb2 hc1 c0 c1 c2 c3 c4
    obtain ⟨c0, c1, c2, c3, c4⟩ := (HBX.out.mono HBS2.out).cells
    go_wp2_with fail
    refine (HCK.out _).mono ?_
    rintro e w3 ⟨rfl, hb3⟩
    have HC3 := Lib.hid (HC2.out.mono hb3)
    have HBS3 := Lib.hid (HBS2.out.trans (hb3.mono HBS2.out.size))
    have HB3 := Lib.hid (HB2.out.trans (hb3.mono HB2.out.size))
    clear hb3 c0 c1 c2 c3 c4
    go_wp2_with fail
    refine (tells_ans 1 _ _ HC3.out (HG.out.mono HBS3.out)).mono ?_
    rintro e w4 ⟨rfl, hb4⟩
    have HB4 := Lib.hid (HB3.out.trans (hb4.mono HB3.out.size))
    have HT4 := Lib.hid (PairsAt.mono HT.out (HBS3.out.trans (hb4.mono HBS3.out.size)))
    clear hb4
    go_wp2_with fail
    refine (awake10 _ HT4.out).mono ?_
    rintro e w5 ⟨rfl, hb5⟩
    have HB5 := Lib.hid (HB4.out.trans (hb5.mono HB4.out.size))
    clear hb5
    go_wp2
    go_ret
    exact ⟨rfl, HB5.out⟩
end Go.Proofs.YtedadhoaegjhfaaDoor
