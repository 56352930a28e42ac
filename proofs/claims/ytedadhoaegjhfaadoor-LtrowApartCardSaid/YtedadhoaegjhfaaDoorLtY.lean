/- Package ltrow: Walk. -/
import Derived.Test.YtedadhoaegjhfaaDoorLtS
import Derived.Test.YtedadhoaegjhfaaDoorLtD
namespace Go.Proofs.YtedadhoaegjhfaaDoor
open Go.RowKit Go.Extern.Stop Go.Stop Go.Extern

set_option maxRecDepth 1000000 in
set_option maxHeartbeats 4000000 in
theorem lWalk_ok {w : World} (k s h l p d st a : Nat) (H : OfP k s h l p) (hk1 : 1 ≤ k) (hk2 : k ≤ 128) (hd1 : 1 ≤ d) (hd2 : d ≤ l) (hs1 : 1 ≤ st) (hs2 : st < p) (ha : a < p) :
    Calls Tryd.prog 13 #[parV k s h l p, tripV d st a] w fun e w' => ∃ v W, e = .returned (.tuple #[v, .nilIface]) ∧ IsTr l p st a d W ∧ ListAt intV w' v (W.map Int.ofNat) ∧ Below w.heap.size w w' := by
  obtain ⟨b1, b2, b3, b4, b5, b6, b7⟩ := H.bounds hk1 hk2
  have hpp : IsP p := H.2.2.2.1
  obtain ⟨w0, hw0, hb0, hbx⟩ := par_laid w k s h l p
  obtain ⟨w1, hw1, hb1, hbt⟩ := trip_laid w0 d st a
  have hs0 : w0.heap.size = w.heap.size + 1 := by rw [hw0]; simp
  have HW0 := Lib.hid hw0
  have HW1 := Lib.hid hw1
  have HB1 := Lib.hid (hb0.trans (hb1.mono hb0.size))
  rw [hs0] at hbt
  have HBX := Lib.hid (hbx.mono hb1)
  have HBT := Lib.hid hbt
  obtain ⟨c0, c1, c2, c3, c4⟩ := HBX.out.cells
  obtain ⟨t0, t1, t2⟩ := HBT.out.cells
  have HR : Hid (∀ V, Calls Tryd.prog 21 #[.agg #[.int .i64 (k : Int), .int .i64 (s : Int), .int .i64 (h : Int), .int .i64 (l : Int), .int .i64 (p : Int)]] V fun e w' => e = .returned .nilIface ∧ Below V.heap.size V w') := Lib.hid fun V => lRight_ok k s h l p H hk1 hk2
  have HWK : Hid (∀ V, Calls Tryd.prog 31 #[.agg #[.int .i64 (k : Int), .int .i64 (s : Int), .int .i64 (h : Int), .int .i64 (l : Int), .int .i64 (p : Int)], .agg #[.int .i64 (d : Int), .int .i64 (st : Int), .int .i64 (a : Int)]] V fun e w' => ∃ v W, e = .returned v ∧ IsTr l p st a d W ∧ ListAt intV w' v (W.map Int.ofNat) ∧ Below V.heap.size V w') := Lib.hid fun V => by
    refine (walk_ok (w := V) k s h l p d st a hpp b6 (by omega) hs1 hs2 ha hd2).mono ?_
    rintro e w' ⟨g, W, rfl, hw, ho, hb⟩
    exact ⟨_, W, rfl, hw, ListAt.of_owns (f := intV) ho, hb⟩
  have d1 : decide ((d : Int) < 1) = false := decide_eq_false (by omega)
  have d2 : decide ((l : Int) < (d : Int)) = false := decide_eq_false (by omega)
  have d3 : decide ((st : Int) < 1) = false := decide_eq_false (by omega)
  have d4 : decide ((p : Int) ≤ (st : Int)) = false := decide_eq_false (by omega)
  have d5 : decide ((a : Int) < 0) = false := decide_eq_false (by omega)
  have d6 : decide ((p : Int) ≤ (a : Int)) = false := decide_eq_false (by omega)
  have d7 : decide (l < d) = false := decide_eq_false (by omega)
  have d8 : decide (p ≤ st) = false := decide_eq_false (by omega)
  have d9 : decide (p ≤ a) = false := decide_eq_false (by omega)
  clear hw0 hw1 hb0 hb1 hbx hbt hs0 H hpp
  unfold parV parC tripV tripC
  go_enter Tryd.func13, Tryd.ntmps13
  go_upto_region 1 with fail
  rw [← HW0.out, ← HW1.out]
  go_wp2_with fail
  refine (HR.out _).mono ?_
  rintro e w2 ⟨rfl, hb2⟩
  have HB2 := Lib.hid (HB1.out.trans (hb2.mono HB1.out.size))
  have HBX2 := Lib.hid (HBX.out.mono hb2)
  have HBT2 := Lib.hid (HBT.out.mono hb2)
  clear hb2 c0 c1 c2 c3 c4 t0 t1 t2
  obtain ⟨c0, c1, c2, c3, c4⟩ := HBX2.out.cells
  obtain ⟨t0, t1, t2⟩ := HBT2.out.cells
  go_wp2_with fail
  refine (HWK.out _).mono ?_
  rintro e w3 ⟨v, W, rfl, hw, hl, hb3⟩
  have HW := Lib.hid hw
  have HL := Lib.hid hl
  have HB3 := Lib.hid (HB2.out.trans (hb3.mono HB2.out.size))
  clear hw hl hb3 c0 c1 c2 c3 c4 t0 t1 t2
  go_wp2
  go_ret2
  exact ⟨_, W, rfl, HW.out, HL.out, HB3.out⟩

set_option maxRecDepth 1000000 in
set_option maxHeartbeats 4000000 in
theorem lWalk_no {w : World} (K S H L P d st a : Int) (hK : I64 K) (hbad : ∀ k s h l p : Nat, K = k → S = s → H = h → L = l → P = p → 1 ≤ k → k ≤ 128 → OfP k s h l p → ¬ TripIn l p d st a) :
    Calls Tryd.prog 13 #[parV K S H L P, tripV d st a] w (NoSays 1 nameLWalk nilS w) := by
  obtain ⟨w0, hw0, hb0, hbx⟩ := par_laid w K S H L P
  obtain ⟨w1, hw1, hb1, hbt⟩ := trip_laid w0 d st a
  have hs0 : w0.heap.size = w.heap.size + 1 := by rw [hw0]; simp
  have HW0 := Lib.hid hw0
  have HW1 := Lib.hid hw1
  have HB1 := Lib.hid (hb0.trans (hb1.mono hb0.size))
  rw [hs0] at hbt
  have HBX := Lib.hid (hbx.mono hb1)
  have HBT := Lib.hid hbt
  obtain ⟨c0, c1, c2, c3, c4⟩ := HBX.out.cells
  obtain ⟨t0, t1, t2⟩ := HBT.out.cells
  clear hw0 hw1 hb0 hb1 hbx hbt hs0
  by_cases hgood : Good K S H L P
  · obtain ⟨k, s, h, l, p, rfl, rfl, rfl, rfl, rfl, hk1, hk2, hof⟩ := hgood
    have hn := hbad k s h l p rfl rfl rfl rfl rfl hk1 hk2 hof
    unfold TripIn at hn
    have HD : Hid (decide (d < 1) = true ∨ (decide (d < 1) = false ∧ decide ((l : Int) < d) = true) ∨ (decide (d < 1) = false ∧ decide ((l : Int) < d) = false ∧ decide (st < 1) = true) ∨ (decide (d < 1) = false ∧ decide ((l : Int) < d) = false ∧ decide (st < 1) = false ∧ decide ((p : Int) ≤ st) = true) ∨ (decide (d < 1) = false ∧ decide ((l : Int) < d) = false ∧ decide (st < 1) = false ∧ decide ((p : Int) ≤ st) = false ∧ decide (a < 0) = true) ∨ (decide (d < 1) = false ∧ decide ((l : Int) < d) = false ∧ decide (st < 1) = false ∧ decide ((p : Int) ≤ st) = false ∧ decide (a < 0) = false ∧ decide ((p : Int) ≤ a) = true)) := Lib.hid (by
      simp only [decide_eq_true_eq, decide_eq_false_iff_not]
      omega)
    have HR : Hid (∀ V, Calls Tryd.prog 21 #[.agg #[.int .i64 (k : Int), .int .i64 (s : Int), .int .i64 (h : Int), .int .i64 (l : Int), .int .i64 (p : Int)]] V fun e w' => e = .returned .nilIface ∧ Below V.heap.size V w') := Lib.hid fun V => lRight_ok k s h l p hof hk1 hk2
    clear hn hbad hof hK
    unfold parV parC tripV tripC
    rcases HD.out with d1 | ⟨d1, d2⟩ | ⟨d1, d2, d3⟩ | ⟨d1, d2, d3, d4⟩ | ⟨d1, d2, d3, d4, d5⟩ | ⟨d1, d2, d3, d4, d5, d6⟩
    all_goals
      go_enter Tryd.func13, Tryd.ntmps13
      go_upto_region 1 with fail
      rw [← HW0.out, ← HW1.out]
      go_wp2_with fail
      refine (HR.out _).mono ?_
      rintro e w2 ⟨rfl, hb2⟩
      have HB2 := Lib.hid (HB1.out.trans (hb2.mono HB1.out.size))
      have HBX2 := HBX.out.mono hb2
      have HBT2 := HBT.out.mono hb2
      clear hb2 c0 c1 c2 c3 c4 t0 t1 t2
      obtain ⟨c0, c1, c2, c3, c4⟩ := HBX2.cells
      obtain ⟨t0, t1, t2⟩ := HBT2.cells
      clear HBX2 HBT2
      go_wp2_with fail
      refine (New_ans nameLWalk 1 (by decide) _).mono ?_
      rintro e w3 ⟨E, rfl, hc3, hb3⟩
      have HC3 := Lib.hid hc3
      have HB3 := Lib.hid (HB2.out.trans (hb3.mono HB2.out.size))
      obtain ⟨u, x, rfl⟩ := hc3.some (by decide)
      clear hc3 hb3
      go_wp2
      go_ret2
      exact ⟨_, rfl, HC3.out, HB3.out⟩
  · have HR : Hid (∀ w, Calls Tryd.prog 21 #[.agg #[.int .i64 K, .int .i64 S, .int .i64 H, .int .i64 L, .int .i64 P]] w fun e w' => ∃ E ls, e = .returned E ∧ Chain w' 1 ls E ∧ Below w.heap.size w w') := Lib.hid fun w => lRight_bad K S H L P hgood hK
    clear hbad hgood hK
    unfold parV parC tripV tripC
    go_enter Tryd.func13, Tryd.ntmps13
    go_upto_region 1 with fail
    rw [← HW0.out, ← HW1.out]
    go_wp2_with fail
    refine (HR.out _).mono ?_
    rintro e w2 ⟨E, ls, rfl, hch, hb2⟩
    have HB2 := Lib.hid (HB1.out.trans (hb2.mono HB1.out.size))
    have HCH := Lib.hid hch
    obtain ⟨u, x, rfl⟩ := hch.iface
    clear hb2 hch c0 c1 c2 c3 c4 t0 t1 t2
    go_wp2_with fail
    refine (Wrap_chain nameLWalk 1 ls _ _ HCH.out).mono ?_
    rintro e w3 ⟨E2, rfl, hch, hb3⟩
    have HB3 := Lib.hid (HB2.out.trans (hb3.mono HB2.out.size))
    have HCH2 := Lib.hid hch
    obtain ⟨u2, x2, rfl⟩ := hch.iface
    clear hch hb3
    go_wp2
    go_ret2
    exact ⟨_, rfl, .inr ⟨by decide, ls, HCH2.out⟩, HB3.out⟩
end Go.Proofs.YtedadhoaegjhfaaDoor
