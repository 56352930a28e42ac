/- Package ltrow: what is refused. -/
import Derived.Test.YtedadhoaegjhfaaDoorLtA
namespace Go.Proofs.YtedadhoaegjhfaaDoor
open Go.RowKit Go.Extern.Stop Go.Stop Go.Extern

def nameLTrip : ByteArray := ⟨#[108, 116, 114, 111, 119, 46, 84, 114, 105, 112]⟩
def nameLWalk : ByteArray := ⟨#[108, 116, 114, 111, 119, 46, 87, 97, 108, 107]⟩
def nameLRow : ByteArray := ⟨#[108, 116, 114, 111, 119, 46, 82, 111, 119]⟩

set_option maxRecDepth 1000000 in
set_option maxHeartbeats 4000000 in
theorem Trip_no {w : World} (K S H L P seed esi : Int) (hK : I64 K) (hbad : ¬ Good K S H L P ∨ seed < 0 ∨ 65536 ≤ seed ∨ esi < 0 ∨ 65536 ≤ esi) :
    Calls Tryd.prog 8 #[parV K S H L P, .int .i64 seed, .int .i64 esi] w (NoSays 1 nameLTrip (tripV 0 0 0) w) := by
  obtain ⟨w0, hw0, hb0, hbx⟩ := par_laid w K S H L P
  obtain ⟨w1, hw1, hb1, hbt⟩ := trip_laid w0 0 0 0
  have hs0 : w0.heap.size = w.heap.size + 1 := by rw [hw0]; simp
  have HW0 := Lib.hid hw0
  have HW1 := Lib.hid hw1
  have HB1 := Lib.hid (hb0.trans (hb1.mono hb0.size))
  rw [hs0] at hbt
  have HBX := Lib.hid (hbx.mono hb1)
  have HBT := Lib.hid hbt
  obtain ⟨c0, c1, c2, c3, c4⟩ := HBX.out.cells
  clear hw0 hw1 hb0 hb1 hbx hbt hs0
  by_cases hgood : Good K S H L P
  · obtain ⟨k, s, h, l, p, rfl, rfl, rfl, rfl, rfl, hk1, hk2, hof⟩ := hgood
    have hout : seed < 0 ∨ 65536 ≤ seed ∨ esi < 0 ∨ 65536 ≤ esi := hbad.resolve_left fun hn => hn ⟨k, s, h, l, p, rfl, rfl, rfl, rfl, rfl, hk1, hk2, hof⟩
    have HD : Hid (decide (seed < 0) = true ∨ (decide (seed < 0) = false ∧ decide (65536 ≤ seed) = true) ∨ (decide (seed < 0) = false ∧ decide (65536 ≤ seed) = false ∧ decide (esi < 0) = true) ∨ (decide (seed < 0) = false ∧ decide (65536 ≤ seed) = false ∧ decide (esi < 0) = false ∧ decide (65536 ≤ esi) = true)) := Lib.hid (by
      simp only [decide_eq_true_eq, decide_eq_false_iff_not]
      omega)
    have HR : Hid (∀ w, Calls Tryd.prog 21 #[.agg #[.int .i64 (k : Int), .int .i64 (s : Int), .int .i64 (h : Int), .int .i64 (l : Int), .int .i64 (p : Int)]] w fun e w' => e = .returned .nilIface ∧ Below w.heap.size w w') := Lib.hid fun w => lRight_ok k s h l p hof hk1 hk2
    clear hout hbad hof hK
    unfold parV parC
    rcases HD.out with d1 | ⟨d1, d2⟩ | ⟨d1, d2, d3⟩ | ⟨d1, d2, d3, d4⟩
    all_goals
      go_enter Tryd.func8, Tryd.ntmps8
      go_upto_region 1 with fail
      rw [← HW0.out, ← HW1.out]
      go_wp2_with fail
      refine (HR.out _).mono ?_
      rintro e w2 ⟨rfl, hb2⟩
      have HB2 := Lib.hid (HB1.out.trans (hb2.mono HB1.out.size))
      have HBT2 := Lib.hid (HBT.out.mono hb2)
      clear hb2 c0 c1 c2 c3 c4
      go_wp2_with fail
      refine (New_ans nameLTrip 1 (by decide) _).mono ?_
      rintro e w3 ⟨E, rfl, hc3, hb3⟩
      have HC3 := Lib.hid hc3
      have HB3 := Lib.hid (HB2.out.trans (hb3.mono HB2.out.size))
      have HBT3 := Lib.hid (HBT2.out.mono hb3)
      obtain ⟨u, x, rfl⟩ := hc3.some (by decide)
      obtain ⟨t0, t1, t2⟩ := HBT3.out.cells
      obtain ⟨y0, y1, y2⟩ := HBT3.out.free
      clear hc3 hb3
      go_wp2
      refine bodyPost_ret (results_row2 rfl _ _ (w.heap.size + 1) 25 _ (0, 0) _ rfl (HBT3.out.done _ _ _) Tryd.underlying25 rfl (by kernel_rfl)) rfl ?_
      exact ⟨_, rfl, HBT3.out.err HC3.out _ _ _, TripBox.below HB3.out (by omega) _ _ _⟩
  · have HR : Hid (∀ w, Calls Tryd.prog 21 #[.agg #[.int .i64 K, .int .i64 S, .int .i64 H, .int .i64 L, .int .i64 P]] w fun e w' => ∃ E ls, e = .returned E ∧ Chain w' 1 ls E ∧ Below w.heap.size w w') := Lib.hid fun w => lRight_bad K S H L P hgood hK
    clear hbad hgood hK
    unfold parV parC
    go_enter Tryd.func8, Tryd.ntmps8
    go_upto_region 1 with fail
    rw [← HW0.out, ← HW1.out]
    go_wp2_with fail
    refine (HR.out _).mono ?_
    rintro e w2 ⟨E, ls, rfl, hch, hb2⟩
    have HB2 := Lib.hid (HB1.out.trans (hb2.mono HB1.out.size))
    have HBT2 := Lib.hid (HBT.out.mono hb2)
    have HCH := Lib.hid hch
    obtain ⟨u, x, rfl⟩ := hch.iface
    clear hb2 hch c0 c1 c2 c3 c4
    go_wp2_with fail
    refine (Wrap_chain nameLTrip 1 ls _ _ HCH.out).mono ?_
    rintro e w3 ⟨E2, rfl, hch, hb3⟩
    have HB3 := Lib.hid (HB2.out.trans (hb3.mono HB2.out.size))
    have HBT3 := Lib.hid (HBT2.out.mono hb3)
    have HCH2 := Lib.hid hch
    obtain ⟨u2, x2, rfl⟩ := hch.iface
    obtain ⟨t0, t1, t2⟩ := HBT3.out.cells
    obtain ⟨y0, y1, y2⟩ := HBT3.out.free
    clear hch hb3
    go_wp2
    refine bodyPost_ret (results_row2 rfl _ _ (w.heap.size + 1) 25 _ (0, 0) _ rfl (HBT3.out.done _ _ _) Tryd.underlying25 rfl (by kernel_rfl)) rfl ?_
    exact ⟨_, rfl, HBT3.out.err (.inr ⟨by decide, ls, HCH2.out⟩) _ _ _, TripBox.below HB3.out (by omega) _ _ _⟩

set_option maxRecDepth 1000000 in
set_option maxHeartbeats 4000000 in
theorem lRow_no {w : World} (K S H L P seed esi : Int) (hK : I64 K) (hbad : ¬ Good K S H L P ∨ seed < 0 ∨ 65536 ≤ seed ∨ esi < 0 ∨ 65536 ≤ esi) :
    Calls Tryd.prog 17 #[parV K S H L P, .int .i64 seed, .int .i64 esi] w (NoSays 1 nameLRow nilS w) := by
  obtain ⟨w0, hw0, hb0, hbx⟩ := par_laid w K S H L P
  have HW0 := Lib.hid hw0
  have HB0 := Lib.hid hb0
  obtain ⟨c0, c1, c2, c3, c4⟩ := hbx.cells
  have HT : Hid (∀ w, Calls Tryd.prog 8 #[.agg #[.int .i64 K, .int .i64 S, .int .i64 H, .int .i64 L, .int .i64 P], .int .i64 seed, .int .i64 esi] w (NoSays 1 nameLTrip (.agg #[.int .i64 0, .int .i64 0, .int .i64 0]) w)) := Lib.hid fun w => Trip_no K S H L P seed esi hK hbad
  clear hw0 hb0 hbx hbad hK
  unfold parV parC
  go_enter Tryd.func17, Tryd.ntmps17
  go_upto_region 1 with fail
  rw [← HW0.out]
  go_wp2_with fail
  refine (HT.out _).mono ?_
  rintro e w1 ⟨E, rfl, hc, hb1⟩
  obtain ⟨w2, hw2, hb2, hbt⟩ := trip_laid w1 0 0 0
  have HW2 := Lib.hid hw2
  have hbb := hb1.trans (hb2.mono hb1.size)
  have HB2 := Lib.hid (HB0.out.trans (hbb.mono HB0.out.size))
  obtain ⟨ls, hch⟩ : ∃ ls, Chain w1 1 (nameLTrip :: ls) E := (hc.resolve_left (by rintro ⟨h, -⟩; cases h)).2
  have HCH := Lib.hid (hch.mono hb2)
  obtain ⟨u, x, rfl⟩ := hch.iface
  clear hw2 hb1 hb2 hbb hbt hc hch c0 c1 c2 c3 c4
  go_upto_region 2 with fail
  rw [← HW2.out]
  go_wp2_with fail
  refine (Wrap_chain nameLRow 1 _ _ _ HCH.out).mono ?_
  rintro e w3 ⟨E2, rfl, hch, hb3⟩
  have HB3 := Lib.hid (HB2.out.trans (hb3.mono HB2.out.size))
  have HCH2 := Lib.hid hch
  obtain ⟨u2, x2, rfl⟩ := hch.iface
  clear hch hb3
  go_wp2
  go_ret2
  exact ⟨_, rfl, .inr ⟨by decide, _, HCH2.out⟩, HB3.out⟩
end Go.Proofs.YtedadhoaegjhfaaDoor
