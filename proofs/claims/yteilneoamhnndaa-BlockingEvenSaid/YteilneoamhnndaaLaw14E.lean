/- The fourteenth layer's law BlockingEven. -/
import Derived.Test.YteilneoamhnndaaLaw14
namespace Go.Proofs.Yteilneoamhnndaa
open Go.RowKit Go.Extern.Stop Go.Stop Go.Extern

set_option maxRecDepth 1000000 in
set_option maxHeartbeats 4000000 in
theorem even14 {w : World} (s b m : Int) (hs : I64 s) : Calls Try.prog 4 #[.int .i64 s, .int .i64 b, .int .i64 m] w fun e w' => e = .returned (.bool true) ∧ Below w.heap.size w w' := by
  rcases bkOf_ways s b m hs with ⟨k, hk, hO⟩ | ⟨S, B, M, n, l, q, rfl, rfl, rfl, hS, hP, hn, hO⟩
  · have HO := Lib.hid hO
    clear hO hs
    go_enter Try.func4, Try.ntmps4
    go_wp2_with fail
    refine (HO.out w).mono ?_
    rintro e w1 ⟨E, rfl, he, hb1⟩
    obtain ⟨W, hW, hbW, hbx⟩ := pl_laid w1 0 0 0 0 0
    have HW := Lib.hid hW
    have HB1 := Lib.hid (hb1.trans (hbW.mono hb1.size))
    have HBX := Lib.hid hbx
    obtain ⟨u, x, rfl⟩ := he.some hk
    clear hb1 hW hbW hbx he
    obtain ⟨c0, c1, c2, c3, c4⟩ := HBX.out.cells
    unfold plV plC
    go_upto_region 2 with fail
    rw [← HW.out]
    go_wp2_with fail
    refine (awake14 _).mono ?_
    rintro e w2 ⟨rfl, hb2⟩
    have HB2 := Lib.hid (HB1.out.trans (hb2.mono HB1.out.size))
    clear hb2
    go_wp2
    go_ret
    exact ⟨rfl, HB2.out⟩
  · have HO := Lib.hid hO
    have hK := hP.ok hn
    have HCK : Hid (∀ V : World, Calls Try.prog 9 #[.agg #[.int .i64 (S : Int), .int .i64 (B : Int), .int .i64 (n : Int), .int .i64 (l : Int), .int .i64 (q : Int)]] V fun e w' => e = .returned .nilIface ∧ Below V.heap.size V w') := Lib.hid fun V => bkCheck_ok hK
    have HSC : Hid (∀ (j : Nat), j < n → ∀ V : World, Calls Try.prog 10 #[.agg #[.int .i64 (S : Int), .int .i64 (B : Int), .int .i64 (n : Int), .int .i64 (l : Int), .int .i64 (q : Int)], .int .i64 (j : Int)] V fun e w' => e = .returned (.tuple #[.int .i64 ((cntP l q j : Nat) : Int), .nilIface]) ∧ Below V.heap.size V w') := Lib.hid fun j hj V => bkSource_ok hK hj
    have HSY : Hid (∀ V : World, Calls Try.prog 11 #[.int .i64 (S : Int), .int .i64 (B : Int)] V fun e w' => e = .returned (.int .i64 ((symT S B : Nat) : Int)) ∧ V = w') := Lib.hid fun V => rbSymbols_any S B hP.b1 hS
    have HCT : Hid (∀ j, 1 ≤ cntP l q j ∧ cntP l q j ≤ M) := Lib.hid fun j => ⟨(hK.cnt j).1, hP.cnt hn j⟩
    have HOFF : Hid (offP l q n = symT S B) := Lib.hid hK.off
    have hT := hK.symT_le
    have hT1 := symT_pos S B
    have hM := hP.m128
    have hn1 := hK.n1
    have hfew := hP.few
    have hnm : (n - 1) * M ≤ 2048 := by omega
    have hI : ((n : Int) - 1) * (M : Int) = (((n - 1) * M : Nat) : Int) := by rw [Int.natCast_mul]; congr 1; omega
    have f1 : decide (((n : Int) - 1) * (M : Int) < (symT S B : Int)) = true := decide_eq_true (by rw [hI]; omega)
    have f2 : ((n : Int) - 1) * (M : Int) ≤ 2048 := by rw [hI]; omega
    have f3 : 0 ≤ ((n : Int) - 1) * (M : Int) := by rw [hI]; omega
    have HLE : Hid (∀ j, j ≤ n → offP l q j ≤ symT S B) := Lib.hid fun j hj => by rw [← hK.off]; exact offP_le hj
    have hq := hK.q128
    clear hO hs hP hK hI hfew hnm hS
    generalize symT S B = T at *
    go_enter Try.func4, Try.ntmps4
    go_wp2_with fail
    refine (HO.out w).mono ?_
    rintro e w1 ⟨rfl, hb1⟩
    obtain ⟨W, hW, hbW, hbx⟩ := pl_laid w1 (S : Int) (B : Int) (n : Int) (l : Int) (q : Int)
    have HW := Lib.hid hW
    have HB1 := Lib.hid (hb1.trans (hbW.mono hb1.size))
    have HBX := Lib.hid hbx
    clear hb1 hW hbW hbx
    obtain ⟨c0, c1, c2, c3, c4⟩ := HBX.out.cells
    unfold plV plC
    go_upto_region 2 with fail
    rw [← HW.out]
    go_wp2_with fail
    refine (HCK.out W).mono ?_
    rintro e w2 ⟨rfl, hb2⟩
    have HB2 := Lib.hid (HB1.out.trans (hb2.mono HB1.out.size))
    have HX2 := Lib.hid (HBX.out.mono hb2)
    clear hb2 c0 c1 c2 c3 c4 HBX HB1
    go_wp2_with fail
    go_loopw [9, 10] (fun t i wr => ∃ j : Nat, j ≤ n ∧ i = .int .i64 (j : Int) ∧ t = .int .i64 ((offP l q j : Nat) : Int) ∧ Below w2.heap.size w2 wr) (fun _ i _ => n - (intOf i).toNat)
    case atStart => exact ⟨0, by omega, rfl, by rw [offP_zero]; rfl, Below.refl _ _⟩
    case round =>
      obtain ⟨j, hj, rfl, rfl, hbel⟩ := hrel
      have HB := Lib.hid hbel
      obtain ⟨c0, c1, c2, c3, c4⟩ := (HX2.out.mono hbel).cells
      clear hbel
      by_cases hlt : j < n
      · have d1 : decide ((j : Int) < (n : Int)) = true := decide_eq_true (by omega)
        have HST : Hid (offP l q (j + 1) = offP l q j + cntP l q j) := Lib.hid (offP_succ l q j)
        have hle := HLE.out (j + 1) hlt
        rw [HST.out] at hle
        obtain ⟨g1, g2⟩ := HCT.out j
        have HSj := Lib.hid (HSC.out j hlt)
        have HW3 : Hid (((cntP l q j : Nat) : Int) = (q : Int) ∨ ((cntP l q j : Nat) : Int) = (q : Int) + 1) := Lib.hid (by unfold cntP; split <;> omega)
        generalize cntP l q j = c at *
        generalize offP l q j = t at *
        have d2 : decide ((c : Int) < 1) = false := decide_eq_false (by omega)
        have d3 : decide ((M : Int) < (c : Int)) = false := decide_eq_false (by omega)
        have HB' : Hid (((c : Int) != (q : Int)) = false ∨ ((c : Int) != (q : Int)) = true ∧ ((c : Int) != (q : Int) + 1) = false) := Lib.hid (by
          by_cases h : (c : Int) = q
          · exact .inl (by simpa using h)
          · refine .inr ⟨by simpa using h, ?_⟩
            have := HW3.out.resolve_left h
            simpa using this)
        go_wp2_with fail
        refine (HSj.out _).mono ?_
        rintro e w3 ⟨rfl, hb3⟩
        have HB3 := Lib.hid (HB.out.trans (hb3.mono HB.out.size))
        clear c0 c1 c2 c3 c4
        obtain ⟨c0, c1, c2, c3, c4⟩ := (HX2.out.mono HB3.out).cells
        clear hb3 HB
        rcases HB'.out with b1 | ⟨b1, b2⟩
        all_goals
          go_wp2
          go_roundw
          case rel => exact ⟨j + 1, hlt, by go_num, by rw [HST.out]; go_num, HB3.out⟩
          case measure => simp [intOf]; omega
      · obtain rfl : j = n := by omega
        have d1 : decide ((j : Int) < (j : Int)) = false := decide_eq_false (by omega)
        rw [HOFF.out]
        have g2 : ((T : Int) == (T : Int)) = true := by simp
        go_wp2_with fail
        refine (HSY.out _).mono ?_
        rintro e w3 ⟨rfl, rfl⟩
        go_wp2_with fail
        refine (awake14 _).mono ?_
        rintro e w4 ⟨rfl, hb4⟩
        have HB4 := Lib.hid (HB2.out.trans ((HB.out.trans (hb4.mono HB.out.size)).mono HB2.out.size))
        clear hb4
        go_wp2
        go_ret
        exact ⟨rfl, HB4.out⟩
end Go.Proofs.Yteilneoamhnndaa
