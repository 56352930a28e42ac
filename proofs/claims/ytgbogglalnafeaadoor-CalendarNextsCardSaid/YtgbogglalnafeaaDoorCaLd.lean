/- Package calendar: Check, Next, Steps. (Made by gencal.py.) -/
import Derived.Test.YtgbogglalnafeaaDoorCaLa
import Derived.Test.YtgbogglalnafeaaDoorCaC
import Derived.Test.YtgbogglalnafeaaDoorErrWrap
namespace Go.Proofs.YtgbogglalnafeaaDoor
open Go.RowKit Go.Extern.Stop Go.Stop Go.Extern

set_option linter.unusedSimpArgs false in
set_option linter.unusedVariables false in
set_option maxRecDepth 1000000 in
set_option maxHeartbeats 4000000 in
theorem caCheckC : CaCheckC := fun w b u ib iu => by
  have HN := Lib.hid (New_both nameCaCheck 1 w)
  by_cases hok : CaOk b u 0
  · have HM := Lib.hid (caN_zero.2 hok)
    have HC : Hid (∀ V : World, Calls Tryd.prog 22 #[.int .i64 b, .int .i64 u] V fun e w' => e = .returned (.bool false) ∧ V = w') := Lib.hid fun V => by have h := caNoCal_any (w := V) b u; rwa [(noCal_ok hok).1] at h
    clear hok
    go_enter Tryd.func10, Tryd.ntmps10
    go_wp2_with fail
    with_reducible refine (HC.out _).mono ?_
    rintro e w1 ⟨rfl, rfl⟩
    go_wp2
    go_ret
    exact ⟨_, rfl, by rw [HM.out]; exact ErrAns.none _ _, Below.refl _ _⟩
  · have HM := Lib.hid (caN_one hok)
    have HC : Hid (∀ V : World, Calls Tryd.prog 22 #[.int .i64 b, .int .i64 u] V fun e w' => e = .returned (.bool true) ∧ V = w') := Lib.hid fun V => by
      have h := caNoCal_any (w := V) b u
      rcases noCal_no hok with h1 | ⟨h1, h2⟩
      · rwa [h1] at h
      · exact absurd h2 (by decide)
    clear hok
    go_enter Tryd.func10, Tryd.ntmps10
    go_wp2_with fail
    with_reducible refine (HC.out _).mono ?_
    rintro e w1 ⟨rfl, rfl⟩
    go_wp2_with fail
    refine HN.out.mono ?_
    rintro e w1 ⟨E, rfl, hE, hb⟩
    have HE := Lib.hid hE
    have HB := Lib.hid hb
    clear hE hb
    go_wp2
    go_ret
    exact ⟨E, rfl, by rw [HM.out]; exact HE.out, HB.out⟩

set_option linter.unusedSimpArgs false in
set_option linter.unusedVariables false in
set_option maxRecDepth 1000000 in
set_option maxHeartbeats 4000000 in
theorem caNextC : CaNextC := fun w b l t ib ix it => by
  have HN := Lib.hid (New_both nameCaNext 1 w)
  by_cases c1 : 2 ≤ b ∧ b ≤ 4096
  · have HC : Hid (∀ V : World, Calls Tryd.prog 27 #[.int .i64 b] V fun e w' => e = .returned (.bool false) ∧ V = w') := Lib.hid fun V => by have h3 := caNoBase_any (w := V) b; rwa [outB_false c1.1 c1.2] at h3
    by_cases c2 : 0 ≤ l ∧ l ≤ 7
    · have HO : Hid (∀ V : World, Calls Tryd.prog 28 #[.int .i64 l, .int .i64 0, .int .i64 7] V fun e w' => e = .returned (.bool false) ∧ V = w') := Lib.hid fun V => by have h3 := caOut_any (w := V) l 0 7; rwa [outB_false c2.1 c2.2] at h3
      by_cases c3 : 0 ≤ t ∧ t < 1099511627776
      · have HT : Hid (∀ V : World, Calls Tryd.prog 23 #[.int .i64 t] V fun e w' => e = .returned (.bool false) ∧ V = w') := Lib.hid fun V => by have h3 := caNoTick_any (w := V) t; rwa [outB_false c3.1 (by omega)] at h3
        have HM : Hid (CaOk b 1 t ∧ 0 ≤ l ∧ l ≤ 7) := Lib.hid ⟨⟨c1.1, c1.2, by decide, by omega, c3.1, c3.2⟩, c2.1, c2.2⟩
        obtain ⟨c11, c12⟩ := c1
        obtain ⟨c21, c22⟩ := c2
        obtain ⟨c31, c32⟩ := c3
        obtain ⟨b, rfl⟩ := Int.eq_ofNat_of_zero_le (show 0 ≤ b by omega)
        obtain ⟨l, rfl⟩ := Int.eq_ofNat_of_zero_le (show 0 ≤ l by omega)
        obtain ⟨t, rfl⟩ := Int.eq_ofNat_of_zero_le c31
        have e1 : ((b : Int)).toNat = b := by omega
        have e2 : ((l : Int)).toNat = l := by omega
        have e3 : ((t : Int)).toNat = t := by omega
        rw [e1, e2, e3]
        clear e1 e2 e3
        have HI := Lib.hid fun V => caInterval_any (w := V) b l (by omega) (by omega)
        have HE : Hid (nextZ b l t = (t / (b * 2 ^ l) + 1) * (b * 2 ^ l)) := Lib.hid (nextZ_eq (by omega))
        have p2 : b * 2 ^ l ≤ 1048576 := Nat.mul_le_mul (show b ≤ 4096 by omega) (show 2 ^ l ≤ 2 ^ 8 from Nat.pow_le_pow_right (by decide) (by omega))
        have p1 : 2 ≤ b * 2 ^ l := Nat.le_trans (show 2 ≤ 2 * 1 by decide) (Nat.mul_le_mul (by omega) (Nat.two_pow_pos l))
        have hb : nextZ b l t ≤ 1099513724928 := by
          unfold nextZ
          omega
        generalize nextZ b l t = Z at *
        generalize b * 2 ^ l = E at *
        have hnz : ((E : Int) == 0) = false := by simp; omega
        have hnz2 : ¬ (E : Int) = 0 := by omega
        have hnz3 : ¬ E = 0 := by omega
        have hm : (t : Int).tdiv (E : Int) = ((t / E : Nat) : Int) := Int.ofNat_tdiv ..
        have hdb : t / E ≤ t := Nat.div_le_self t E
        have hZ : (((t / E : Nat) : Int) + 1) * (E : Int) = (Z : Int) := by rw [HE.out]; push_cast; rfl
        generalize t / E = d at *
        clear HE
        go_enter Tryd.func15, Tryd.ntmps15
        go_wp2_with fail
        with_reducible refine (HC.out _).mono ?_
        rintro e w1 ⟨rfl, rfl⟩
        go_wp2_with fail
        with_reducible refine (HO.out _).mono ?_
        rintro e w1 ⟨rfl, rfl⟩
        go_wp2_with fail
        with_reducible refine (HT.out _).mono ?_
        rintro e w1 ⟨rfl, rfl⟩
        go_wp2_with fail
        with_reducible refine (HI.out _).mono ?_
        rintro e w1 ⟨rfl, rfl⟩
        go_wp2
        go_ret2
        exact ⟨Below.refl _ _, .inr ⟨HM.out, rfl⟩⟩
      · have HT : Hid (∀ V : World, Calls Tryd.prog 23 #[.int .i64 t] V fun e w' => e = .returned (.bool true) ∧ V = w') := Lib.hid fun V => by have h3 := caNoTick_any (w := V) t; rwa [outB_true (n := t) (a := 0) (b := 1099511627775) (by omega)] at h3
        have HM : Hid (¬ (CaOk b 1 t ∧ 0 ≤ l ∧ l ≤ 7)) := Lib.hid fun h => c3 ⟨h.1.2.2.2.2.1, h.1.2.2.2.2.2⟩
        clear c1 c2 c3
        go_enter Tryd.func15, Tryd.ntmps15
        go_wp2_with fail
        with_reducible refine (HC.out _).mono ?_
        rintro e w1 ⟨rfl, rfl⟩
        go_wp2_with fail
        with_reducible refine (HO.out _).mono ?_
        rintro e w1 ⟨rfl, rfl⟩
        go_wp2_with fail
        with_reducible refine (HT.out _).mono ?_
        rintro e w1 ⟨rfl, rfl⟩
        go_wp2_with fail
        refine HN.out.mono ?_
        rintro e w1 ⟨E, rfl, hE, hb⟩
        have HE := Lib.hid hE
        have HB := Lib.hid hb
        clear hE hb
        go_wp2
        go_ret2
        exact ⟨HB.out, .inl ⟨HM.out, E, rfl, HE.out⟩⟩
    · have HO : Hid (∀ V : World, Calls Tryd.prog 28 #[.int .i64 l, .int .i64 0, .int .i64 7] V fun e w' => e = .returned (.bool true) ∧ V = w') := Lib.hid fun V => by have h3 := caOut_any (w := V) l 0 7; rwa [outB_true (n := l) (a := 0) (b := 7) (by omega)] at h3
      have HM : Hid (¬ (CaOk b 1 t ∧ 0 ≤ l ∧ l ≤ 7)) := Lib.hid fun h => c2 h.2
      clear c1 c2
      go_enter Tryd.func15, Tryd.ntmps15
      go_wp2_with fail
      with_reducible refine (HC.out _).mono ?_
      rintro e w1 ⟨rfl, rfl⟩
      go_wp2_with fail
      with_reducible refine (HO.out _).mono ?_
      rintro e w1 ⟨rfl, rfl⟩
      go_wp2_with fail
      refine HN.out.mono ?_
      rintro e w1 ⟨E, rfl, hE, hb⟩
      have HE := Lib.hid hE
      have HB := Lib.hid hb
      clear hE hb
      go_wp2
      go_ret2
      exact ⟨HB.out, .inl ⟨HM.out, E, rfl, HE.out⟩⟩
  · have HC : Hid (∀ V : World, Calls Tryd.prog 27 #[.int .i64 b] V fun e w' => e = .returned (.bool true) ∧ V = w') := Lib.hid fun V => by have h3 := caNoBase_any (w := V) b; rwa [outB_true (n := b) (a := 2) (b := 4096) (by omega)] at h3
    have HM : Hid (¬ (CaOk b 1 t ∧ 0 ≤ l ∧ l ≤ 7)) := Lib.hid fun h => c1 ⟨h.1.1, h.1.2.1⟩
    clear c1
    go_enter Tryd.func15, Tryd.ntmps15
    go_wp2_with fail
    with_reducible refine (HC.out _).mono ?_
    rintro e w1 ⟨rfl, rfl⟩
    go_wp2_with fail
    refine HN.out.mono ?_
    rintro e w1 ⟨E, rfl, hE, hb⟩
    have HE := Lib.hid hE
    have HB := Lib.hid hb
    clear hE hb
    go_wp2
    go_ret2
    exact ⟨HB.out, .inl ⟨HM.out, E, rfl, HE.out⟩⟩

set_option linter.unusedSimpArgs false in
set_option linter.unusedVariables false in
set_option maxRecDepth 1000000 in
set_option maxHeartbeats 4000000 in
theorem caStepsC : CaStepsC := fun w b u t ib iu it => by
  have HN := Lib.hid (New_both nameCaSteps 1 w)
  by_cases hok : CaOk b u t
  · have HM := Lib.hid hok
    have HC : Hid (∀ V : World, Calls Tryd.prog 22 #[.int .i64 b, .int .i64 u] V fun e w' => e = .returned (.bool false) ∧ V = w') := Lib.hid fun V => by have h := caNoCal_any (w := V) b u; rwa [(noCal_ok hok).1] at h
    have HT : Hid (∀ V : World, Calls Tryd.prog 23 #[.int .i64 t] V fun e w' => e = .returned (.bool false) ∧ V = w') := Lib.hid fun V => by have h := caNoTick_any (w := V) t; rwa [(noCal_ok hok).2] at h
    obtain ⟨b, u, t, rfl, rfl, rfl, h1, h2, h3, h4, h5⟩ := hok.nat
    clear hok
    have HA : Hid (∀ V : World, Calls Tryd.prog 30 #[.int .i64 (b : Int), .int .i64 (u : Int), .int .i64 (t : Int)] V fun e w' => e = .returned (.int .i64 ((stepsZ b u t : Nat) : Int)) ∧ V = w') := Lib.hid fun V => caAhead_any b u t h1 h2 h4 (by omega)
    have e1 : ((b : Int)).toNat = b := by omega
    have e2 : ((u : Int)).toNat = u := by omega
    have e3 : ((t : Int)).toNat = t := by omega
    rw [e1, e2, e3]
    clear e1 e2 e3
    have hSb := stepsZ_le h1 h2 h4 (show t < 1099511627777 by omega)
    generalize stepsZ b u t = B at *
    go_enter Tryd.func17, Tryd.ntmps17
    go_wp2_with fail
    with_reducible refine (HC.out _).mono ?_
    rintro e w1 ⟨rfl, rfl⟩
    go_wp2_with fail
    with_reducible refine (HT.out _).mono ?_
    rintro e w1 ⟨rfl, rfl⟩
    go_wp2_with fail
    with_reducible refine (HA.out _).mono ?_
    rintro e w1 ⟨rfl, rfl⟩
    go_wp2
    go_ret2
    exact ⟨Below.refl _ _, .inr ⟨HM.out, rfl⟩⟩
  · have HM := Lib.hid hok
    rcases noCal_no hok with h | ⟨h, h2⟩
    · have HC : Hid (∀ V : World, Calls Tryd.prog 22 #[.int .i64 b, .int .i64 u] V fun e w' => e = .returned (.bool true) ∧ V = w') := Lib.hid fun V => by have h3 := caNoCal_any (w := V) b u; rwa [h] at h3
      clear hok h
      go_enter Tryd.func17, Tryd.ntmps17
      go_wp2_with fail
      with_reducible refine (HC.out _).mono ?_
      rintro e w1 ⟨rfl, rfl⟩
      go_wp2_with fail
      refine HN.out.mono ?_
      rintro e w1 ⟨E, rfl, hE, hb⟩
      have HE := Lib.hid hE
      have HB := Lib.hid hb
      clear hE hb
      go_wp2
      go_ret2
      exact ⟨HB.out, .inl ⟨HM.out, E, rfl, HE.out⟩⟩
    · have HC : Hid (∀ V : World, Calls Tryd.prog 22 #[.int .i64 b, .int .i64 u] V fun e w' => e = .returned (.bool false) ∧ V = w') := Lib.hid fun V => by have h3 := caNoCal_any (w := V) b u; rwa [h] at h3
      have HT : Hid (∀ V : World, Calls Tryd.prog 23 #[.int .i64 t] V fun e w' => e = .returned (.bool true) ∧ V = w') := Lib.hid fun V => by have h3 := caNoTick_any (w := V) t; rwa [h2] at h3
      clear hok h h2
      go_enter Tryd.func17, Tryd.ntmps17
      go_wp2_with fail
      with_reducible refine (HC.out _).mono ?_
      rintro e w1 ⟨rfl, rfl⟩
      go_wp2_with fail
      with_reducible refine (HT.out _).mono ?_
      rintro e w1 ⟨rfl, rfl⟩
      go_wp2_with fail
      refine HN.out.mono ?_
      rintro e w1 ⟨E, rfl, hE, hb⟩
      have HE := Lib.hid hE
      have HB := Lib.hid hb
      clear hE hb
      go_wp2
      go_ret2
      exact ⟨HB.out, .inl ⟨HM.out, E, rfl, HE.out⟩⟩
end Go.Proofs.YtgbogglalnafeaaDoor
