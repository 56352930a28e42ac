/- Package calendar: Row, Burst, Sync. (Made by gencal.py.) -/
import Derived.Test.YtgbogglalnafeaaDoorCaLa
import Derived.Test.YtgbogglalnafeaaDoorCaC
import Derived.Test.YtgbogglalnafeaaDoorErrWrap
namespace Go.Proofs.YtgbogglalnafeaaDoor
open Go.RowKit Go.Extern.Stop Go.Stop Go.Extern

theorem syncZ_none (b : Nat) : ∀ g, syncZ b 0 g = -1
  | 0 => rfl
  | g + 1 => by
    have := syncZ_none b g
    unfold syncZ
    rw [if_neg (fun h => Nat.lt_irrefl _ h.1), this]
theorem syncZ_done {b t j g : Nat} (h0 : 0 < t) (hj : j ≤ g) (hd : ∀ i, i < j → t % (b * 2 ^ i) = 0) (hs : j = g ∨ ¬ t % (b * 2 ^ j) = 0) : syncZ b t g = (j : Int) - 1 := by
  have hbase : syncZ b t j = (j : Int) - 1 := by
    cases j with
    | zero => rfl
    | succ j => rw [syncZ_at h0 (hd j (by omega))]; omega
  rcases hs with rfl | hs
  · exact hbase
  · obtain ⟨k, rfl⟩ : ∃ k, g = j + k := ⟨g - j, by omega⟩
    clear hj
    induction k with
    | zero => exact hbase
    | succ k ih =>
      show (if 0 < t ∧ t % (b * 2 ^ (j + k)) = 0 then ((j + k : Nat) : Int) else syncZ b t (j + k)) = _
      rw [if_neg (fun h => hs ?_), ih]
      have h2 := h.2
      rw [Nat.pow_add, ← Nat.mul_assoc] at h2
      exact Nat.mod_eq_zero_of_dvd (Nat.dvd_trans (Nat.dvd_mul_right _ _) (Nat.dvd_of_mod_eq_zero h2))

set_option linter.unusedSimpArgs false in
set_option linter.unusedVariables false in
set_option maxRecDepth 1000000 in
set_option maxHeartbeats 4000000 in
theorem caRowC : CaRowC := fun w b u t ib iu it => by
  have HN := Lib.hid (New_both nameCaRow 1 w)
  by_cases hok : CaOk b u t
  · have HM := Lib.hid hok
    have HC : Hid (∀ V : World, Calls Tryd.prog 22 #[.int .i64 b, .int .i64 u] V fun e w' => e = .returned (.bool false) ∧ V = w') := Lib.hid fun V => by have h := caNoCal_any (w := V) b u; rwa [(noCal_ok hok).1] at h
    have HT : Hid (∀ V : World, Calls Tryd.prog 23 #[.int .i64 t] V fun e w' => e = .returned (.bool false) ∧ V = w') := Lib.hid fun V => by have h := caNoTick_any (w := V) t; rwa [(noCal_ok hok).2] at h
    obtain ⟨b, u, t, rfl, rfl, rfl, h1, h2, h3, h4, h5⟩ := hok.nat
    clear hok
    have HA : Hid (∀ V : World, Calls Tryd.prog 30 #[.int .i64 (b : Int), .int .i64 (u : Int), .int .i64 (t : Int)] V fun e w' => e = .returned (.int .i64 ((stepsZ b u t : Nat) : Int)) ∧ V = w') := Lib.hid fun V => caAhead_any b u t h1 h2 h4 (by omega)
    have HU : Hid (∀ V : World, Calls Tryd.prog 25 #[.int .i64 (b : Int), .int .i64 (u : Int), .int .i64 (t : Int)] V fun e w' => e = .returned (.bool (burstB b u t)) ∧ V = w') := Lib.hid fun V => caBursting_any b u t h1 h2 h4 (by omega)
    have e1 : ((b : Int)).toNat = b := by omega
    have e2 : ((u : Int)).toNat = u := by omega
    have e3 : ((t : Int)).toNat = t := by omega
    rw [e1, e2, e3]
    clear e1 e2 e3
    have hSb := stepsZ_le h1 h2 h4 (show t < 1099511627777 by omega)
    have HRZ : Hid (rowZ b u t = if burstB b u t then [stepsZ b u t % 4294967296, (stepsZ b u t + 1) % 4294967296] else [stepsZ b u t % 4294967296]) := Lib.hid rfl
    generalize stepsZ b u t = S at *
    have m1 : (S : Int) % 4294967296 = ((S % 4294967296 : Nat) : Int) := rfl
    have hxy : (S + 1) % 4294967296 = (S % 4294967296 + 1) % 4294967296 := by omega
    have b1 : S % 4294967296 < 4294967296 := Nat.mod_lt _ (by decide)
    have m3 : IntKind.u32.wrap (S : Int) = ((S % 4294967296 : Nat) : Int) := by rw [IntKind.wrap_u32]; omega
    generalize S % 4294967296 = x at *
    have m2 : ((x : Int) + 1) % 4294967296 = (((S + 1) % 4294967296 : Nat) : Int) := by omega
    have m4 : IntKind.u32.wrap ((x : Int) + 1) = (((S + 1) % 4294967296 : Nat) : Int) := by rw [IntKind.wrap_u32]; omega
    generalize (S + 1) % 4294967296 = y at *
    have HOS : Hid ((w.alloc (.cells #[.int .u32 (x : Int)] 48)).ownsRow w.heap.size 48 1 (.slice (some ⟨w.heap.size, 0, none⟩) 1 1) 1 [.int .u32 (x : Int)]) := Lib.hid (own_of_heap (base := w.heap.size) (n := 1) (g := w.heap.size) (e := 48) (xs := [.int .u32 (x : Int)]) (Nat.le_refl _) rfl (by decide) (heap_alloc_new w _))
    have HOT : Hid ((w.alloc (.cells #[.int .u32 (x : Int), .int .u32 (y : Int)] 48)).ownsRow w.heap.size 48 1 (.slice (some ⟨w.heap.size, 0, none⟩) 2 2) 2 [.int .u32 (x : Int), .int .u32 (y : Int)]) := Lib.hid (own_of_heap (base := w.heap.size) (n := 2) (g := w.heap.size) (e := 48) (xs := [.int .u32 (x : Int), .int .u32 (y : Int)]) (Nat.le_refl _) rfl (by decide) (heap_alloc_new w _))
    have HB1 := Lib.hid ((Below.refl w.heap.size w).alloc (Nat.le_refl _) (.cells #[.int .u32 (x : Int)] 48))
    have HB2 := Lib.hid ((Below.refl w.heap.size w).alloc (Nat.le_refl _) (.cells #[.int .u32 (x : Int), .int .u32 (y : Int)] 48))
    clear hxy
    cases hB : burstB b u t with
    | false =>
      rw [hB] at HU HRZ
      clear hB
      go_enter Tryd.func18, Tryd.ntmps18
      go_wp2_with fail
      with_reducible refine (HC.out _).mono ?_
      rintro e w1 ⟨rfl, rfl⟩
      go_wp2_with fail
      with_reducible refine (HT.out _).mono ?_
      rintro e w1 ⟨rfl, rfl⟩
      go_wp2_with fail
      with_reducible refine (HA.out _).mono ?_
      rintro e w1 ⟨rfl, rfl⟩
      go_wp2_with fail
      with_reducible refine (HU.out _).mono ?_
      rintro e w1 ⟨rfl, rfl⟩
      go_wp2
      go_ret2
      exact ⟨HB1.out, .inr ⟨HM.out, _, rfl, by rw [HRZ.out]; exact HOS.out⟩⟩
    | true =>
      rw [hB] at HU HRZ
      clear hB
      go_enter Tryd.func18, Tryd.ntmps18
      go_wp2_with fail
      with_reducible refine (HC.out _).mono ?_
      rintro e w1 ⟨rfl, rfl⟩
      go_wp2_with fail
      with_reducible refine (HT.out _).mono ?_
      rintro e w1 ⟨rfl, rfl⟩
      go_wp2_with fail
      with_reducible refine (HA.out _).mono ?_
      rintro e w1 ⟨rfl, rfl⟩
      go_wp2_with fail
      with_reducible refine (HU.out _).mono ?_
      rintro e w1 ⟨rfl, rfl⟩
      go_wp2
      go_ret2
      exact ⟨HB2.out, .inr ⟨HM.out, _, rfl, by rw [HRZ.out]; exact HOT.out⟩⟩
  · have HM := Lib.hid hok
    rcases noCal_no hok with h | ⟨h, h2⟩
    · have HC : Hid (∀ V : World, Calls Tryd.prog 22 #[.int .i64 b, .int .i64 u] V fun e w' => e = .returned (.bool true) ∧ V = w') := Lib.hid fun V => by have h3 := caNoCal_any (w := V) b u; rwa [h] at h3
      clear hok h
      go_enter Tryd.func18, Tryd.ntmps18
      go_wp2_with fail
      with_reducible refine (HC.out _).mono ?_
      rintro e w1 ⟨rfl, rfl⟩
      go_wp2_with fail
      refine HN.out.mono ?_
      rintro e w1 ⟨E, rfl, hE, hb⟩
      have HE := Lib.hid hE
      have HB := Lib.hid hb
      clear hE hb
      go_wp2
      go_ret2
      exact ⟨HB.out, .inl ⟨HM.out, E, rfl, HE.out⟩⟩
    · have HC : Hid (∀ V : World, Calls Tryd.prog 22 #[.int .i64 b, .int .i64 u] V fun e w' => e = .returned (.bool false) ∧ V = w') := Lib.hid fun V => by have h3 := caNoCal_any (w := V) b u; rwa [h] at h3
      have HT : Hid (∀ V : World, Calls Tryd.prog 23 #[.int .i64 t] V fun e w' => e = .returned (.bool true) ∧ V = w') := Lib.hid fun V => by have h3 := caNoTick_any (w := V) t; rwa [h2] at h3
      clear hok h h2
      go_enter Tryd.func18, Tryd.ntmps18
      go_wp2_with fail
      with_reducible refine (HC.out _).mono ?_
      rintro e w1 ⟨rfl, rfl⟩
      go_wp2_with fail
      with_reducible refine (HT.out _).mono ?_
      rintro e w1 ⟨rfl, rfl⟩
      go_wp2_with fail
      refine HN.out.mono ?_
      rintro e w1 ⟨E, rfl, hE, hb⟩
      have HE := Lib.hid hE
      have HB := Lib.hid hb
      clear hE hb
      go_wp2
      go_ret2
      exact ⟨HB.out, .inl ⟨HM.out, E, rfl, HE.out⟩⟩

set_option linter.unusedSimpArgs false in
set_option linter.unusedVariables false in
set_option maxRecDepth 1000000 in
set_option maxHeartbeats 4000000 in
theorem caBurstC : CaBurstC := fun w b u t ib iu it => by
  have HN := Lib.hid (New_both nameCaBurst 1 w)
  by_cases hok : CaOk b u t
  · have HM := Lib.hid hok
    have HC : Hid (∀ V : World, Calls Tryd.prog 22 #[.int .i64 b, .int .i64 u] V fun e w' => e = .returned (.bool false) ∧ V = w') := Lib.hid fun V => by have h := caNoCal_any (w := V) b u; rwa [(noCal_ok hok).1] at h
    have HT : Hid (∀ V : World, Calls Tryd.prog 23 #[.int .i64 t] V fun e w' => e = .returned (.bool false) ∧ V = w') := Lib.hid fun V => by have h := caNoTick_any (w := V) t; rwa [(noCal_ok hok).2] at h
    obtain ⟨b, u, t, rfl, rfl, rfl, h1, h2, h3, h4, h5⟩ := hok.nat
    clear hok
    have HU : Hid (∀ V : World, Calls Tryd.prog 25 #[.int .i64 (b : Int), .int .i64 (u : Int), .int .i64 (t : Int)] V fun e w' => e = .returned (.bool (burstB b u t)) ∧ V = w') := Lib.hid fun V => caBursting_any b u t h1 h2 h4 (by omega)
    have e1 : ((b : Int)).toNat = b := by omega
    have e2 : ((u : Int)).toNat = u := by omega
    have e3 : ((t : Int)).toNat = t := by omega
    rw [e1, e2, e3]
    clear e1 e2 e3
    generalize burstB b u t = B at *
    go_enter Tryd.func7, Tryd.ntmps7
    go_wp2_with fail
    with_reducible refine (HC.out _).mono ?_
    rintro e w1 ⟨rfl, rfl⟩
    go_wp2_with fail
    with_reducible refine (HT.out _).mono ?_
    rintro e w1 ⟨rfl, rfl⟩
    go_wp2_with fail
    with_reducible refine (HU.out _).mono ?_
    rintro e w1 ⟨rfl, rfl⟩
    go_wp2
    go_ret2
    exact ⟨Below.refl _ _, .inr ⟨HM.out, rfl⟩⟩
  · have HM := Lib.hid hok
    rcases noCal_no hok with h | ⟨h, h2⟩
    · have HC : Hid (∀ V : World, Calls Tryd.prog 22 #[.int .i64 b, .int .i64 u] V fun e w' => e = .returned (.bool true) ∧ V = w') := Lib.hid fun V => by have h3 := caNoCal_any (w := V) b u; rwa [h] at h3
      clear hok h
      go_enter Tryd.func7, Tryd.ntmps7
      go_wp2_with fail
      with_reducible refine (HC.out _).mono ?_
      rintro e w1 ⟨rfl, rfl⟩
      go_wp2_with fail
      refine HN.out.mono ?_
      rintro e w1 ⟨E, rfl, hE, hb⟩
      have HE := Lib.hid hE
      have HB := Lib.hid hb
      clear hE hb
      go_wp2
      go_ret2
      exact ⟨HB.out, .inl ⟨HM.out, E, rfl, HE.out⟩⟩
    · have HC : Hid (∀ V : World, Calls Tryd.prog 22 #[.int .i64 b, .int .i64 u] V fun e w' => e = .returned (.bool false) ∧ V = w') := Lib.hid fun V => by have h3 := caNoCal_any (w := V) b u; rwa [h] at h3
      have HT : Hid (∀ V : World, Calls Tryd.prog 23 #[.int .i64 t] V fun e w' => e = .returned (.bool true) ∧ V = w') := Lib.hid fun V => by have h3 := caNoTick_any (w := V) t; rwa [h2] at h3
      clear hok h h2
      go_enter Tryd.func7, Tryd.ntmps7
      go_wp2_with fail
      with_reducible refine (HC.out _).mono ?_
      rintro e w1 ⟨rfl, rfl⟩
      go_wp2_with fail
      with_reducible refine (HT.out _).mono ?_
      rintro e w1 ⟨rfl, rfl⟩
      go_wp2_with fail
      refine HN.out.mono ?_
      rintro e w1 ⟨E, rfl, hE, hb⟩
      have HE := Lib.hid hE
      have HB := Lib.hid hb
      clear hE hb
      go_wp2
      go_ret2
      exact ⟨HB.out, .inl ⟨HM.out, E, rfl, HE.out⟩⟩

set_option linter.unusedSimpArgs false in
set_option linter.unusedVariables false in
set_option maxRecDepth 1000000 in
set_option maxHeartbeats 4000000 in
theorem caSyncC : CaSyncC := fun w b g t ib ix it => by
  have HN := Lib.hid (New_both nameCaSync 1 w)
  by_cases c1 : 2 ≤ b ∧ b ≤ 4096
  · have HC : Hid (∀ V : World, Calls Tryd.prog 27 #[.int .i64 b] V fun e w' => e = .returned (.bool false) ∧ V = w') := Lib.hid fun V => by have h3 := caNoBase_any (w := V) b; rwa [outB_false c1.1 c1.2] at h3
    by_cases c2 : 1 ≤ g ∧ g ≤ 8
    · have HO : Hid (∀ V : World, Calls Tryd.prog 28 #[.int .i64 g, .int .i64 1, .int .i64 8] V fun e w' => e = .returned (.bool false) ∧ V = w') := Lib.hid fun V => by have h3 := caOut_any (w := V) g 1 8; rwa [outB_false c2.1 c2.2] at h3
      by_cases c3 : 0 ≤ t ∧ t < 1099511627776
      · have HT : Hid (∀ V : World, Calls Tryd.prog 23 #[.int .i64 t] V fun e w' => e = .returned (.bool false) ∧ V = w') := Lib.hid fun V => by have h3 := caNoTick_any (w := V) t; rwa [outB_false c3.1 (by omega)] at h3
        have HM : Hid (CaOk b 1 t ∧ 1 ≤ g ∧ g ≤ 8) := Lib.hid ⟨⟨c1.1, c1.2, by decide, by omega, c3.1, c3.2⟩, c2.1, c2.2⟩
        obtain ⟨c11, c12⟩ := c1
        obtain ⟨c21, c22⟩ := c2
        obtain ⟨c31, c32⟩ := c3
        obtain ⟨b, rfl⟩ := Int.eq_ofNat_of_zero_le (show 0 ≤ b by omega)
        obtain ⟨g, rfl⟩ := Int.eq_ofNat_of_zero_le (show 0 ≤ g by omega)
        obtain ⟨t, rfl⟩ := Int.eq_ofNat_of_zero_le c31
        have HI : Hid (∀ (V : World) (l : Nat), l ≤ 8 → Calls Tryd.prog 29 #[.int .i64 (b : Int), .int .i64 (l : Int)] V fun e w' => e = .returned (.int .i64 ((b * 2 ^ l : Nat) : Int)) ∧ V = w') := Lib.hid fun V l hl => caInterval_any b l (by omega) hl
        have HE : Hid (∀ j, b * 2 ^ (j + 1) = 2 * (b * 2 ^ j)) := Lib.hid fun j => by rw [Nat.pow_succ, ← Nat.mul_assoc, Nat.mul_comm]
        have HP : Hid (∀ j, j ≤ 8 → 2 ≤ b * 2 ^ j ∧ b * 2 ^ j ≤ 1048576) := Lib.hid fun j hj => by
          have h1 : (2 : Nat) ^ j ≤ 2 ^ 8 := Nat.pow_le_pow_right (by decide) hj
          have h2 : 1 ≤ (2 : Nat) ^ j := Nat.two_pow_pos j
          exact ⟨by have := Nat.mul_le_mul (show 2 ≤ b by omega) h2; omega, by have := Nat.mul_le_mul (show b ≤ 4096 by omega) h1; omega⟩
        have e1 : ((b : Int)).toNat = b := by omega
        have e2 : ((g : Int)).toNat = g := by omega
        have e3 : ((t : Int)).toNat = t := by omega
        rw [e1, e2, e3]
        clear e1 e2 e3
        go_enter Tryd.func13, Tryd.ntmps13
        go_wp2_with fail
        with_reducible refine (HC.out _).mono ?_
        rintro e w1 ⟨rfl, rfl⟩
        go_wp2_with fail
        with_reducible refine (HO.out _).mono ?_
        rintro e w1 ⟨rfl, rfl⟩
        go_wp2_with fail
        with_reducible refine (HT.out _).mono ?_
        rintro e w1 ⟨rfl, rfl⟩
        go_wp2_with fail
        go_loopw [8] (fun n wr => ∃ j : Nat, j ≤ g ∧ n = .int .i64 ((j : Int) - 1) ∧ (∀ i, i < j → t % (b * 2 ^ i) = 0) ∧ (0 < t ∨ j = 0) ∧ w = wr) (fun n _ => g - (intOf n + 1).toNat)
        case atStart => exact ⟨0, Nat.zero_le _, rfl, fun i hi => absurd hi (Nat.not_lt_zero _), .inr rfl, rfl⟩
        case round =>
          obtain ⟨j, hj, rfl, hall, h0, rfl⟩ := hrel
          have HALL := Lib.hid hall
          clear hall
          obtain ⟨v, hv⟩ : ∃ v : Int, v = (j : Int) - 1 := ⟨_, rfl⟩
          rw [← hv]
          have HV := Lib.hid hv
          have hv1 : v + 1 = (j : Int) := by omega
          have hvb : -1 ≤ v ∧ v ≤ 7 := by omega
          obtain ⟨hvb1, hvb2⟩ := hvb
          clear hv
          by_cases hp : 0 < t
          · have d2 : decide ((0 : Int) < (t : Int)) = true := decide_eq_true (by omega)
            by_cases hlt : j < g
            · have d1 : decide ((j : Int) < (g : Int)) = true := decide_eq_true (by omega)
              have HI1 := Lib.hid (HI.out w j (by omega))
              obtain ⟨p1, p2⟩ := HP.out j (by omega)
              by_cases h1 : t % (b * 2 ^ j) = 0
              · have HA2 : Hid (∀ i, i < j + 1 → t % (b * 2 ^ i) = 0) := Lib.hid fun i hi => by
                  rcases Nat.lt_succ_iff_lt_or_eq.1 hi with h | rfl
                  · exact HALL.out i h
                  · exact h1
                generalize b * 2 ^ j = E at HI1 p1 p2 h1
                have hnz : ((E : Int) == 0) = false := by simp; omega
                have hnz2 : ¬ (E : Int) = 0 := by omega
                have hnz3 : ¬ E = 0 := by omega
                have hm : (t : Int).tmod (E : Int) = ((t % E : Nat) : Int) := Int.ofNat_tmod ..
                rw [h1] at hm
                clear h1
                go_wp2_with fail
                with_reducible refine HI1.out.mono ?_
                rintro e w1 ⟨rfl, rfl⟩
                go_wp2_with fail
                go_roundw
                case rel => exact ⟨j + 1, hlt, by have := HV.out; exact congrArg (Value.int IntKind.i64) (by omega), HA2.out, .inl hp, trivial⟩
                case measure => have := HV.out; simp [intOf]; omega
              · have HS : Hid (syncZ b t g = v) := Lib.hid (by rw [syncZ_done hp hj (fun i hi => HALL.out i hi) (.inr h1)]; exact HV.out.symm)
                generalize b * 2 ^ j = E at HI1 p1 p2 h1
                have hnz : ((E : Int) == 0) = false := by simp; omega
                have hnz2 : ¬ (E : Int) = 0 := by omega
                have hnz3 : ¬ E = 0 := by omega
                have hm : (t : Int).tmod (E : Int) = ((t % E : Nat) : Int) := Int.ofNat_tmod ..
                have d3 : (((t % E : Nat) : Int) == 0) = false := by simp; omega
                generalize t % E = r at *
                go_wp2_with fail
                with_reducible refine HI1.out.mono ?_
                rintro e w1 ⟨rfl, rfl⟩
                go_wp2
                go_ret2
                exact ⟨Below.refl _ _, .inr ⟨HM.out, by rw [HS.out]; rfl⟩⟩
            · have d1 : decide ((j : Int) < (g : Int)) = false := decide_eq_false (by omega)
              have HS : Hid (syncZ b t g = v) := Lib.hid (by rw [syncZ_done hp hj (fun i hi => HALL.out i hi) (.inl (by omega))]; exact HV.out.symm)
              go_wp2
              go_ret2
              exact ⟨Below.refl _ _, .inr ⟨HM.out, by rw [HS.out]; rfl⟩⟩
          · have d2 : decide ((0 : Int) < (t : Int)) = false := decide_eq_false (by omega)
            have HS : Hid (syncZ b t g = v) := Lib.hid (by
              have ht : t = 0 := by omega
              rw [ht, syncZ_none]
              have := HV.out
              have : j = 0 := h0.resolve_left hp
              omega)
            go_wp2
            go_ret2
            exact ⟨Below.refl _ _, .inr ⟨HM.out, by rw [HS.out]; rfl⟩⟩
      · have HT : Hid (∀ V : World, Calls Tryd.prog 23 #[.int .i64 t] V fun e w' => e = .returned (.bool true) ∧ V = w') := Lib.hid fun V => by have h3 := caNoTick_any (w := V) t; rwa [outB_true (n := t) (a := 0) (b := 1099511627775) (by omega)] at h3
        have HM : Hid (¬ (CaOk b 1 t ∧ 1 ≤ g ∧ g ≤ 8)) := Lib.hid fun h => c3 ⟨h.1.2.2.2.2.1, h.1.2.2.2.2.2⟩
        clear c1 c2 c3
        go_enter Tryd.func13, Tryd.ntmps13
        go_wp2_with fail
        with_reducible refine (HC.out _).mono ?_
        rintro e w1 ⟨rfl, rfl⟩
        go_wp2_with fail
        with_reducible refine (HO.out _).mono ?_
        rintro e w1 ⟨rfl, rfl⟩
        go_wp2_with fail
        with_reducible refine (HT.out _).mono ?_
        rintro e w1 ⟨rfl, rfl⟩
        go_wp2_with fail
        refine HN.out.mono ?_
        rintro e w1 ⟨E, rfl, hE, hb⟩
        have HE := Lib.hid hE
        have HB := Lib.hid hb
        clear hE hb
        go_wp2
        go_ret2
        exact ⟨HB.out, .inl ⟨HM.out, E, rfl, HE.out⟩⟩
    · have HO : Hid (∀ V : World, Calls Tryd.prog 28 #[.int .i64 g, .int .i64 1, .int .i64 8] V fun e w' => e = .returned (.bool true) ∧ V = w') := Lib.hid fun V => by have h3 := caOut_any (w := V) g 1 8; rwa [outB_true (n := g) (a := 1) (b := 8) (by omega)] at h3
      have HM : Hid (¬ (CaOk b 1 t ∧ 1 ≤ g ∧ g ≤ 8)) := Lib.hid fun h => c2 h.2
      clear c1 c2
      go_enter Tryd.func13, Tryd.ntmps13
      go_wp2_with fail
      with_reducible refine (HC.out _).mono ?_
      rintro e w1 ⟨rfl, rfl⟩
      go_wp2_with fail
      with_reducible refine (HO.out _).mono ?_
      rintro e w1 ⟨rfl, rfl⟩
      go_wp2_with fail
      refine HN.out.mono ?_
      rintro e w1 ⟨E, rfl, hE, hb⟩
      have HE := Lib.hid hE
      have HB := Lib.hid hb
      clear hE hb
      go_wp2
      go_ret2
      exact ⟨HB.out, .inl ⟨HM.out, E, rfl, HE.out⟩⟩
  · have HC : Hid (∀ V : World, Calls Tryd.prog 27 #[.int .i64 b] V fun e w' => e = .returned (.bool true) ∧ V = w') := Lib.hid fun V => by have h3 := caNoBase_any (w := V) b; rwa [outB_true (n := b) (a := 2) (b := 4096) (by omega)] at h3
    have HM : Hid (¬ (CaOk b 1 t ∧ 1 ≤ g ∧ g ≤ 8)) := Lib.hid fun h => c1 ⟨h.1.1, h.1.2.1⟩
    clear c1
    go_enter Tryd.func13, Tryd.ntmps13
    go_wp2_with fail
    with_reducible refine (HC.out _).mono ?_
    rintro e w1 ⟨rfl, rfl⟩
    go_wp2_with fail
    refine HN.out.mono ?_
    rintro e w1 ⟨E, rfl, hE, hb⟩
    have HE := Lib.hid hE
    have HB := Lib.hid hb
    clear hE hb
    go_wp2
    go_ret2
    exact ⟨HB.out, .inl ⟨HM.out, E, rfl, HE.out⟩⟩
end Go.Proofs.YtgbogglalnafeaaDoor
