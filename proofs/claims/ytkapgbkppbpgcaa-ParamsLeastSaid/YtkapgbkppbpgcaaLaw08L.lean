/- The eighth layer's laws ParamsLeast, ParamsTriangle: the walks. -/
import Derived.Test.YtkapgbkppbpgcaaLaw08
namespace Go.Proofs.Ytkapgbkppbpgcaa
open Go.RowKit Go.Extern.Stop Go.Stop Go.Extern

set_option maxRecDepth 1000000 in
set_option maxHeartbeats 1000000 in
theorem least8 {w : World} (n : Int) (hn : I64 n) : Calls Try.prog 3 #[.int .i64 n] w fun e w' => e = .returned (.bool true) ∧ Below w.heap.size w w' := by
  have HN := Lib.hid hn
  clear hn
  by_cases h : n ≤ 65521
  · have d1 : decide (n ≤ 65521) = true := decide_eq_true h
    by_cases hlo : n < -1000
    · have d2 : decide (n < -1000) = true := decide_eq_true hlo
      go_enter Try.func3, Try.ntmps3
      go_wp2_with fail
      refine (Prime_in n h HN.out).mono ?_
      rintro e w1 ⟨p, rfl, hp, rfl⟩
      clear hp
      go_wp2_with fail
      refine (awake8 _).mono ?_
      rintro e w1 ⟨rfl, hb1⟩
      have HB1 := Lib.hid hb1
      clear hb1
      go_wp2
      go_ret
      exact ⟨rfl, HB1.out⟩
    · have d2 : decide (n < -1000) = false := decide_eq_false hlo
      go_enter Try.func3, Try.ntmps3
      go_wp2_with fail
      refine (Prime_in n h HN.out).mono ?_
      rintro e w1 ⟨p, rfl, hp, rfl⟩
      have hp2 := hp.two
      have hpn := hp.2.1
      have hpl := hp.le p65521 h
      have HP := Lib.hid hp
      clear hp
      go_wp2_with fail
      go_loopw [5] (fun v wr => ∃ i : Int, v = .int .i64 i ∧ n ≤ i ∧ i ≤ (p : Int) ∧ w = wr) (fun v _ => ((p : Int) - intOf v).toNat)
      case atStart => exact ⟨n, rfl, Int.le_refl _, hpn, rfl⟩
      case round =>
        obtain ⟨i, rfl, hi1, hi2, rfl⟩ := hrel
        by_cases hip : i < (p : Int)
        · have HB := Lib.hid (isPI_false (n := i) (fun h' => HP.out.2.2 i.toNat (by omega) (by omega) h'.2.2))
          go_wp2_with fail
          refine (IsPrime_any i ⟨by omega, by omega⟩).mono ?_
          rintro e w1 ⟨rfl, rfl⟩
          rw [HB.out]
          go_wp2
          go_roundw
          case rel => exact ⟨i + 1, rfl, by omega, by omega, trivial⟩
          case measure => simp [intOf]; omega
        · go_wp2_with fail
          go_loopw [6] (fun v wr => ∃ d : Nat, v = .int .i64 (d : Int) ∧ 2 ≤ d ∧ d ≤ p ∧ w = wr) (fun v _ => p - (intOf v).toNat)
          case atStart => exact ⟨2, rfl, by omega, hp2, rfl⟩
          case round =>
            obtain ⟨d, rfl, hd2, hdp, rfl⟩ := hrel
            have hd0 : (d : Int) ≠ 0 := by omega
            have hd1 : ((d : Int) == 0) = false := by simpa using hd0
            by_cases hlt : d < p
            · have hm := HP.out.1.2 d hd2 hlt
              have hmI : ((p : Int) % (d : Int)) ≠ 0 := by rw [← Int.natCast_emod]; omega
              have hmB : ((p : Int) % (d : Int) == 0) = false := by simpa using hmI
              clear hm hmI
              go_wp2
              go_roundw
              case rel => exact ⟨d + 1, by go_num, by omega, by omega, trivial⟩
              case measure => simp [intOf]; omega
            · have e1 : decide ((2 : Int) ≤ (p : Int)) = true := decide_eq_true (by omega)
              have e2 : decide (2 ≤ p) = true := decide_eq_true hp2
              have e3 : decide (n ≤ (p : Int)) = true := decide_eq_true hpn
              go_wp2_with fail
              refine (awake8 _).mono ?_
              rintro e w1 ⟨rfl, hb1⟩
              have HB1 := Lib.hid hb1
              clear hb1
              go_wp2
              go_ret
              exact ⟨rfl, HB1.out⟩
  · have d1 : decide (n ≤ 65521) = false := decide_eq_false h
    go_enter Try.func3, Try.ntmps3
    go_wp2_with fail
    refine (Prime_out n (by omega)).mono ?_
    rintro e w1 ⟨E1, rfl, hc1, hb1⟩
    have HC1 := Lib.hid hc1
    have HB1 := Lib.hid hb1
    obtain ⟨u, x, rfl⟩ := hc1.some (by decide)
    clear hc1 hb1
    go_wp2_with fail
    refine (awake8 _).mono ?_
    rintro e w3 ⟨rfl, hb3⟩
    have HB3 := Lib.hid (HB1.out.trans (hb3.mono HB1.out.size))
    clear hb3
    go_wp2
    go_ret
    exact ⟨rfl, HB3.out⟩

theorem wrapU_nonneg (n : Int) : 0 ≤ IntKind.u64.wrap n := by rw [IntKind.wrap_u64]; omega

set_option maxRecDepth 1000000 in
set_option maxHeartbeats 1000000 in
theorem tri8 {w : World} (n k : Int) : Calls Try.prog 4 #[.int .i64 n, .int .i64 k] w fun e w' => e = .returned (.bool true) ∧ Below w.heap.size w w' := by
  obtain ⟨a, ha, ha60⟩ : ∃ a : Nat, (IntKind.u64.wrap n).tmod 60 = (a : Int) ∧ a ≤ 59 := by
    have h0 := wrapU_nonneg n
    have := Int.tmod_nonneg 60 h0
    have := Int.tmod_lt_of_pos (IntKind.u64.wrap n) (b := 60) (by decide)
    exact ⟨((IntKind.u64.wrap n).tmod 60).toNat, by omega, by omega⟩
  have e1 : IntKind.u64.wrap (1 + (a : Int) + 1) = 1 + (a : Int) + 1 := by rw [IntKind.wrap_u64]; omega
  have e0 : ((1 + (a : Int) + 1) == 0) = false := by simp only [beq_eq_false_iff_ne, ne_eq]; omega
  obtain ⟨b, hb, hba⟩ : ∃ b : Nat, (IntKind.u64.wrap k).tmod (1 + (a : Int) + 1) = (b : Int) ∧ b ≤ a + 1 := by
    have h0 := wrapU_nonneg k
    have := Int.tmod_nonneg (1 + (a : Int) + 1) h0
    have := Int.tmod_lt_of_pos (IntKind.u64.wrap k) (b := 1 + (a : Int) + 1) (by omega)
    exact ⟨((IntKind.u64.wrap k).tmod (1 + (a : Int) + 1)).toNat, by omega, by omega⟩
  obtain ⟨N, hN⟩ : ∃ N : Nat, 1 + (a : Int) = (N : Int) := ⟨a + 1, by omega⟩
  obtain ⟨M, hM⟩ : ∃ M : Nat, (N : Int) - 1 = (M : Int) := ⟨a, by omega⟩
  have hNM : N = M + 1 := by omega
  have hN2 : N ≤ 60 := by omega
  have hbN : b ≤ N := by omega
  have hM1 : M ≤ 59 := by omega
  obtain ⟨A, C, D, H1, H2, H3, H4, HS, hA, hC, hD⟩ : ∃ A C D : Nat, Hid (chI N (b : Int) = A) ∧ Hid (chI N ((N : Int) - (b : Int)) = A) ∧ Hid (chI M ((b : Int) - 1) = C) ∧ Hid (chI M (b : Int) = D) ∧ Hid ((A : Int) = (C : Int) + (D : Int)) ∧ A ≤ 283726776524341248 ∧ C ≤ 283726776524341248 ∧ D ≤ 283726776524341248 := by
    have s1 : chI N ((N : Int) - (b : Int)) = ch N b := by
      rw [show (N : Int) - (b : Int) = ((N - b : Nat) : Int) by omega, chI_nat, ch_symm N b hbN]
    cases b with
    | zero =>
      refine ⟨ch N 0, 0, ch M 0, Lib.hid (chI_nat _ _), Lib.hid s1, Lib.hid (chI_out _ _ (.inl (by omega))), Lib.hid (chI_nat _ _), Lib.hid ?_, ch_bound _ _ hN2, by omega, ch_bound _ _ (by omega)⟩
      rw [ch_zero, ch_zero]; rfl
    | succ b =>
      refine ⟨ch N (b + 1), ch M b, ch M (b + 1), Lib.hid (chI_nat _ _), Lib.hid s1, Lib.hid ?_, Lib.hid (chI_nat _ _), Lib.hid ?_, ch_bound _ _ hN2, ch_bound _ _ (by omega), ch_bound _ _ (by omega)⟩
      · rw [show ((b + 1 : Nat) : Int) - 1 = (b : Int) by omega, chI_nat]
      · rw [hNM, ch_succ]; omega
  have HN := Lib.hid hN
  have HM := Lib.hid hM
  clear hN hM hNM
  go_enter Try.func4, Try.ntmps4
  go_wp2_with fail
  clear ha hb e1 e0
  rw [HN.out]
  refine (Choose_in N (b : Int) hN2 ⟨by omega, by omega⟩).mono ?_
  rintro e w1 ⟨rfl, hb1⟩
  rw [H1.out]
  have HB1 := Lib.hid hb1
  clear hb1
  go_wp2_with fail
  refine (Choose_in N ((N : Int) - (b : Int)) hN2 ⟨by omega, by omega⟩).mono ?_
  rintro e w2 ⟨rfl, hb2⟩
  rw [H2.out]
  have HB2 := Lib.hid (HB1.out.trans (hb2.mono HB1.out.size))
  clear hb2
  go_wp2_with fail
  rw [HM.out]
  refine (Choose_in M ((b : Int) - 1) (by omega) ⟨by omega, by omega⟩).mono ?_
  rintro e w3 ⟨rfl, hb3⟩
  rw [H3.out]
  have HB3 := Lib.hid (HB2.out.trans (hb3.mono HB2.out.size))
  clear hb3
  go_wp2_with fail
  rw [HM.out]
  refine (Choose_in M (b : Int) (by omega) ⟨by omega, by omega⟩).mono ?_
  rintro e w4 ⟨rfl, hb4⟩
  rw [H4.out]
  have HB4 := Lib.hid (HB3.out.trans (hb4.mono HB3.out.size))
  clear hb4
  have hs : ((A : Int) == (C : Int) + (D : Int)) = true := by simpa using HS.out
  go_wp2_with fail
  refine (awake8 _).mono ?_
  rintro e w5 ⟨rfl, hb5⟩
  have HB5 := Lib.hid (HB4.out.trans (hb5.mono HB4.out.size))
  clear hb5
  go_wp2
  go_ret
  exact ⟨rfl, HB5.out⟩
end Go.Proofs.Ytkapgbkppbpgcaa
