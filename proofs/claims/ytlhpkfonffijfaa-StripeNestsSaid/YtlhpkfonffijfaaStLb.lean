/- Package stripe: Rate, Level. -/
import Derived.Test.YtlhpkfonffijfaaStLa
import Derived.Test.YtlhpkfonffijfaaStC
import Derived.Test.YtlhpkfonffijfaaErrWrap
namespace Go.Proofs.Ytlhpkfonffijfaa
open Go.RowKit Go.Extern.Stop Go.Stop Go.Extern

theorem mayB_ok {g l : Int} (h : mayB g l = true) : 1 ≤ g ∧ g ≤ 8 ∧ 0 ≤ l ∧ l < g := of_decide_eq_true h

set_option linter.unusedSimpArgs false in
set_option linter.unusedVariables false in
set_option maxRecDepth 1000000 in
set_option maxHeartbeats 4000000 in
theorem stRate_same {w : World} (g l : Int) (_ : I64 g) (_ : I64 l) : Calls Try.prog 10 #[.int .i64 g, .int .i64 l] w fun e w' => e = .returned (.int .i64 (if mayB g l then ((rateN l.toNat : Nat) : Int) else 0)) ∧ w = w' := by
  by_cases h1 : g < 1
  · have hm : mayB g l = false := decide_eq_false fun h => by omega
    rw [hm]
    go_enter Try.func10, Try.ntmps10
    go_wp2
    go_ret
    exact ⟨rfl, rfl⟩
  by_cases h2 : g > 8
  · have hm : mayB g l = false := decide_eq_false fun h => by omega
    rw [hm]
    go_enter Try.func10, Try.ntmps10
    go_wp2
    go_ret
    exact ⟨rfl, rfl⟩
  by_cases h3 : l < 0
  · have hm : mayB g l = false := decide_eq_false fun h => by omega
    rw [hm]
    go_enter Try.func10, Try.ntmps10
    go_wp2
    go_ret
    exact ⟨rfl, rfl⟩
  by_cases h4 : l ≥ g
  · have hm : mayB g l = false := decide_eq_false fun h => by omega
    rw [hm]
    go_enter Try.func10, Try.ntmps10
    go_wp2
    go_ret
    exact ⟨rfl, rfl⟩
  have hm : mayB g l = true := decide_eq_true ⟨by omega, by omega, by omega, by omega⟩
  rw [hm]
  obtain ⟨k, rfl⟩ := Int.eq_ofNat_of_zero_le (show 0 ≤ l by omega)
  cases k with
  | zero =>
    go_enter Try.func10, Try.ntmps10
    go_wp2
    go_ret
    exact ⟨rfl, rfl⟩
  | succ k =>
    have hp : 2 ^ k ≤ 2 ^ 7 := st_pow_le (by omega)
    have hk0 : (((k + 1 : Nat) : Int) == 0) = false := by simp; omega
    have hke : ¬ ((k + 1 : Nat) : Int) = 0 := by omega
    have hk1 : ((k + 1 : Nat) : Int) - 1 = (k : Int) := by omega
    have hL : (2 : Int) ^ k = ((2 ^ k : Nat) : Int) := by push_cast; rfl
    have HE : Hid (rateN ((k + 1 : Nat) : Int).toNat = 2 ^ k) := Lib.hid rfl
    rw [HE.out]
    generalize 2 ^ k = P at *
    generalize hK : ((k + 1 : Nat) : Int) = K at *
    clear hK HE
    go_enter Try.func10, Try.ntmps10
    go_wp2
    go_ret
    exact ⟨rfl, rfl⟩
theorem stRateC : StRateC := fun w g l hg hl => by
  refine (stRate_same g l hg hl).mono ?_
  rintro e w' ⟨rfl, rfl⟩
  exact ⟨rfl, Below.refl _ _⟩

set_option linter.unusedSimpArgs false in
set_option linter.unusedVariables false in
set_option maxRecDepth 1000000 in
set_option maxHeartbeats 4000000 in
theorem stLevelC : StLevelC := fun w g l s hg hl hs => by
  have HR : Hid (∀ V : World, Calls Try.prog 10 #[.int .i64 g, .int .i64 l] V fun e w' => e = .returned (.int .i64 (if mayB g l then ((rateN l.toNat : Nat) : Int) else 0)) ∧ V = w') := Lib.hid fun V => stRate_same g l hg hl
  cases hm : mayB g l with
  | false =>
    rw [hm] at HR
    have HN := Lib.hid (New_both nameStLevel 1 w)
    go_enter Try.func12, Try.ntmps12
    go_wp2_with fail
    with_reducible refine (HR.out w).mono ?_
    rintro e w1 ⟨rfl, rfl⟩
    go_wp2_with fail
    refine HN.out.mono ?_
    rintro e w1 ⟨E, rfl, hE, hb⟩
    have HE := Lib.hid hE
    have HB := Lib.hid hb
    clear hE hb
    go_wp2
    go_ret3
    exact ⟨HB.out, .inl ⟨trivial, E, rfl, HE.out⟩⟩
  | true =>
    rw [hm] at HR
    obtain ⟨p1, p2, p3, p4⟩ := mayB_ok hm
    obtain ⟨k, rfl⟩ := Int.eq_ofNat_of_zero_le p3
    obtain ⟨G, rfl⟩ := Int.eq_ofNat_of_zero_le (show 0 ≤ g by omega)
    obtain ⟨m, hmd⟩ : ∃ m, G = m + k + 1 := ⟨G - k - 1, by omega⟩
    have HS : Hid (∀ V : World, Calls Try.prog 17 #[.int .i64 (G : Int), .int .i64 (k : Int), .int .u32 (s : Int)] V fun e w' => e = .returned (.tuple #[.int .i64 ((levF m s * 2 ^ k : Nat) : Int), .int .i64 ((2 ^ k : Nat) : Int)]) ∧ V = w') := Lib.hid fun V => stSpan_any G m k s hmd (by omega) hs
    have e1 : ((G : Int) - 1 - (k : Int)).toNat = m := by omega
    have e2 : ((k : Int)).toNat = k := by omega
    rw [e1, e2]
    have hr0 : 0 < rateN k := by
      cases k with
      | zero => decide
      | succ k => exact Nat.two_pow_pos k
    rw [e2] at HR
    have hq0 : ((rateN k : Int) == 0) = false := by simp; omega
    have hqe : ¬ (rateN k : Int) = 0 := by omega
    clear hmd e1 e2 p1 p2 p3 p4 hm
    generalize rateN k = q at *
    generalize levF m s * 2 ^ k = F at *
    generalize 2 ^ k = P at *
    go_enter Try.func12, Try.ntmps12
    go_wp2_with fail
    with_reducible refine (HR.out w).mono ?_
    rintro e w1 ⟨rfl, rfl⟩
    go_wp2_with fail
    with_reducible refine (HS.out w).mono ?_
    rintro e w1 ⟨rfl, rfl⟩
    go_wp2
    go_ret3
    exact ⟨Below.refl _ _, .inr ⟨trivial, rfl⟩⟩
end Go.Proofs.Ytlhpkfonffijfaa
