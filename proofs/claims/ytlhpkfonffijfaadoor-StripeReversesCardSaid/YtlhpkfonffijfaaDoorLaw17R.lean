/- The seventeenth layer's law StripeReverses. (Made by gen17r.py.) -/
import Derived.Test.YtlhpkfonffijfaaDoorLaw17
import Derived.Test.YtlhpkfonffijfaaDoorLaw17T
namespace Go.Proofs.YtlhpkfonffijfaaDoor
open Go.RowKit Go.Extern.Stop Go.Stop Go.Extern

set_option linter.unusedSimpArgs false in
set_option linter.unusedVariables false in
set_option maxRecDepth 1000000 in
set_option maxHeartbeats 4000000 in
theorem reverses17 (hV : StRevC) (hR : StRateC) (hC : StChunksC) {w : World} (v b : Int) (iv : I64 v) (ib : I64 b) (hg : Laid w) :
    Calls Tryd.prog 3 #[.int .i64 v, .int .i64 b] w fun e w' => e = .returned (.bool true) ∧ Below w.heap.size w w' := by
  have HV := Lib.hid (hV w v b iv ib)
  have HV2 : Hid (∀ (V : World) (n k : Nat), n < 2 ^ k → k ≤ 16 → Calls Tryd.prog 7 #[.int .i64 (n : Int), .int .i64 (k : Int)] V fun e w' => e = .returned (.tuple #[.int .i64 ((revN k n : Nat) : Int), .nilIface]) ∧ Below V.heap.size V w') := Lib.hid fun V n k hn hk => by
    have h2 : (2 : Nat) ^ k ≤ 2 ^ 16 := st_pow_le hk
    have hok : RevOk (n : Int) (k : Int) := ⟨by omega, by omega, by omega, by rw [Int.toNat_natCast]; exact Int.ofNat_lt.2 hn⟩
    refine (hV V (n : Int) (k : Int) ⟨by omega, by omega⟩ ⟨by omega, by omega⟩).mono ?_
    rintro e w' ⟨hb, ⟨h, -⟩ | ⟨-, rfl⟩⟩
    · exact absurd hok h
    · exact ⟨rfl, hb⟩
  have HAW : Hid (∀ V : World, Calls Tryd.prog 10 #[] V fun e w' => e = .returned (.bool true) ∧ Below V.heap.size V w') := Lib.hid fun V => awake17 hR hC
  have HG := Lib.hid hg
  clear hV hR hC hg
  go_enter Tryd.func3, Tryd.ntmps3
  go_wp2_with fail
  refine HV.out.mono ?_
  rintro e w1 ⟨hb1, ⟨hno, E, rfl, hE⟩ | ⟨hok, rfl⟩⟩
  · have HB1 := Lib.hid hb1
    have HTL := Lib.hid (tells_ans 1 nameStReverse E hE (HG.out.mono hb1))
    clear hb1 hE
    by_cases c1 : b < 0
    · have d1 : decide (b < 0) = true := decide_eq_true c1
      clear iv ib hno c1
      go_wp2_with fail
      refine HTL.out.mono ?_
      rintro e w2 ⟨rfl, hb2⟩
      have HB2 := Lib.hid (HB1.out.trans (hb2.mono HB1.out.size))
      clear hb2
      go_wp2_with fail
      refine (HAW.out _).mono ?_
      rintro e w3 ⟨rfl, hb3⟩
      have HB3 := Lib.hid (HB2.out.trans (hb3.mono HB2.out.size))
      clear hb3
      go_wp2
      go_ret
      exact ⟨rfl, HB3.out⟩
    · have d1 : decide (b < 0) = false := decide_eq_false c1
      by_cases c2 : 16 < b
      · have d2 : decide (16 < b) = true := decide_eq_true c2
        clear iv ib hno c1 c2
        go_wp2_with fail
        refine HTL.out.mono ?_
        rintro e w2 ⟨rfl, hb2⟩
        have HB2 := Lib.hid (HB1.out.trans (hb2.mono HB1.out.size))
        clear hb2
        go_wp2_with fail
        refine (HAW.out _).mono ?_
        rintro e w3 ⟨rfl, hb3⟩
        have HB3 := Lib.hid (HB2.out.trans (hb3.mono HB2.out.size))
        clear hb3
        go_wp2
        go_ret
        exact ⟨rfl, HB3.out⟩
      · have d2 : decide (16 < b) = false := decide_eq_false c2
        by_cases c3 : v < 0
        · have d3 : decide (v < 0) = true := decide_eq_true c3
          clear iv ib hno c1 c2 c3
          go_wp2_with fail
          refine HTL.out.mono ?_
          rintro e w2 ⟨rfl, hb2⟩
          have HB2 := Lib.hid (HB1.out.trans (hb2.mono HB1.out.size))
          clear hb2
          go_wp2_with fail
          refine (HAW.out _).mono ?_
          rintro e w3 ⟨rfl, hb3⟩
          have HB3 := Lib.hid (HB2.out.trans (hb3.mono HB2.out.size))
          clear hb3
          go_wp2
          go_ret
          exact ⟨rfl, HB3.out⟩
        · have d3 : decide (v < 0) = false := decide_eq_false c3
          obtain ⟨k, hk⟩ : ∃ k : Nat, b = (k : Int) := ⟨b.toNat, by omega⟩
          subst hk
          have hge : ((2 ^ k : Nat) : Int) ≤ v := by
            rcases Int.lt_or_le v ((2 ^ k : Nat) : Int) with h | h
            · exact absurd ⟨by omega, by omega, by omega, by rw [Int.toNat_natCast]; exact h⟩ hno
            · exact h
          have HP := Lib.hid (stPower_any (w := w1) k (by omega))
          have hpb : (2 : Nat) ^ k ≤ 2 ^ 16 := st_pow_le (by omega)
          generalize 2 ^ k = P at *
          have d4 : decide ((P : Int) ≤ v) = true := decide_eq_true hge
          clear iv ib hno
          go_wp2_with fail
          refine HP.out.mono ?_
          rintro e w5 ⟨rfl, rfl⟩
          go_wp2_with fail
          refine HTL.out.mono ?_
          rintro e w2 ⟨rfl, hb2⟩
          have HB2 := Lib.hid (HB1.out.trans (hb2.mono HB1.out.size))
          clear hb2
          go_wp2_with fail
          refine (HAW.out _).mono ?_
          rintro e w3 ⟨rfl, hb3⟩
          have HB3 := Lib.hid (HB2.out.trans (hb3.mono HB2.out.size))
          clear hb3
          go_wp2
          go_ret
          exact ⟨rfl, HB3.out⟩
  · have HB1 := Lib.hid hb1
    obtain ⟨h1, h2, h3, h4⟩ := hok
    obtain ⟨k, hk⟩ : ∃ k : Nat, b = (k : Int) := ⟨b.toNat, by omega⟩
    obtain ⟨n, hn⟩ : ∃ n : Nat, v = (n : Int) := ⟨v.toNat, by omega⟩
    subst hk hn
    rw [Int.toNat_natCast] at h4
    have hlt : n < 2 ^ k := Int.ofNat_lt.1 h4
    have hk16 : k ≤ 16 := by omega
    have d1 : decide ((k : Int) < 0) = false := decide_eq_false (by omega)
    have d2 : decide (16 < (k : Int)) = false := decide_eq_false (by omega)
    have d3 : decide ((n : Int) < 0) = false := decide_eq_false (by omega)
    have HP := Lib.hid (stPower_any (w := w1) k (by omega))
    have hpb : (2 : Nat) ^ k ≤ 2 ^ 16 := st_pow_le (by omega)
    have HRV := Lib.hid fun V => stRev_any (w := V) n k hk16 (by omega)
    have HR2 := Lib.hid fun V => HV2.out V (revN k n) k (revN_lt k n) hk16
    have hrr := revN_revN k n hlt
    rw [hrr] at HR2
    have hrl := revN_lt k n
    simp only [Int.toNat_natCast]
    generalize revN k n = y at *
    generalize 2 ^ k = P at *
    have d4 : decide ((P : Int) ≤ (n : Int)) = false := decide_eq_false (by omega)
    have d5 : ((y : Int) == (y : Int)) = true := by simp
    have d6 : ((n : Int) == (n : Int)) = true := by simp
    clear hb1 iv ib h1 h2 h3 h4 hrr HV
    go_wp2_with fail
    refine HP.out.mono ?_
    rintro e w5 ⟨rfl, rfl⟩
    go_wp2_with fail
    refine (HR2.out _).mono ?_
    rintro e w2 ⟨rfl, hb2⟩
    have HB2 := Lib.hid (HB1.out.trans (hb2.mono HB1.out.size))
    clear hb2
    go_wp2_with fail
    refine (HRV.out _).mono ?_
    rintro e w3 ⟨rfl, rfl⟩
    go_wp2_with fail
    refine (HAW.out _).mono ?_
    rintro e w3 ⟨rfl, hb3⟩
    have HB3 := Lib.hid (HB2.out.trans (hb3.mono HB2.out.size))
    clear hb3
    go_wp2
    go_ret
    exact ⟨rfl, HB3.out⟩
end Go.Proofs.YtlhpkfonffijfaaDoor
