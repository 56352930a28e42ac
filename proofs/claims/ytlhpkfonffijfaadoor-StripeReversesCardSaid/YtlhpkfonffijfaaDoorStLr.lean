/- Package stripe: Reverse. -/
import Derived.Test.YtlhpkfonffijfaaDoorStLa
import Derived.Test.YtlhpkfonffijfaaDoorStC
import Derived.Test.YtlhpkfonffijfaaDoorErrWrap
namespace Go.Proofs.YtlhpkfonffijfaaDoor
open Go.RowKit Go.Extern.Stop Go.Stop Go.Extern

set_option linter.unusedSimpArgs false in
set_option linter.unusedVariables false in
set_option maxRecDepth 1000000 in
set_option maxHeartbeats 4000000 in
theorem stRevC : StRevC := fun w v b hv hb => by
  have HN := Lib.hid (New_both nameStReverse 1 w)
  by_cases h1 : b < 0
  · have hm : ¬ RevOk v b := fun h => by have := h.1; omega
    go_enter Tryd.func7, Tryd.ntmps7
    go_wp2_with fail
    refine HN.out.mono ?_
    rintro e w1 ⟨E, rfl, hE, hb⟩
    have HE := Lib.hid hE
    have HB := Lib.hid hb
    clear hE hb
    go_wp2
    go_ret2
    exact ⟨HB.out, .inl ⟨hm, E, rfl, HE.out⟩⟩
  by_cases h2 : b > 16
  · have hm : ¬ RevOk v b := fun h => by have := h.2.1; omega
    go_enter Tryd.func7, Tryd.ntmps7
    go_wp2_with fail
    refine HN.out.mono ?_
    rintro e w1 ⟨E, rfl, hE, hb⟩
    have HE := Lib.hid hE
    have HB := Lib.hid hb
    clear hE hb
    go_wp2
    go_ret2
    exact ⟨HB.out, .inl ⟨hm, E, rfl, HE.out⟩⟩
  by_cases h3 : v < 0
  · have hm : ¬ RevOk v b := fun h => by have := h.2.2.1; omega
    go_enter Tryd.func7, Tryd.ntmps7
    go_wp2_with fail
    refine HN.out.mono ?_
    rintro e w1 ⟨E, rfl, hE, hb⟩
    have HE := Lib.hid hE
    have HB := Lib.hid hb
    clear hE hb
    go_wp2
    go_ret2
    exact ⟨HB.out, .inl ⟨hm, E, rfl, HE.out⟩⟩
  obtain ⟨k, rfl⟩ := Int.eq_ofNat_of_zero_le (show 0 ≤ b by omega)
  obtain ⟨x, rfl⟩ := Int.eq_ofNat_of_zero_le (show 0 ≤ v by omega)
  have hk : k ≤ 16 := by omega
  have hpk : 2 ^ k ≤ 2 ^ 16 := st_pow_le hk
  have hL : (2 : Int) ^ k = ((2 ^ k : Nat) : Int) := by push_cast; rfl
  by_cases h4 : x < 2 ^ k
  · have hm : RevOk (x : Int) (k : Int) := ⟨by omega, by omega, by omega, by rw [show ((k : Int)).toNat = k by omega]; exact_mod_cast h4⟩
    have HM : Hid (RevOk (x : Int) (k : Int)) := Lib.hid hm
    have HR := Lib.hid (stReversed_any (w := w) x k hk (by omega))
    clear hm
    have h4' : ¬ (2 ^ k : Nat) ≤ x := by omega
    generalize 2 ^ k = P at *
    go_enter Tryd.func7, Tryd.ntmps7
    go_wp2_with fail
    with_reducible refine HR.out.mono ?_
    rintro e w1 ⟨rfl, rfl⟩
    go_wp2
    go_ret2
    exact ⟨Below.refl _ _, .inr ⟨HM.out, rfl⟩⟩
  · have hm : ¬ RevOk (x : Int) (k : Int) := fun h => by
      have := h.2.2.2
      rw [show ((k : Int)).toNat = k by omega] at this
      exact h4 (by exact_mod_cast this)
    have HM : Hid (¬ RevOk (x : Int) (k : Int)) := Lib.hid hm
    clear hm
    have h4' : (2 ^ k : Nat) ≤ x := by omega
    generalize 2 ^ k = P at *
    go_enter Tryd.func7, Tryd.ntmps7
    go_wp2_with fail
    refine HN.out.mono ?_
    rintro e w1 ⟨E, rfl, hE, hb⟩
    have HE := Lib.hid hE
    have HB := Lib.hid hb
    clear hE hb
    go_wp2
    go_ret2
    exact ⟨HB.out, .inl ⟨HM.out, E, rfl, HE.out⟩⟩
end Go.Proofs.YtlhpkfonffijfaaDoor
