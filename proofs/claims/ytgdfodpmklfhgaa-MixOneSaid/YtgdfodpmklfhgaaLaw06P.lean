/- The sixth layer's laws MixMixes, MixBack, MixOne: the walks. -/
import Derived.Test.YtgdfodpmklfhgaaLaw06
namespace Go.Proofs.Ytgdfodpmklfhgaa
open Go.RowKit Go.Extern.Stop Go.Stop Go.Extern

set_option maxRecDepth 1000000 in
set_option maxHeartbeats 1000000 in
theorem mixes6 {w : World} (x s : Nat) (hx : x < 4294967296) (hs : s < 4294967296) : Calls Try.prog 3 #[.int .u32 (x : Int), .int .u32 (s : Int)] w fun e w' => e = .returned (.bool true) ∧ Below w.heap.size w w' := by
  go_enter Try.func3, Try.ntmps3
  go_wp2_with fail
  refine (mixU_any x s).mono ?_
  rintro e w1 ⟨rfl, rfl⟩
  go_wp2_with fail
  refine (refMix_any x s hx hs).mono ?_
  rintro e w1 ⟨rfl, rfl⟩
  go_wp2_with fail
  refine (awake6 _).mono ?_
  rintro e w1 ⟨rfl, rfl⟩
  go_wp2
  go_ret
  exact ⟨rfl, Below.refl _ _⟩

set_option maxRecDepth 1000000 in
set_option maxHeartbeats 1000000 in
theorem back6 {w : World} (x s h : Nat) (hx : x < 4294967296) (hs : s < 4294967296) (hh : h < 4294967296) : Calls Try.prog 4 #[.int .u32 (x : Int), .int .u32 (s : Int), .int .u32 (h : Int)] w fun e w' => e = .returned (.bool true) ∧ Below w.heap.size w w' := by
  go_enter Try.func4, Try.ntmps4
  go_wp2_with fail
  refine (mixU_any x s).mono ?_
  rintro e w1 ⟨rfl, rfl⟩
  go_wp2_with fail
  refine (unmixU_any (mixN x s) s (mixN_lt x s) hs).mono ?_
  rintro e w1 ⟨rfl, rfl⟩
  rw [unmix_mix x s hx hs]
  go_wp2_with fail
  refine (unmixU_any h s hh hs).mono ?_
  rintro e w1 ⟨rfl, rfl⟩
  go_wp2_with fail
  refine (mixU_any (unmixN h s) s).mono ?_
  rintro e w1 ⟨rfl, rfl⟩
  rw [mix_unmix h s hh hs]
  go_wp2_with fail
  refine (awake6 _).mono ?_
  rintro e w1 ⟨rfl, rfl⟩
  go_wp2
  go_ret
  exact ⟨rfl, Below.refl _ _⟩

set_option maxRecDepth 1000000 in
set_option maxHeartbeats 1000000 in
theorem one6 {w : World} (x y s : Nat) (hx : x < 4294967296) (hy : y < 4294967296) (hs : s < 4294967296) : Calls Try.prog 5 #[.int .u32 (x : Int), .int .u32 (y : Int), .int .u32 (s : Int)] w fun e w' => e = .returned (.bool true) ∧ Below w.heap.size w w' := by
  have hb : (((mixN x s : Nat) : Int) == ((mixN y s : Nat) : Int)) = ((x : Int) == (y : Int)) := by
    rw [Bool.eq_iff_iff]
    simp only [beq_iff_eq, Int.natCast_inj]
    exact mix_inj x y s hx hy hs
  go_enter Try.func5, Try.ntmps5
  go_wp2_with fail
  refine (mixU_any x s).mono ?_
  rintro e w1 ⟨rfl, rfl⟩
  go_wp2_with fail
  refine (mixU_any y s).mono ?_
  rintro e w1 ⟨rfl, rfl⟩
  generalize mixN x s = X at *
  generalize mixN y s = Y at *
  by_cases hxy : (x : Int) = (y : Int)
  · have h1 : ((X : Int) == (Y : Int)) = true := by rw [hb, hxy]; exact beq_self_eq_true _
    have h2 : ((x : Int) == (y : Int)) = true := by rw [hxy]; exact beq_self_eq_true _
    clear hb hxy
    go_wp2_with fail
    refine (awake6 _).mono ?_
    rintro e w1 ⟨rfl, rfl⟩
    go_wp2
    go_ret
    exact ⟨rfl, Below.refl _ _⟩
  · have h2 : ((x : Int) == (y : Int)) = false := by simpa using hxy
    have h1 : ((X : Int) == (Y : Int)) = false := by rw [hb, h2]
    clear hb hxy
    go_wp2_with fail
    refine (awake6 _).mono ?_
    rintro e w1 ⟨rfl, rfl⟩
    go_wp2
    go_ret
    exact ⟨rfl, Below.refl _ _⟩
end Go.Proofs.Ytgdfodpmklfhgaa
