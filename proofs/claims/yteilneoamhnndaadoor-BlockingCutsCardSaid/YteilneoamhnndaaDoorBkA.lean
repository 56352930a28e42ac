/- Package blocking: count, wrong; the document's Source and Check. -/
import Derived.Test.YteilneoamhnndaaDoorBkN
import Derived.Test.YteilneoamhnndaaDoorBkBox
import Derived.Deep.RegionHeld3
import Derived.Deep.Cut
import Derived.BigQuiet
namespace Go.Proofs.YteilneoamhnndaaDoor
open Go.RowKit Go.Extern.Stop Go.Stop Go.Extern

set_option maxRecDepth 1000000 in
set_option maxHeartbeats 4000000 in
theorem bkCount_any {w : World} (s b n l q i : Int) (hq : 0 ≤ q) (hq2 : q ≤ 128) : Calls Tryd.prog 27 #[plV s b n l q, .int .i64 i] w fun e w' => e = .returned (.int .i64 (if i < l then q + 1 else q)) ∧ Below w.heap.size w w' := by
  unfold plV plC
  by_cases h : i < l
  · have d1 : decide (i < l) = true := decide_eq_true h
    rw [if_pos h]
    go_enter Tryd.func27, Tryd.ntmps27
    go_wp2
    go_ret
    exact ⟨rfl, (Below.refl _ _).alloc (Nat.le_refl _) _⟩
  · have d1 : decide (i < l) = false := decide_eq_false h
    rw [if_neg h]
    go_enter Tryd.func27, Tryd.ntmps27
    go_wp2
    go_ret
    exact ⟨rfl, (Below.refl _ _).alloc (Nat.le_refl _) _⟩

set_option maxRecDepth 1000000 in
set_option maxHeartbeats 4000000 in
theorem rbSource_any {w : World} (s b n l q i : Int) (hq : 0 ≤ q) (hq2 : q ≤ 128) : Calls Tryd.prog 14 #[plV s b n l q, .int .i64 i] w fun e w' => e = .returned (.int .i64 (if i < l then q + 1 else q)) ∧ Below w.heap.size w w' := by
  unfold plV plC
  by_cases h : i < l
  · have d1 : decide (i < l) = true := decide_eq_true h
    rw [if_pos h]
    go_enter Tryd.func14, Tryd.ntmps14
    go_wp2
    go_ret
    exact ⟨rfl, (Below.refl _ _).alloc (Nat.le_refl _) _⟩
  · have d1 : decide (i < l) = false := decide_eq_false h
    rw [if_neg h]
    go_enter Tryd.func14, Tryd.ntmps14
    go_wp2
    go_ret
    exact ⟨rfl, (Below.refl _ _).alloc (Nat.le_refl _) _⟩

set_option maxRecDepth 1000000 in
set_option maxHeartbeats 4000000 in
theorem bkWrong_any {w : World} (s b n l q : Int) (hs : I64 s) (hb : I64 b) (hn : I64 n) (hl : I64 l) (hq : I64 q) :
    Calls Tryd.prog 28 #[plV s b n l q] w fun e w' => e = .returned (.int .i64 (planC s b n l q)) ∧ Below w.heap.size w w' := by
  by_cases hA : s < 0 ∨ b < 1 ∨ 64 < b
  · have hP : planC s b n l q = 1 := by unfold planC; rw [if_pos hA]
    rw [hP]
    unfold plV plC
    go_enter Tryd.func28, Tryd.ntmps28
    go_wp2_with fail
    all_goals first
      | (go_ret; exact ⟨rfl, (Below.refl _ _).alloc (Nat.le_refl _) _⟩)
      | (exfalso; omega)
  have a1 : decide (s < 0) = false := decide_eq_false (by omega)
  have a2 : decide (b < 1) = false := decide_eq_false (by omega)
  have a3 : decide (64 < b) = false := decide_eq_false (by omega)
  by_cases hB : n < 1 ∨ 16 < n ∨ l < 0 ∨ n ≤ l
  · have hP : planC s b n l q = 2 := by unfold planC; rw [if_neg hA, if_pos (by omega)]
    rw [hP]
    clear hA
    unfold plV plC
    go_enter Tryd.func28, Tryd.ntmps28
    go_wp2_with fail
    all_goals first
      | (go_ret; exact ⟨rfl, (Below.refl _ _).alloc (Nat.le_refl _) _⟩)
      | (exfalso; omega)
  have b1 : decide (n < 1) = false := decide_eq_false (by omega)
  have b2 : decide (16 < n) = false := decide_eq_false (by omega)
  have b3 : decide (l < 0) = false := decide_eq_false (by omega)
  have b4 : decide (n ≤ l) = false := decide_eq_false (by omega)
  by_cases hC : q < 1 ∨ 128 < q
  · have hP : planC s b n l q = 2 := by unfold planC; rw [if_neg hA, if_pos (by omega)]
    rw [hP]
    clear hA hB
    unfold plV plC
    go_enter Tryd.func28, Tryd.ntmps28
    go_wp2_with fail
    all_goals first
      | (go_ret; exact ⟨rfl, (Below.refl _ _).alloc (Nat.le_refl _) _⟩)
      | (exfalso; omega)
  have c1 : decide (q < 1) = false := decide_eq_false (by omega)
  have c2 : decide (128 < q) = false := decide_eq_false (by omega)
  obtain ⟨W0, hW0, hb0, hbx⟩ := pl_laid w s b n l q
  have HW0 := Lib.hid hW0
  have HB0 := Lib.hid hb0
  have HCNT : Hid (Calls Tryd.prog 27 #[.agg #[.int .i64 s, .int .i64 b, .int .i64 n, .int .i64 l, .int .i64 q], .int .i64 0] W0 fun e w' => e = .returned (.int .i64 (if 0 < l then q + 1 else q)) ∧ Below W0.heap.size W0 w') := Lib.hid (bkCount_any s b n l q 0 (by omega) (by omega))
  have HQ : Hid (planC s b n l q = if 0 < l ∧ q = 128 then 2 else if n * q + l = (symT s.toNat b.toNat : Int) then 0 else 2) := Lib.hid (by
    unfold planC
    rw [if_neg hA]
    by_cases h : 0 < l ∧ q = 128
    · rw [if_pos (by omega), if_pos h]
    · rw [if_neg (by omega), if_neg h])
  obtain ⟨S, hS⟩ : ∃ S : Nat, s = S := ⟨s.toNat, by omega⟩
  obtain ⟨B, hB'⟩ : ∃ B : Nat, b = B := ⟨b.toNat, by omega⟩
  subst hS hB'
  have hqn : n * q + l ≤ 2063 := by
    have h1 : n * q ≤ 16 * q := Int.mul_le_mul_of_nonneg_right (by omega) (by omega)
    omega
  have hqp : 0 ≤ n * q := Int.mul_nonneg (by omega) (by omega)
  have hqm : n * q ≤ 2048 := by
    have h1 : n * q ≤ 16 * q := Int.mul_le_mul_of_nonneg_right (by omega) (by omega)
    omega
  have HLP : Hid (0 ≤ l) := Lib.hid (by omega)
  have HX : Hid (∀ V, Below W0.heap.size W0 V → PlBox V w.heap.size (S : Int) (B : Int) n l q) := Lib.hid fun V hV => hbx.mono hV
  have HSY : Hid (∀ V : World, Calls Tryd.prog 22 #[.int .i64 (S : Int), .int .i64 (B : Int)] V fun e w' => e = .returned (.int .i64 ((symT S B : Nat) : Int)) ∧ Below V.heap.size V w') := Lib.hid fun V => bkSymbols_any S B (by omega) (by unfold I64 at hs; omega)
  have hT : symT S B ≤ 9223372036854775807 := by have := symT_le (s := S) (b := B) (by omega); unfold I64 at hs; omega
  have hlt0 := hbx.lt
  obtain ⟨c, hc⟩ : ∃ c : Int, c = if 0 < l then q + 1 else q := ⟨_, rfl⟩
  rw [← hc] at HCNT
  have HD1 : 0 < l ∧ q = 128 → decide (128 < c) = true := fun h => decide_eq_true (by rw [hc, if_pos h.1]; omega)
  have HD2 : ¬ (0 < l ∧ q = 128) → decide (128 < c) = false := fun h => decide_eq_false (by rw [hc]; split <;> omega)
  clear hA hB hC hs hb hn hl hq hW0 hb0 hc
  unfold plV plC
  by_cases hD : 0 < l ∧ q = 128
  · have hP : planC (S : Int) (B : Int) n l q = 2 := by rw [HQ.out, if_pos hD]
    rw [hP]
    have e1 := HD1 hD
    clear hD HD1 HD2
    go_enter Tryd.func28, Tryd.ntmps28
    go_wp2_with fail
    rw [← HW0.out]
    refine HCNT.out.mono ?_
    rintro e w1 ⟨rfl, hb1⟩
    have HB1 := Lib.hid (HB0.out.trans (hb1.mono HB0.out.size))
    clear hb1
    go_wp2_with fail
    go_ret
    exact ⟨rfl, HB1.out⟩
  · have e1 := HD2 hD
    have HQ2 : Hid (planC (S : Int) (B : Int) n l q = if n * q + l = (symT S B : Int) then 0 else 2) := Lib.hid (by rw [HQ.out, if_neg hD]; simp)
    clear hD HD1 HD2 HQ
    obtain ⟨r, hr⟩ : ∃ r : Int, r = if n * q + l = (symT S B : Int) then 0 else 2 := ⟨_, rfl⟩
    rw [HQ2.out, ← hr]
    have HR := Lib.hid hr
    clear hr HQ2
    go_enter Tryd.func28, Tryd.ntmps28
    go_wp2_with fail
    rw [← HW0.out]
    refine HCNT.out.mono ?_
    rintro e w1 ⟨rfl, hb1⟩
    have HB1 := Lib.hid hb1
    have HSD : Hid (w1.drew.cell? ⟨w.heap.size, 0, none⟩ = some (.int .i64 (S : Int)) ∧ w1.drew.cell? ⟨w.heap.size, 1, none⟩ = some (.int .i64 (B : Int)) ∧ w1.drew.cell? ⟨w.heap.size, 2, none⟩ = some (.int .i64 n) ∧ w1.drew.cell? ⟨w.heap.size, 3, none⟩ = some (.int .i64 l) ∧ w1.drew.cell? ⟨w.heap.size, 4, none⟩ = some (.int .i64 q)) := Lib.hid (HX.out _ hb1).cells
    have HSAT : Hid (∀ V, Below w1.drew.heap.size w1.drew V → V.cell? ⟨w.heap.size, 0, none⟩ = some (.int .i64 (S : Int)) ∧ V.cell? ⟨w.heap.size, 1, none⟩ = some (.int .i64 (B : Int)) ∧ V.cell? ⟨w.heap.size, 2, none⟩ = some (.int .i64 n) ∧ V.cell? ⟨w.heap.size, 3, none⟩ = some (.int .i64 l) ∧ V.cell? ⟨w.heap.size, 4, none⟩ = some (.int .i64 q)) :=
      Lib.hid fun V hV => (HX.out V ((HB1.out.trans (((Below.refl _ w1).drew).mono HB1.out.size)).trans (hV.mono HB1.out.size))).cells
    clear hb1
    go_upto_region 7 with fail
    go_region_held3 (fun w' => w'.cell? ⟨w.heap.size, 0, none⟩ = some (.int .i64 (S : Int)) ∧ w'.cell? ⟨w.heap.size, 1, none⟩ = some (.int .i64 (B : Int)) ∧ w'.cell? ⟨w.heap.size, 2, none⟩ = some (.int .i64 n) ∧ w'.cell? ⟨w.heap.size, 3, none⟩ = some (.int .i64 l) ∧ w'.cell? ⟨w.heap.size, 4, none⟩ = some (.int .i64 q))
      (first | exact HSD.out | exact HSAT.out _ HB3.out | go_keep)
      (first
      | (go_at_call 22; (with_reducible refine (HSY.out _).mono ?_); rintro e w3 ⟨rfl, hb3⟩; have HB3 := Lib.hid hb3; clear hb3))
    all_goals
      have HB4 := Lib.hid (HB0.out.trans ((HB1.out.trans (((Below.refl _ w1).drew.trans HB3.out).mono HB1.out.size)).mono HB0.out.size))
      clear HB3 HSAT HSD
      have hw : IntKind.i64.wrap (IntKind.i64.wrap (n * q) + l) = n * q + l := by rw [IntWalk.i64_in (n * q) (by omega), IntWalk.i64_in _ (by have := HLP.out; omega)]
      by_cases hE : n * q + l = (symT S B : Int)
      · have e2 : (IntKind.i64.wrap (IntKind.i64.wrap (n * q) + l) != (symT S B : Int)) = false := by rw [hw]; simpa using hE
        have hr : r = 0 := by rw [HR.out, if_pos hE]
        clear hE HR hw
        go_wp2
        go_ret
        exact ⟨by rw [hr]; rfl, HB4.out⟩
      · have e2 : (IntKind.i64.wrap (IntKind.i64.wrap (n * q) + l) != (symT S B : Int)) = true := by rw [hw]; simpa using hE
        have hr : r = 2 := by rw [HR.out, if_neg hE]
        clear hE HR hw
        go_wp2
        go_ret
        exact ⟨by rw [hr]; rfl, HB4.out⟩

set_option maxRecDepth 1000000 in
set_option maxHeartbeats 4000000 in
/-- The document's Check. -/
theorem rbCheck_any {w : World} (s b n l q : Int) (hs : I64 s) (hb : I64 b) (hn : I64 n) (hl : I64 l) (hq : I64 q) :
    Calls Tryd.prog 11 #[plV s b n l q] w fun e w' => e = .returned (.int .i64 (planC s b n l q)) ∧ Below w.heap.size w w' := by
  by_cases hA : s < 0 ∨ b < 1 ∨ 64 < b
  · have hP : planC s b n l q = 1 := by unfold planC; rw [if_pos hA]
    rw [hP]
    unfold plV plC
    go_enter Tryd.func11, Tryd.ntmps11
    go_wp2_with fail
    all_goals first
      | (go_ret; exact ⟨rfl, (Below.refl _ _).alloc (Nat.le_refl _) _⟩)
      | (exfalso; omega)
  have a1 : decide (s < 0) = false := decide_eq_false (by omega)
  have a2 : decide (b < 1) = false := decide_eq_false (by omega)
  have a3 : decide (64 < b) = false := decide_eq_false (by omega)
  by_cases hB : n < 1 ∨ 16 < n ∨ l < 0 ∨ n ≤ l ∨ q < 1 ∨ 128 < q
  · have hP : planC s b n l q = 2 := by unfold planC; rw [if_neg hA, if_pos (by omega)]
    rw [hP]
    clear hA
    unfold plV plC
    go_enter Tryd.func11, Tryd.ntmps11
    go_wp2_with fail
    all_goals first
      | (go_ret; exact ⟨rfl, (Below.refl _ _).alloc (Nat.le_refl _) _⟩)
      | (exfalso; omega)
  have b1 : decide (n < 1) = false := decide_eq_false (by omega)
  have b2 : decide (16 < n) = false := decide_eq_false (by omega)
  have b3 : decide (l < 0) = false := decide_eq_false (by omega)
  have b4 : decide (n ≤ l) = false := decide_eq_false (by omega)
  have c1 : decide (q < 1) = false := decide_eq_false (by omega)
  have c2 : decide (128 < q) = false := decide_eq_false (by omega)
  have HQ : Hid (planC s b n l q = if 0 < l ∧ q = 128 then 2 else if n * q + l = (symT s.toNat b.toNat : Int) then 0 else 2) := Lib.hid (by
    unfold planC
    rw [if_neg hA]
    by_cases h : 0 < l ∧ q = 128
    · rw [if_pos (by omega), if_pos h]
    · rw [if_neg (by omega), if_neg h])
  by_cases hD : 0 < l ∧ q = 128
  · have hP : planC s b n l q = 2 := by rw [HQ.out, if_pos hD]
    rw [hP]
    have d1 : decide (0 < l) = true := decide_eq_true hD.1
    have d2 : (q == 128) = true := by simpa using hD.2
    clear hA hB hD
    unfold plV plC
    go_enter Tryd.func11, Tryd.ntmps11
    go_wp2_with fail
    go_ret
    exact ⟨rfl, (Below.refl _ _).alloc (Nat.le_refl _) _⟩
  obtain ⟨S, hS⟩ : ∃ S : Nat, s = S := ⟨s.toNat, by omega⟩
  obtain ⟨B, hB'⟩ : ∃ B : Nat, b = B := ⟨b.toNat, by omega⟩
  subst hS hB'
  have hqp : 0 ≤ n * q := Int.mul_nonneg (by omega) (by omega)
  have hqm : n * q ≤ 2048 := by
    have h1 : n * q ≤ 16 * q := Int.mul_le_mul_of_nonneg_right (by omega) (by omega)
    omega
  have HSY : Hid (∀ V : World, Calls Tryd.prog 24 #[.int .i64 (S : Int), .int .i64 (B : Int)] V fun e w' => e = .returned (.int .i64 ((symT S B : Nat) : Int)) ∧ w' = V) := Lib.hid fun V => (rbSymbols_any S B (by omega) (by unfold I64 at hs; omega)).mono (by rintro e w' ⟨rfl, rfl⟩; exact ⟨rfl, rfl⟩)
  have hT : symT S B ≤ 9223372036854775807 := by have := symT_le (s := S) (b := B) (by omega); unfold I64 at hs; omega
  obtain ⟨r, hr⟩ : ∃ r : Int, r = if n * q + l = (symT S B : Int) then 0 else 2 := ⟨_, rfl⟩
  have hP : planC (S : Int) (B : Int) n l q = r := by rw [HQ.out, if_neg hD, hr]; simp
  have HR := Lib.hid hr
  rw [hP]
  have HDD : decide (0 < l) = false ∨ decide (0 < l) = true ∧ (q == 128) = false := by
    by_cases h : 0 < l
    · exact .inr ⟨decide_eq_true h, by simp; omega⟩
    · exact .inl (decide_eq_false h)
  have hE : (n * q + l != (symT S B : Int)) = true ∧ r = 2 ∨ (n * q + l != (symT S B : Int)) = false ∧ r = 0 := by
    by_cases hE : n * q + l = (symT S B : Int)
    · exact .inr ⟨by simpa using hE, by rw [hr, if_pos hE]⟩
    · exact .inl ⟨by simpa using hE, by rw [hr, if_neg hE]⟩
  have hqn : n * q + l ≤ 2064 := by omega
  have hln : 0 ≤ l := by omega
  clear hs hb hn hl hq hA hB hP hr HR hD
  unfold plV plC
  obtain ⟨W0, hW0, hb0, hbx⟩ := pl_laid w (S : Int) (B : Int) n l q
  have HW0 := Lib.hid hW0
  have HB0 := Lib.hid hb0
  clear hW0 hb0 hbx
  rcases HDD with d1 | ⟨d1, d2⟩
  all_goals
    rcases hE with ⟨e1, hr⟩ | ⟨e1, hr⟩
    all_goals
      have HR := Lib.hid hr
      clear hr
      go_enter Tryd.func11, Tryd.ntmps11
      go_upto_region 5 with fail
      go_quiet (exact Calls.quiet_of_same (HSY.out _))
      go_wp2
      go_ret
      exact ⟨by rw [HR.out]; rfl, below_draws ((Below.refl _ _).alloc (Nat.le_refl _) _) _⟩
end Go.Proofs.YteilneoamhnndaaDoor
