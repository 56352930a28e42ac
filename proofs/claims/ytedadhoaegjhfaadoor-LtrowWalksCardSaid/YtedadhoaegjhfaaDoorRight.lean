/- The document's Right (was in PcH, PcJ). -/
import Derived.Test.YtedadhoaegjhfaaDoorPar
import Derived.Test.YtedadhoaegjhfaaDoorPcMath
import Derived.Deep.RegionHeld3
import Derived.Deep.CutBlock
import Derived.Deep.QuietTactic
namespace Go.Proofs.YtedadhoaegjhfaaDoor
open Go.RowKit Go.Extern.Stop Go.Stop Go.Extern

/-- Numbers that are those of their K. -/
def Good (K S H L P : Int) : Prop := ∃ k s h l p : Nat, K = k ∧ S = s ∧ H = h ∧ L = l ∧ P = p ∧ 1 ≤ k ∧ k ≤ 128 ∧ OfP k s h l p

set_option maxRecDepth 1000000 in
set_option maxHeartbeats 4000000 in
theorem rRight_good {w : World} (k s h l p : Nat) (H : OfP k s h l p) (hk1 : 1 ≤ k) (hk2 : k ≤ 128) :
    Calls Tryd.prog 26 #[parV k s h l p] w fun e w' => e = .returned (.bool true) ∧ Below w.heap.size w w' := by
  obtain ⟨w0, hw0, hb0, hbx⟩ := par_laid w k s h l p
  have HW0 := Lib.hid hw0
  have HB0 := Lib.hid hb0
  have HBX := Lib.hid hbx
  have HOF := Lib.hid H
  have HRO : Hid (∀ V, Calls Tryd.prog 19 #[.int .i64 (k : Int)] V fun e w' => e = .returned (.agg #[.int .i64 (k : Int), .int .i64 (s : Int), .int .i64 (h : Int), .int .i64 (l : Int), .int .i64 (p : Int)]) ∧ Below V.heap.size V w') := Lib.hid fun V => by
    refine (rOf_any k hk1 hk2).mono ?_
    rintro e w' ⟨s', h', l', p', rfl, hof, hb⟩
    obtain ⟨rfl, rfl, rfl, rfl⟩ := hof.unique HOF.out
    exact ⟨rfl, hb⟩
  have d1 : decide ((1 : Int) ≤ (k : Int)) = true := decide_eq_true (by omega)
  have d2 : decide ((k : Int) ≤ 128) = true := decide_eq_true (by omega)
  have d3 : decide (1 ≤ k) = true := decide_eq_true (by omega)
  have d4 : decide (k ≤ 128) = true := decide_eq_true (by omega)
  clear hw0 hb0 hbx H
  unfold parV parC
  generalize hg1 : w.heap.size = g at HBX
  have HSAT : Hid (∀ V, Below w0.heap.size w0 V → V.cell? ⟨g, 0, none⟩ = some (.int .i64 (k : Int)) ∧ V.cell? ⟨g, 1, none⟩ = some (.int .i64 (s : Int)) ∧ V.cell? ⟨g, 2, none⟩ = some (.int .i64 (h : Int)) ∧ V.cell? ⟨g, 3, none⟩ = some (.int .i64 (l : Int)) ∧ V.cell? ⟨g, 4, none⟩ = some (.int .i64 (p : Int))) := Lib.hid fun V hV => (HBX.out.mono hV).cells
  have HBD : Hid (Below w0.heap.size w0 w0.drew) := Lib.hid (Below.refl _ _).drew
  have HSD := Lib.hid (HSAT.out _ HBD.out)
  have HG1 := Lib.hid hg1
  clear hg1 HBX HOF
  go_enter Tryd.func26, Tryd.ntmps26
  go_upto_region 1 with fail
  rw [← HW0.out, HG1.out]
  go_region_held3 (fun w' => w'.cell? ⟨g, 0, none⟩ = some (.int .i64 (k : Int)) ∧ w'.cell? ⟨g, 1, none⟩ = some (.int .i64 (s : Int)) ∧ w'.cell? ⟨g, 2, none⟩ = some (.int .i64 (h : Int)) ∧ w'.cell? ⟨g, 3, none⟩ = some (.int .i64 (l : Int)) ∧ w'.cell? ⟨g, 4, none⟩ = some (.int .i64 (p : Int)))
    (first | exact HSD.out | exact HSAT.out _ HB3.out | go_keep)
    (first
    | (go_at_call 19; (with_reducible refine (HRO.out _).mono ?_); rintro e w3 ⟨rfl, hb3⟩; have HB3 := Lib.hid (HBD.out.trans (hb3.mono HBD.out.size)); clear hb3))
  all_goals
    go_wp2
    go_ret
    exact ⟨rfl, by rw [← HG1.out]; exact HB0.out.trans (HB3.out.mono HB0.out.size)⟩

set_option maxRecDepth 1000000 in
set_option maxHeartbeats 4000000 in
theorem rRight_bad {w : World} (K S H L P : Int) (hb : ¬ Good K S H L P) (hK : I64 K) :
    Calls Tryd.prog 26 #[parV K S H L P] w fun e w' => e = .returned (.bool false) ∧ Below w.heap.size w w' := by
  obtain ⟨w0, hw0, hb0, hbx⟩ := par_laid w K S H L P
  have HW0 := Lib.hid hw0
  have HB0 := Lib.hid hb0
  have HBX := Lib.hid hbx
  obtain ⟨c0, c1, c2, c3, c4⟩ := hbx.cells
  have HBAD := Lib.hid hb
  clear hw0 hb0 hbx hb
  unfold parV parC
  by_cases h1 : K < 1
  · have d1 : decide ((1 : Int) ≤ K) = false := decide_eq_false (by omega)
    go_enter Tryd.func26, Tryd.ntmps26
    go_upto_region 1 with fail
    rw [← HW0.out]
    go_quiet (fail)
    go_wp2
    go_ret
    exact ⟨rfl, below_draws HB0.out _⟩
  · by_cases h2 : 128 < K
    · have d1 : decide ((1 : Int) ≤ K) = true := decide_eq_true (by omega)
      have d2 : decide (K ≤ 128) = false := decide_eq_false (by omega)
      go_enter Tryd.func26, Tryd.ntmps26
      go_upto_region 1 with fail
      rw [← HW0.out]
      go_quiet (fail)
      go_wp2
      go_ret
      exact ⟨rfl, below_draws HB0.out _⟩
    · obtain ⟨k, rfl⟩ : ∃ k : Nat, K = k := ⟨K.toNat, by omega⟩
      have d1 : decide ((1 : Int) ≤ (k : Int)) = true := decide_eq_true (by omega)
      have d2 : decide ((k : Int) ≤ 128) = true := decide_eq_true (by omega)
      have d3 : decide (1 ≤ k) = true := decide_eq_true (by omega)
      have d4 : decide (k ≤ 128) = true := decide_eq_true (by omega)
      obtain ⟨s, h, l, p, hof⟩ := ofP_ex (show 1 ≤ k by omega) (show k ≤ 128 by omega)
      have HOF := Lib.hid hof
      have hne : ¬ (S = s ∧ H = h ∧ L = l ∧ P = p) := fun ⟨e1, e2, e3, e4⟩ => HBAD.out ⟨k, s, h, l, p, rfl, e1, e2, e3, e4, by omega, by omega, hof⟩
      have hcs : (¬ S = s) ∨ (S = s ∧ ¬ H = h) ∨ (S = s ∧ H = h ∧ ¬ L = l) ∨ (S = s ∧ H = h ∧ L = l ∧ ¬ P = p) := by
        by_cases e1 : S = s
        · by_cases e2 : H = h
          · by_cases e3 : L = l
            · exact .inr (.inr (.inr ⟨e1, e2, e3, fun e4 => hne ⟨e1, e2, e3, e4⟩⟩))
            · exact .inr (.inr (.inl ⟨e1, e2, e3⟩))
          · exact .inr (.inl ⟨e1, e2⟩)
        · exact .inl e1
      have HRO : Hid (∀ V, Calls Tryd.prog 19 #[.int .i64 (k : Int)] V fun e w' => e = .returned (.agg #[.int .i64 (k : Int), .int .i64 (s : Int), .int .i64 (h : Int), .int .i64 (l : Int), .int .i64 (p : Int)]) ∧ Below V.heap.size V w') := Lib.hid fun V => by
        refine (rOf_any k (by omega) (by omega)).mono ?_
        rintro e w' ⟨s', h', l', p', rfl, hof, hb⟩
        obtain ⟨rfl, rfl, rfl, rfl⟩ := hof.unique HOF.out
        exact ⟨rfl, hb⟩
      clear c0 c1 c2 c3 c4 hne hof
      generalize hg1 : w.heap.size = g at HBX
      have HSAT : Hid (∀ V, Below w0.heap.size w0 V → V.cell? ⟨g, 0, none⟩ = some (.int .i64 (k : Int)) ∧ V.cell? ⟨g, 1, none⟩ = some (.int .i64 S) ∧ V.cell? ⟨g, 2, none⟩ = some (.int .i64 H) ∧ V.cell? ⟨g, 3, none⟩ = some (.int .i64 L) ∧ V.cell? ⟨g, 4, none⟩ = some (.int .i64 P)) := Lib.hid fun V hV => (HBX.out.mono hV).cells
      have HBD : Hid (Below w0.heap.size w0 w0.drew) := Lib.hid (Below.refl _ _).drew
      have HSD := Lib.hid (HSAT.out _ HBD.out)
      have HG1 := Lib.hid hg1
      clear hg1 HBX HBAD
      rcases hcs with e1 | ⟨rfl, e1⟩ | ⟨rfl, rfl, e1⟩ | ⟨rfl, rfl, rfl, e1⟩
      · go_enter Tryd.func26, Tryd.ntmps26
        go_upto_region 1 with fail
        rw [← HW0.out, HG1.out]
        go_region_held3 (fun w' => w'.cell? ⟨g, 0, none⟩ = some (.int .i64 (k : Int)) ∧ w'.cell? ⟨g, 1, none⟩ = some (.int .i64 S) ∧ w'.cell? ⟨g, 2, none⟩ = some (.int .i64 H) ∧ w'.cell? ⟨g, 3, none⟩ = some (.int .i64 L) ∧ w'.cell? ⟨g, 4, none⟩ = some (.int .i64 P))
          (first | exact HSD.out | exact HSAT.out _ HB3.out | go_keep)
          (first
          | (go_at_call 19; (with_reducible refine (HRO.out _).mono ?_); rintro e w3 ⟨rfl, hb3⟩; have HB3 := Lib.hid (HBD.out.trans (hb3.mono HBD.out.size)); clear hb3))
        all_goals
          go_wp2
          go_ret
          exact ⟨rfl, by rw [← HG1.out]; exact HB0.out.trans (HB3.out.mono HB0.out.size)⟩
      · go_enter Tryd.func26, Tryd.ntmps26
        go_upto_region 1 with fail
        rw [← HW0.out, HG1.out]
        go_region_held3 (fun w' => w'.cell? ⟨g, 0, none⟩ = some (.int .i64 (k : Int)) ∧ w'.cell? ⟨g, 1, none⟩ = some (.int .i64 (s : Int)) ∧ w'.cell? ⟨g, 2, none⟩ = some (.int .i64 H) ∧ w'.cell? ⟨g, 3, none⟩ = some (.int .i64 L) ∧ w'.cell? ⟨g, 4, none⟩ = some (.int .i64 P))
          (first | exact HSD.out | exact HSAT.out _ HB3.out | go_keep)
          (first
          | (go_at_call 19; (with_reducible refine (HRO.out _).mono ?_); rintro e w3 ⟨rfl, hb3⟩; have HB3 := Lib.hid (HBD.out.trans (hb3.mono HBD.out.size)); clear hb3))
        all_goals
          go_wp2
          go_ret
          exact ⟨rfl, by rw [← HG1.out]; exact HB0.out.trans (HB3.out.mono HB0.out.size)⟩
      · go_enter Tryd.func26, Tryd.ntmps26
        go_upto_region 1 with fail
        rw [← HW0.out, HG1.out]
        go_region_held3 (fun w' => w'.cell? ⟨g, 0, none⟩ = some (.int .i64 (k : Int)) ∧ w'.cell? ⟨g, 1, none⟩ = some (.int .i64 (s : Int)) ∧ w'.cell? ⟨g, 2, none⟩ = some (.int .i64 (h : Int)) ∧ w'.cell? ⟨g, 3, none⟩ = some (.int .i64 L) ∧ w'.cell? ⟨g, 4, none⟩ = some (.int .i64 P))
          (first | exact HSD.out | exact HSAT.out _ HB3.out | go_keep)
          (first
          | (go_at_call 19; (with_reducible refine (HRO.out _).mono ?_); rintro e w3 ⟨rfl, hb3⟩; have HB3 := Lib.hid (HBD.out.trans (hb3.mono HBD.out.size)); clear hb3))
        all_goals
          go_wp2
          go_ret
          exact ⟨rfl, by rw [← HG1.out]; exact HB0.out.trans (HB3.out.mono HB0.out.size)⟩
      · go_enter Tryd.func26, Tryd.ntmps26
        go_upto_region 1 with fail
        rw [← HW0.out, HG1.out]
        go_region_held3 (fun w' => w'.cell? ⟨g, 0, none⟩ = some (.int .i64 (k : Int)) ∧ w'.cell? ⟨g, 1, none⟩ = some (.int .i64 (s : Int)) ∧ w'.cell? ⟨g, 2, none⟩ = some (.int .i64 (h : Int)) ∧ w'.cell? ⟨g, 3, none⟩ = some (.int .i64 (l : Int)) ∧ w'.cell? ⟨g, 4, none⟩ = some (.int .i64 P))
          (first | exact HSD.out | exact HSAT.out _ HB3.out | go_keep)
          (first
          | (go_at_call 19; (with_reducible refine (HRO.out _).mono ?_); rintro e w3 ⟨rfl, hb3⟩; have HB3 := Lib.hid (HBD.out.trans (hb3.mono HBD.out.size)); clear hb3))
        all_goals
          go_wp2
          go_ret
          exact ⟨rfl, by rw [← HG1.out]; exact HB0.out.trans (HB3.out.mono HB0.out.size)⟩
end Go.Proofs.YtedadhoaegjhfaaDoor
