/- The eighth layer's law ParamsOfs: the walk. -/
import Derived.Test.YtkapgbkppbpgcaaDoorLaw08
import Derived.Test.YtkapgbkppbpgcaaDoorLaw08T
import Derived.Deep.RegionHeld3
namespace Go.Proofs.YtkapgbkppbpgcaaDoor
open Go.RowKit Go.Extern.Stop Go.Stop Go.Extern

set_option maxRecDepth 1000000 in
set_option maxHeartbeats 4000000 in
theorem ofs8 {w : World} (k : Int) (hg : Laid w) : Calls Tryd.prog 5 #[.int .i64 k] w fun e w' => e = .returned (.bool true) ∧ Below w.heap.size w w' := by
  have HG := Lib.hid hg
  clear hg
  by_cases h : k < 1 ∨ 128 < k
  · have HO := Lib.hid h
    have HE : Hid (decide (k < 1) = true ∨ decide (k < 1) = false ∧ decide ((128 : Int) < k) = true) := Lib.hid (by
      rcases h with h | h
      · exact .inl (decide_eq_true h)
      · by_cases h' : k < 1
        · exact .inl (decide_eq_true h')
        · exact .inr ⟨decide_eq_false h', decide_eq_true h⟩)
    clear h
    rcases HE.out with d1 | ⟨d1, d2⟩
    all_goals
      go_enter Tryd.func5, Tryd.ntmps5
      go_wp2_with fail
      refine (Of_out k HO.out).mono ?_
      rintro e w1 ⟨E1, rfl, hc1, hb1⟩
      obtain ⟨W, hW, hbW, hbx⟩ := par_laid w1 0 0 0 0 0
      have HW := Lib.hid hW
      have HC1 := Lib.hid (hc1.mono hbW)
      have HB1 := Lib.hid (hb1.trans (hbW.mono hb1.size))
      have HBX := Lib.hid hbx
      obtain ⟨u, x, rfl⟩ := hc1.some (by decide)
      clear hc1 hb1 hW hbW hbx
      unfold parV parC
      go_wp2_with fail
      rw [← HW.out]
      refine (tells_ans 1 _ _ HC1.out (HG.out.mono HB1.out)).mono ?_
      rintro e w2 ⟨rfl, hb2⟩
      have HB2 := Lib.hid (HB1.out.trans (hb2.mono HB1.out.size))
      obtain ⟨c0, c1, c2, c3, c4⟩ := (HBX.out.mono hb2).cells
      clear hb2
      go_wp2_with fail
      refine (awake8 _).mono ?_
      rintro e w3 ⟨rfl, hb3⟩
      have HB3 := Lib.hid (HB2.out.trans (hb3.mono HB2.out.size))
      clear hb3
      go_wp2
      go_ret
      exact ⟨rfl, HB3.out⟩
  · obtain ⟨m, rfl⟩ : ∃ m : Nat, k = (m : Int) := ⟨k.toNat, by omega⟩
    have hm1 : 1 ≤ m := by omega
    have hm : m ≤ 128 := by omega
    have d1 : decide ((m : Int) < 1) = false := decide_eq_false (by omega)
    have d2 : decide ((128 : Int) < (m : Int)) = false := decide_eq_false (by omega)
    have d3 : decide (128 < m) = false := decide_eq_false (by omega)
    clear h
    go_enter Tryd.func5, Tryd.ntmps5
    go_wp2_with fail
    refine (Of_in m hm1 hm).mono ?_
    rintro e w1 ⟨s, h, l, p, rfl, hof, hb1⟩
    obtain ⟨W, hW, hbW, hbx⟩ := par_laid w1 m s h l p
    have HOF := Lib.hid hof
    have HW := Lib.hid hW
    have HB1 := Lib.hid (hb1.trans (hbW.mono hb1.size))
    have HBX := Lib.hid hbx
    clear hb1 hof hW hbW hbx
    generalize hg1 : w1.heap.size = g at HBX
    have HSAT : Hid (∀ V, Below W.heap.size W V → V.cell? ⟨g, 0, none⟩ = some (.int .i64 (m : Int)) ∧ V.cell? ⟨g, 1, none⟩ = some (.int .i64 (s : Int)) ∧ V.cell? ⟨g, 2, none⟩ = some (.int .i64 (h : Int)) ∧ V.cell? ⟨g, 3, none⟩ = some (.int .i64 (l : Int)) ∧ V.cell? ⟨g, 4, none⟩ = some (.int .i64 (p : Int))) := Lib.hid fun V hV => (HBX.out.mono hV).cells
    have HRO : Hid (∀ V, Below W.heap.size W V → Calls Tryd.prog 15 #[.int .i64 (m : Int)] V fun e w' => e = .returned (.agg #[.int .i64 (m : Int), .int .i64 (s : Int), .int .i64 (h : Int), .int .i64 (l : Int), .int .i64 (p : Int)]) ∧ Below V.heap.size V w') := Lib.hid fun V hV => by
      refine (rOf_any m hm1 hm).mono ?_
      rintro e w' ⟨s', h', l', p', rfl, hof, hb⟩
      obtain ⟨rfl, rfl, rfl, rfl⟩ := hof.unique HOF.out
      exact ⟨rfl, hb⟩
    have HAW : Hid (∀ V, Below W.heap.size W V → Calls Tryd.prog 10 #[] V fun e w' => e = .returned (.bool true) ∧ Below V.heap.size V w') := Lib.hid fun V hV => awake8 V
    have HBD : Hid (Below W.heap.size W W.drew) := Lib.hid (Below.refl _ _).drew
    have HSD := Lib.hid (HSAT.out _ HBD.out)
    have HG1 := Lib.hid hg1
    clear hg1 HBX HOF
    unfold parV parC
    go_wp2_with fail
    rw [← HW.out, HG1.out]
    go_region_held3 (fun w' => w'.cell? ⟨g, 0, none⟩ = some (.int .i64 (m : Int)) ∧ w'.cell? ⟨g, 1, none⟩ = some (.int .i64 (s : Int)) ∧ w'.cell? ⟨g, 2, none⟩ = some (.int .i64 (h : Int)) ∧ w'.cell? ⟨g, 3, none⟩ = some (.int .i64 (l : Int)) ∧ w'.cell? ⟨g, 4, none⟩ = some (.int .i64 (p : Int)))
      (first | exact HSD.out | exact HSAT.out _ HB4.out | exact HSAT.out _ HB3.out | go_keep)
      (first
      | (go_at_call 15; (with_reducible refine (HRO.out _ HBD.out).mono ?_); rintro e w3 ⟨rfl, hb3⟩; have HB3 := Lib.hid (HBD.out.trans (hb3.mono HBD.out.size)); clear hb3)
      | (go_at_call 10; (with_reducible refine (HAW.out _ HB3.out).mono ?_); rintro e w4 ⟨rfl, hb4⟩; have HB4 := Lib.hid (HB3.out.trans (hb4.mono HB3.out.size)); clear hb4))
    all_goals
      go_wp2
      go_ret
      exact ⟨rfl, HB1.out.trans (HB4.out.mono HB1.out.size)⟩
end Go.Proofs.YtkapgbkppbpgcaaDoor
