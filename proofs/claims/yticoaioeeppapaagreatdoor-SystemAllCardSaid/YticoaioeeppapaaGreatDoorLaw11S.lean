/- The eleventh layer's laws: SystemSeeds, SystemAll. -/
import Derived.Test.YticoaioeeppapaaGreatDoorG42
namespace Go.Proofs.YticoaioeeppapaaGreatDoor
open Go.RowKit Go.Extern.Stop Go.Stop Go.Extern

theorem wrap_u11 (k : Int) : 0 ≤ IntKind.u64.wrap k := by rw [IntKind.wrap_u64]; omega

set_option maxRecDepth 1000000 in
set_option maxHeartbeats 4000000 in
theorem seeds11 {w : World} (x : Int) (hT : DgTab w) (hB : Tab w) (hg : Laid w) : Calls Tryz.prog 4 #[.int .i64 x] w fun e w' => e = .returned (.bool true) ∧ Below w.heap.size w w' := by
  have HT := Lib.hid hT
  have HBT := Lib.hid hB
  have HG := Lib.hid hg
  clear hT hB hg
  by_cases h1 : 30 < x ∧ x ≤ 128
  · have d1 : decide (30 < x) = true := decide_eq_true h1.1
    have d2 : decide (x ≤ 128) = true := decide_eq_true h1.2
    clear h1
    go_enter Tryz.func4, Tryz.ntmps4
    go_wp2_with fail
    refine (awake11 _ HT.out HBT.out).mono ?_
    rintro e w1 ⟨rfl, hb1⟩
    have HB1 := Lib.hid hb1
    clear hb1
    go_wp2
    go_ret
    exact ⟨rfl, HB1.out⟩
  · by_cases h2 : x < 1 ∨ 128 < x
    · have HD : Hid ((decide (30 < x) = false ∧ decide (x < 1) = true) ∨ (decide (30 < x) = true ∧ decide (x ≤ 128) = false ∧ decide (x < 1) = false ∧ decide (128 < x) = true)) := Lib.hid (by
        simp only [decide_eq_true_eq, decide_eq_false_iff_not]
        omega)
      have HS := Lib.hid (Seed_no (w := w) x h2)
      clear h1 h2
      rcases HD.out with ⟨d1, d2⟩ | ⟨d1, d2, d3, d4⟩
      all_goals
        go_enter Tryz.func4, Tryz.ntmps4
        go_wp2_with fail
        refine HS.out.mono ?_
        rintro e w1 ⟨E, rfl, hea, hb1⟩
        have HEA := Lib.hid hea
        have HB1 := Lib.hid hb1
        obtain ⟨u, y, rfl⟩ := hea.some (by decide)
        clear hea hb1
        go_wp2_with fail
        refine (tells_ans 1 nameSSeed _ HEA.out (HG.out.mono HB1.out)).mono ?_
        rintro e w2 ⟨rfl, hb2⟩
        have HB2 := Lib.hid (HB1.out.trans (hb2.mono HB1.out.size))
        clear hb2
        go_wp2_with fail
        refine (awake11 _ (PairsAt.mono HT.out HB2.out) (HBT.out.mono HB2.out)).mono ?_
        rintro e w3 ⟨rfl, hb3⟩
        have HB3 := Lib.hid (HB2.out.trans (hb3.mono HB2.out.size))
        clear hb3
        go_wp2
        go_ret
        exact ⟨rfl, HB3.out⟩
    · obtain ⟨k, rfl⟩ : ∃ k : Nat, x = (k : Int) := ⟨x.toNat, by omega⟩
      have hk1 : 1 ≤ k := by omega
      have hk2 : k ≤ 30 := by omega
      have d1 : decide (30 < (k : Int)) = false := decide_eq_false (by omega)
      have d2 : decide ((k : Int) < 1) = false := decide_eq_false (by omega)
      have d3 : decide (128 < (k : Int)) = false := decide_eq_false (by omega)
      have HS := Lib.hid (Seed_ok (w := w) k hk1 (by omega) HT.out HBT.out)
      have HR : Hid (∀ V, Calls Tryz.prog 18 #[.int .i64 (k : Int)] V fun e w' => ∃ s h l p sd : Nat, e = .returned (.int .i64 (sd : Int)) ∧ OfP k s h l p ∧ IsSeed k s h l p sd ∧ Below V.heap.size V w') := Lib.hid fun V => r11Seed_any k hk1 (by omega)
      clear h1 h2
      go_enter Tryz.func4, Tryz.ntmps4
      go_wp2_with fail
      refine HS.out.mono ?_
      rintro e w1 ⟨s, h, l, p, sd, rfl, hof, hsd, hb1⟩
      have HOF := Lib.hid hof
      have HSD := Lib.hid hsd
      have HB1 := Lib.hid hb1
      clear hof hsd hb1
      go_wp2_with fail
      refine (HR.out _).mono ?_
      rintro e w2 ⟨s', h', l', p', sd', rfl, hof, hsd, hb2⟩
      obtain ⟨rfl, rfl, rfl, rfl⟩ := hof.unique HOF.out
      obtain rfl := hsd.unique HSD.out
      have HB2 := Lib.hid (HB1.out.trans (hb2.mono HB1.out.size))
      clear hof hsd hb2
      go_wp2_with fail
      refine (awake11 _ (PairsAt.mono HT.out HB2.out) (HBT.out.mono HB2.out)).mono ?_
      rintro e w3 ⟨rfl, hb3⟩
      have HB3 := Lib.hid (HB2.out.trans (hb3.mono HB2.out.size))
      clear hb3
      go_wp2
      go_ret
      exact ⟨rfl, HB3.out⟩

set_option maxRecDepth 1000000 in
set_option maxHeartbeats 4000000 in
theorem all11 {w : World} (k0 : Int) (hT : DgTab w) (hB : Tab w) : Calls Tryz.prog 5 #[.int .i64 k0] w fun e w' => e = .returned (.bool true) ∧ Below w.heap.size w w' := by
  have HT := Lib.hid hT
  have HBT := Lib.hid hB
  clear hT hB
  obtain ⟨a, ha, ha1⟩ : ∃ a : Nat, (IntKind.u64.wrap k0).tmod 128 = (a : Int) ∧ a ≤ 127 := by
    have h0 := wrap_u11 k0
    have := Int.tmod_nonneg 128 h0
    have := Int.tmod_lt_of_pos (IntKind.u64.wrap k0) (b := 128) (by decide)
    exact ⟨((IntKind.u64.wrap k0).tmod 128).toNat, by omega, by omega⟩
  obtain ⟨k, hk⟩ : ∃ k : Nat, 1 + (a : Int) = (k : Int) := ⟨a + 1, by omega⟩
  have hk1 : 1 ≤ k := by omega
  have hk2 : k ≤ 128 := by omega
  have HK := Lib.hid hk
  clear hk
  go_enter Tryz.func5, Tryz.ntmps5
  go_wp2_with fail
  clear ha
  rw [HK.out]
  refine (rOf_any k hk1 hk2).mono ?_
  rintro e w1 ⟨s, h, l, p, rfl, hof, hb1⟩
  have HOF := Lib.hid hof
  obtain ⟨W, hW, hbW, hbx⟩ := par_laid w1 k s h l p
  have HW := Lib.hid hW
  have HB1 := Lib.hid (hb1.trans (hbW.mono hb1.size))
  have HBX := Lib.hid hbx
  have HS := Lib.hid (Seed_ok (w := W) k hk1 hk2 (PairsAt.mono HT.out HB1.out) (HBT.out.mono HB1.out))
  have HFI : Hid (∀ V, Calls Tryz.prog 20 #[.int .i64 (k : Int)] V fun e w' => ∃ v, e = .returned v ∧ ListAt colV w' v (List.range k) ∧ Below V.heap.size V w') := Lib.hid fun V => r11First_any k (by omega)
  have HRK : Hid (∀ (V : World) (v : Value) (t : Nat), t < 65536 → ListAt colV V v (List.range k) → Calls Tryz.prog 16 #[.agg #[.int .i64 (k : Int), .int .i64 (s : Int), .int .i64 (h : Int), .int .i64 (l : Int), .int .i64 (p : Int)], .int .i64 (t : Int), v] V fun e w' => e = .returned (.int .i64 (rankA k s h l p t (List.range k) : Nat)) ∧ Below V.heap.size V w') := Lib.hid fun V v t ht hv => r11Rank_any k s h l p t v (List.range k) hof hk1 hk2 ht hv (range_lt k (by omega)) (by rw [List.length_range]; omega)
  obtain ⟨c0, c1, c2, c3, c4⟩ := hbx.cells
  clear hof hW hbW hbx hb1 hk1 hk2 ha1
  unfold parV parC
  go_upto_region 2 with fail
  rw [← HW.out]
  generalize w1.heap.size = g1 at *
  go_wp2_with fail
  refine HS.out.mono ?_
  rintro e w2 ⟨s', h', l', p', sd, rfl, hof, hsd, hb2⟩
  obtain ⟨rfl, rfl, rfl, rfl⟩ := hof.unique HOF.out
  have hsd1 := hsd.1
  have hd2 : Below w2.heap.size w2 w2.drew := (Below.refl _ _).drew
  have HD2 := Lib.hid hd2
  have HB2 := Lib.hid (HB1.out.trans (hb2.mono HB1.out.size))
  have HRT : Hid (∀ (V : World) (v : Value), ListAt colV V v (List.range k) → Calls Tryz.prog 16 #[.agg #[.int .i64 (k : Int), .int .i64 (s' : Int), .int .i64 (h' : Int), .int .i64 (l' : Int), .int .i64 (p' : Int)], .int .i64 (sd : Int), v] V fun e w' => e = .returned (.int .i64 (l' : Int)) ∧ Below V.heap.size V w') := Lib.hid fun V v hv => by
    have := HRK.out V v sd hsd.1 hv
    rwa [hsd.2.1] at this
  have HSAT : Hid (∀ V, Below w2.drew.heap.size w2.drew V → V.cell? ⟨g1, 0, none⟩ = some (.int .i64 (k : Int)) ∧ V.cell? ⟨g1, 1, none⟩ = some (.int .i64 (s' : Int)) ∧ V.cell? ⟨g1, 2, none⟩ = some (.int .i64 (h' : Int)) ∧ V.cell? ⟨g1, 3, none⟩ = some (.int .i64 (l' : Int)) ∧ V.cell? ⟨g1, 4, none⟩ = some (.int .i64 (p' : Int))) := Lib.hid fun V hV => (((HBX.out.mono hb2).mono hd2).mono hV).cells
  have HSD0 := Lib.hid (HSAT.out w2.drew (Below.refl _ _))
  have HAW : Hid (∀ V, Below w2.drew.heap.size w2.drew V → Calls Tryz.prog 9 #[] V fun e w' => e = .returned (.bool true) ∧ Below V.heap.size V w') := Lib.hid fun V hV => awake11 V (PairsAt.mono HT.out (HB2.out.trans ((hd2.trans (hV.mono hd2.size)).mono HB2.out.size))) (HBT.out.mono (HB2.out.trans ((hd2.trans (hV.mono hd2.size)).mono HB2.out.size)))
  have e1 : decide ((sd : Int) < 0) = false := decide_eq_false (by omega)
  have e2 : decide (65535 < (sd : Int)) = false := decide_eq_false (by omega)
  have e3 : ((l' : Int) == (l' : Int)) = true := by simp
  clear hof hsd hd2 hb2 c0 c1 c2 c3 c4
  go_wp2_with fail
  go_region_held3 (fun w' => w'.cell? ⟨g1, 0, none⟩ = some (.int .i64 (k : Int)) ∧ w'.cell? ⟨g1, 1, none⟩ = some (.int .i64 (s' : Int)) ∧ w'.cell? ⟨g1, 2, none⟩ = some (.int .i64 (h' : Int)) ∧ w'.cell? ⟨g1, 3, none⟩ = some (.int .i64 (l' : Int)) ∧ w'.cell? ⟨g1, 4, none⟩ = some (.int .i64 (p' : Int)))
    (first | exact HSD0.out | exact HSAT.out _ HB5.out | exact HSAT.out _ HB4.out | exact HSAT.out _ HB3.out | go_keep)
    (first
    | (go_at_call 20; (with_reducible refine (HFI.out _).mono ?_); rintro e w3 ⟨v3, rfl, hl3, hb3⟩; have HB3 := Lib.hid hb3; have HR3 := Lib.hid (HRT.out w3 v3 hl3); clear hl3 hb3)
    | (go_at_call 16; (with_reducible refine HR3.out.mono ?_); rintro e w4 ⟨rfl, hb4⟩; have HB4 := Lib.hid (HB3.out.trans (hb4.mono HB3.out.size)); clear hb4)
    | (go_at_call 9; (with_reducible refine (HAW.out _ HB4.out).mono ?_); rintro e w5 ⟨rfl, hb5⟩; have HB5 := Lib.hid (HB4.out.trans (hb5.mono HB4.out.size)); clear hb5))
  all_goals
    go_wp2
    go_ret
    exact ⟨rfl, HB2.out.trans ((HD2.out.trans (HB5.out.mono HD2.out.size)).mono HB2.out.size)⟩
end Go.Proofs.YticoaioeeppapaaGreatDoor
