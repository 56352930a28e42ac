/- The seventh layer's law DegreeAll: the walk. -/
import Derived.Test.YtmipnbfndjacoaaDoorLaw07
import Derived.Test.YtmipnbfndjacoaaDoorSameI
namespace Go.Proofs.YtmipnbfndjacoaaDoor
open Go.RowKit Go.Extern.Stop Go.Stop Go.Extern

theorem own_base {w : World} {base n g c : Nat} {e : TypeId} {xs : List Value} (h : w.ownsRow base e 1 (.slice (some ⟨g, 0, none⟩) n c) n xs) (_hp : 0 < n) : base ≤ g := by
  rcases h.2 with ⟨h1, _⟩ | ⟨g', cap, cur, h1, hb, _⟩
  · cases h1
  · cases h1; exact hb

theorem lit_dg (w : World) : ListAt intV (w.alloc (.cells #[.int .i64 1, .int .i64 2, .int .i64 3, .int .i64 4, .int .i64 10, .int .i64 11, .int .i64 40] 3)) (.slice (some ⟨w.heap.size, 0, none⟩) 7 7) dgAll := by
  refine ⟨some ⟨w.heap.size, 0, none⟩, 7, rfl, by decide, by unfold maxLen; omega, fun _ => ⟨_, _, rfl, fun j hj => ?_⟩⟩
  have hj' : j < 7 := hj
  rcases (by omega : j = 0 ∨ j = 1 ∨ j = 2 ∨ j = 3 ∨ j = 4 ∨ j = 5 ∨ j = 6) with rfl | rfl | rfl | rfl | rfl | rfl | rfl <;> simp [dgAll, intV]

set_option maxRecDepth 1000000 in
set_option maxHeartbeats 1000000 in
theorem all7 {w : World} (t : Int) (hT : DgTab w) : Calls Tryd.prog 5 #[.int .i64 t] w fun e w' => e = .returned (.bool true) ∧ Below w.heap.size w w' := by
  have HT := Lib.hid hT
  clear hT
  go_enter Tryd.func5, Tryd.ntmps5
  go_wp2_with fail
  refine (All_any HT.out).mono ?_
  rintro e w1 ⟨v1, rfl, ho1, hb1⟩
  have HL1 := Lib.hid (ListAt.of_owns (n := 7) ho1)
  obtain ⟨a1, c1, rfl, -, hg1⟩ := own_open ho1
  have HB1 := Lib.hid hb1
  have HO1 := Lib.hid ho1
  clear ho1 hb1
  go_wp2_with fail
  refine (SameI_any _ _ dgAll (HL1.out.mono ((Below.refl _ _).alloc (Nat.le_refl _) _)) (lit_dg w1)).mono ?_
  rintro e w2 ⟨rfl, hb2⟩
  have hb12 : Below w1.heap.size w1 w2 := ((Below.refl w1.heap.size w1).alloc (Nat.le_refl _) _).trans (hb2.mono (by simp))
  have HO2 := Lib.hid (owns_kept HO1.out hb12)
  have HB2 := Lib.hid (HB1.out.trans (hb12.mono HB1.out.size))
  clear hb2 hb12
  obtain ⟨g, rfl⟩ := hg1 (by omega)
  clear hg1
  have hgb : w.heap.size ≤ g := own_base HO2.out (by omega)
  go_wp2_with fail
  go_loopw [4, 5] (fun n i wr => ∃ k : Nat, k ≤ 7 ∧ i = .int .i64 k ∧ n = .int .i64 (dgBd k) ∧ (∃ vs : List Int, vs.length = 7 ∧ (∀ j, k ≤ j → vs.getD j 0 = dgAll.getD j 0) ∧ wr.ownsRow w.heap.size 3 1 (.slice (some ⟨g, 0, none⟩) 7 c1) 7 (vs.map intV)) ∧ Below w.heap.size w wr) (fun _ i _ => 7 - (intOf i).toNat)
  case atStart => exact ⟨0, Nat.zero_le _, rfl, rfl, ⟨dgAll, rfl, fun j _ => rfl, HO2.out⟩, HB2.out⟩
  case round =>
    obtain ⟨k, hk, rfl, rfl, ⟨vs, hvl, hvs, hown⟩, hbel⟩ := hrel
    have hsz := hbel.size
    by_cases hlt : k < 7
    · have hD := dgAll_get k hlt
      have hne := dgShare_ne k hlt
      have hsh := dgShare_hit k hlt
      have hbs := dgBd_succ k hlt
      have hl1 := dgBd_le k (by omega)
      have hl2 := dgBd_le (k + 1) (by omega)
      generalize (dgTab[k]'hlt).1 = B at *
      generalize (dgTab[k]'hlt).2 = D at *
      have hy3 : wr.cell? ⟨g, k, none⟩ = some (.int .i64 D) := by
        rw [hown.cellAt k (by omega)]
        have := hvs k (Nat.le_refl _)
        rw [← hD] at this
        rw [← this]
        simp [List.getD_eq_getElem?_getD, hvl, hlt, intV]
      have hy4 : wr.frozen? ⟨g, k, none⟩ = false := hown.frozenAt k
      have HX : Hid (∀ j, k + 1 ≤ j → (vs.set k t).getD j 0 = dgAll.getD j 0) := Lib.hid fun j hj => by
        have := hvs j (by omega)
        simp only [List.getD_eq_getElem?_getD, List.getElem?_set] at *
        rw [if_neg (by omega)]; exact this
      have HO := Lib.hid hown
      have HB := Lib.hid hbel
      have HL := Lib.hid hvl
      have HNE := Lib.hid hne
      have HBS := Lib.hid hbs
      have hsum : wrap64 (dgBd k + dgShare D) = B := by
        have e : dgBd k + dgShare D = B := by omega
        rw [e]; rw [hbs] at hl2; unfold wrap64; omega
      clear hown hbel hvs hvl hD hne hbs hsh
      generalize dgBd k = C at *
      go_wp2_with fail
      refine (Share_some D HNE.out (HT.out.mono HB.out)).mono ?_
      rintro e w3 ⟨rfl, rfl⟩
      generalize dgShare D = T at *
      go_wp2
      go_roundw
      case rel => exact ⟨k + 1, by omega, by go_num, by rw [HBS.out, hsum], ⟨vs.set k t, by simpa using HL.out, HX.out, by rw [List.map_set]; exact (HO.out.stored k (.int .i64 t)).1⟩, HB.out.setCell (p := ⟨g, k, none⟩) hgb _⟩
      case measure => simp [intOf]; omega
    · obtain rfl : k = 7 := by omega
      have HB := Lib.hid hbel
      have hb7 : dgBd 7 = 1048576 := by decide
      rw [hb7]
      clear hown hbel hvs hvl
      go_wp2_with fail
      refine (All_any (HT.out.mono HB.out)).mono ?_
      rintro e w3 ⟨v3, rfl, ho3, hb3⟩
      have HL3 := Lib.hid (ListAt.of_owns (n := 7) ho3)
      obtain ⟨a3, c3, rfl, -, -⟩ := own_open ho3
      have HB3 := Lib.hid (HB.out.trans (hb3.mono HB.out.size))
      clear ho3 hb3
      go_wp2_with fail
      refine (SameI_any _ _ dgAll (HL3.out.mono ((Below.refl _ _).alloc (Nat.le_refl _) _)) (lit_dg w3)).mono ?_
      rintro e w4 ⟨rfl, hb4⟩
      have hb34 : Below w3.heap.size w3 w4 := ((Below.refl w3.heap.size w3).alloc (Nat.le_refl _) _).trans (hb4.mono (by simp))
      have HB4 := Lib.hid (HB3.out.trans (hb34.mono HB3.out.size))
      clear hb4 hb34
      go_wp2_with fail
      refine (awake7 _ (HT.out.mono HB4.out)).mono ?_
      rintro e w5 ⟨rfl, rfl⟩
      go_wp2
      go_ret
      exact ⟨rfl, HB4.out⟩
end Go.Proofs.YtmipnbfndjacoaaDoor
