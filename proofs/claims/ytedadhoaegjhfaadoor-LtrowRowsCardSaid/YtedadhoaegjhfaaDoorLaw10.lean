/- The tenth layer's laws: awake. -/
import Derived.Test.YtedadhoaegjhfaaDoorLtY
import Derived.Outline
namespace Go.Proofs.YtedadhoaegjhfaaDoor
open Go.RowKit Go.Extern.Stop Go.Stop Go.Extern

theorem rOf_one {w : World} : Calls Tryd.prog 19 #[.int .i64 1] w fun e w' => e = .returned (.agg #[.int .i64 1, .int .i64 3, .int .i64 4, .int .i64 8, .int .i64 11]) ∧ Below w.heap.size w w' := by
  refine (rOf_any 1 (by decide) (by decide)).mono ?_
  rintro e w' ⟨s', h', l', p', rfl, hof, hb⟩
  obtain ⟨rfl, rfl, rfl, rfl⟩ := hof.unique of1
  exact ⟨rfl, hb⟩
theorem tr263 : IsTr 8 11 4 9 3 [2, 6, 3] := ⟨rfl, 5, by decide, by decide⟩
theorem Walk_one {w : World} : Calls Tryd.prog 13 #[.agg #[.int .i64 1, .int .i64 3, .int .i64 4, .int .i64 8, .int .i64 11], .agg #[.int .i64 3, .int .i64 4, .int .i64 9]] w fun e w' => ∃ v, e = .returned (.tuple #[v, .nilIface]) ∧ ListAt intV w' v [2, 6, 3] ∧ Below w.heap.size w w' := by
  refine (lWalk_ok 1 3 4 8 11 3 4 9 of1 (by decide) (by decide) (by decide) (by decide) (by decide) (by decide) (by decide)).mono ?_
  rintro e w' ⟨v, W, rfl, hw, hl, hb⟩
  obtain rfl := hw.unique tr263
  exact ⟨v, rfl, hl, hb⟩
theorem Row_zero {w : World} (hT : DgTab w) : Calls Tryd.prog 17 #[.agg #[.int .i64 1, .int .i64 3, .int .i64 4, .int .i64 8, .int .i64 11], .int .i64 0, .int .i64 0] w fun e w' => ∃ a n c : Nat, ∃ ad, e = .returned (.tuple #[.slice ad n c, .nilIface]) ∧ 0 < n ∧ n ≤ 1000 ∧ a = n ∧ Below w.heap.size w w' := by
  refine (Row_ok 1 3 4 8 11 0 0 of1 (by decide) (by decide) (by decide) (by decide) hT).mono ?_
  rintro e w' ⟨v, W, rfl, hw, hl, hb⟩
  obtain ⟨ad, cap, rfl, hcap, -, hcell⟩ := hl
  have hlen : ((risN 8 W).map Int.ofNat).length = trD 8 (mixN 0 0) := by
    rw [List.length_map, risN_length (hw.nodup of1.2.2.2.1 (trS_bd (by decide)).1 (trS_bd (by decide)).2) (fun x hx => hw.lt hx), hw.1]
  have hb1 := trD_bd (l := 8) (y := mixN 0 0) (by decide)
  refine ⟨_, _, cap, ad, rfl, ?_, ?_, rfl, hb⟩ <;> omega

set_option maxRecDepth 1000000 in
set_option maxHeartbeats 1000000 in
theorem awake10 (w : World) (hT : DgTab w) : Calls Tryd.prog 11 #[] w fun e w' => e = .returned (.bool true) ∧ Below w.heap.size w w' := by
  have HT := Lib.hid hT
  clear hT
  go_enter Tryd.func11, Tryd.ntmps11
  go_wp2_with fail
  refine rOf_one.mono ?_
  rintro e w1 ⟨rfl, hb1⟩
  have HB1 := Lib.hid hb1
  clear hb1
  go_wp2_with fail
  refine Walk_one.mono ?_
  rintro e w2 ⟨v2, rfl, hl2, hb2⟩
  have HL2 := Lib.hid hl2
  have HB2 := Lib.hid (HB1.out.trans (hb2.mono HB1.out.size))
  clear hb2 hl2
  go_wp2_with fail
  refine rOf_one.mono ?_
  rintro e w3 ⟨rfl, hb3⟩
  have HL3 := Lib.hid (HL2.out.mono hb3)
  have HB3 := Lib.hid (HB2.out.trans (hb3.mono HB2.out.size))
  clear hb3
  go_wp2_with fail
  refine (Row_zero (PairsAt.mono HT.out HB3.out)).mono ?_
  rintro e w4 ⟨q, n, c, ad, rfl, hn1, hn2, rfl, hb4⟩
  have HB4 := Lib.hid (HB3.out.trans (hb4.mono HB3.out.size))
  have hba : Below w4.heap.size w4 (w4.alloc (.cells #[.int .i64 2, .int .i64 6, .int .i64 3] 3)) := (Below.refl _ _).alloc (Nat.le_refl _) _
  have HS2 := Lib.hid (SameI_any v2 _ [2, 6, 3] ((HL3.out.mono hb4).mono hba) (ListAt.of_owns (f := intV) (l := [2, 6, 3]) (own_of_heap (base := w4.heap.size) (e := 3) (Nat.le_refl _) rfl (by decide) (heap_alloc_new w4 (.cells #[.int .i64 2, .int .i64 6, .int .i64 3] 3)))))
  have HBA := Lib.hid (HB4.out.trans (hba.mono HB4.out.size))
  clear hb4 hba
  go_wp2_with fail
  refine HS2.out.mono ?_
  rintro e w5 ⟨rfl, hb5⟩
  have HB5 := Lib.hid (HBA.out.trans (hb5.mono HBA.out.size))
  clear hb5
  go_wp2
  go_ret
  exact ⟨rfl, HB5.out⟩
end Go.Proofs.YtedadhoaegjhfaaDoor
