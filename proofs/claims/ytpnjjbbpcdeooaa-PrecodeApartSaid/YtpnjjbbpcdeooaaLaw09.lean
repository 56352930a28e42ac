/- The ninth layer's laws: awake. -/
import Derived.Test.YtpnjjbbpcdeooaaPcF
import Derived.Test.YtpnjjbbpcdeooaaSameI
import Derived.Outline
namespace Go.Proofs.Ytpnjjbbpcdeooaa
open Go.RowKit Go.Extern.Stop Go.Stop Go.Extern

theorem rOf_one {w : World} : Calls Try.prog 6 #[.int .i64 1] w fun e w' => e = .returned (.agg #[.int .i64 1, .int .i64 3, .int .i64 4, .int .i64 8, .int .i64 11]) ∧ Below w.heap.size w w' := by
  refine (rOf_any 1 (by decide) (by decide)).mono ?_
  rintro e w' ⟨s', h', l', p', rfl, hof, hb⟩
  obtain ⟨rfl, rfl, rfl, rfl⟩ := hof.unique of1
  exact ⟨rfl, hb⟩
theorem Row_one {w : World} : Calls Try.prog 25 #[.agg #[.int .i64 1, .int .i64 3, .int .i64 4, .int .i64 8, .int .i64 11], .int .i64 0] w fun e w' => ∃ v, e = .returned (.tuple #[v, .nilIface]) ∧ ListAt intV w' v [0, 1] ∧ Below w.heap.size w w' := by
  refine (Row_ok 1 3 4 8 11 0 of1 (by decide) (by decide) (by decide)).mono ?_
  rintro e w' ⟨v, g, rfl, -, hl, hb⟩
  rw [rowsP_L (by decide), row10] at hl
  exact ⟨v, rfl, hl.cols, hb⟩
theorem Gray_two {w : World} : Calls Try.prog 26 #[.int .i64 2, .int .i64 3] w fun e w' => ∃ v, e = .returned (.tuple #[v, .nilIface]) ∧ ListAt intV w' v [3, 6, 5] ∧ Below w.heap.size w w' := by
  refine (Gray_ok 2 3 (by decide) (by decide) (by decide) _ gr23 rfl).mono ?_
  rintro e w' ⟨v, rfl, hl, hb⟩
  exact ⟨v, rfl, hl.cols, hb⟩

set_option maxRecDepth 1000000 in
set_option maxHeartbeats 1000000 in
theorem awake9 (w : World) : Calls Try.prog 11 #[] w fun e w' => e = .returned (.bool true) ∧ Below w.heap.size w w' := by
  go_enter Try.func11, Try.ntmps11
  go_wp2_with fail
  refine rOf_one.mono ?_
  rintro e w1 ⟨rfl, hb1⟩
  obtain ⟨W, hW, hbW, hbx⟩ := par_laid w1 1 3 4 8 11
  have HW := Lib.hid hW
  have HB1 := Lib.hid (hb1.trans (hbW.mono hb1.size))
  obtain ⟨c0, c1, c2, c3, c4⟩ := hbx.cells
  clear hb1 hW hbW hbx
  go_upto_region 2 with fail
  rw [← HW.out]
  generalize w1.heap.size = g1 at *
  go_wp2_with fail
  refine Row_one.mono ?_
  rintro e w2 ⟨v2, rfl, hl2, hb2⟩
  have HL2 := Lib.hid hl2
  have HB2 := Lib.hid (HB1.out.trans (hb2.mono HB1.out.size))
  clear hb2 hl2 c0 c1 c2 c3 c4
  go_wp2_with fail
  refine Gray_two.mono ?_
  rintro e w3 ⟨v3, rfl, hl3, hb3⟩
  have HL3 := Lib.hid hl3
  have HB3 := Lib.hid (HB2.out.trans (hb3.mono HB2.out.size))
  have hba : Below w3.heap.size w3 (w3.alloc (.cells #[.int .i64 0, .int .i64 1] 3)) := (Below.refl _ _).alloc (Nat.le_refl _) _
  have HS2 := Lib.hid (SameI_any v2 _ [0, 1] ((HL2.out.mono hb3).mono hba) (ListAt.of_owns (f := intV) (l := [0, 1]) (own_of_heap (base := w3.heap.size) (e := 3) (Nat.le_refl _) rfl (by decide) (heap_alloc_new w3 (.cells #[.int .i64 0, .int .i64 1] 3)))))
  have HBA := Lib.hid (HB3.out.trans (hba.mono HB3.out.size))
  have HL3A := Lib.hid (hl3.mono hba)
  clear hb3 hl3 hba
  go_wp2_with fail
  refine HS2.out.mono ?_
  rintro e w4 ⟨rfl, hb4⟩
  have hba : Below w4.heap.size w4 (w4.alloc (.cells #[.int .i64 3, .int .i64 6, .int .i64 5] 3)) := (Below.refl _ _).alloc (Nat.le_refl _) _
  have HS3 := Lib.hid (SameI_any v3 _ [3, 6, 5] ((HL3A.out.mono hb4).mono hba) (ListAt.of_owns (f := intV) (l := [3, 6, 5]) (own_of_heap (base := w4.heap.size) (e := 3) (Nat.le_refl _) rfl (by decide) (heap_alloc_new w4 (.cells #[.int .i64 3, .int .i64 6, .int .i64 5] 3)))))
  have HB4 := Lib.hid (HBA.out.trans (hb4.mono HBA.out.size))
  have HBB := Lib.hid (HB4.out.trans (hba.mono HB4.out.size))
  clear hb4 hba
  go_wp2_with fail
  refine HS3.out.mono ?_
  rintro e w5 ⟨rfl, hb5⟩
  have HB5 := Lib.hid (HBB.out.trans (hb5.mono HBB.out.size))
  clear hb5
  go_wp2
  go_ret
  exact ⟨rfl, HB5.out⟩
end Go.Proofs.Ytpnjjbbpcdeooaa
