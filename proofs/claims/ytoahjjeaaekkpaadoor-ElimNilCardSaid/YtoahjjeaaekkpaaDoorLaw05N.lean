/- ElimNil: the walk. -/
import Derived.Test.YtoahjjeaaekkpaaDoorLaw05
namespace Go.Proofs.YtoahjjeaaekkpaaDoor
open Go.RowKit Go.Extern.Stop Go.Stop Go.Extern

set_option maxRecDepth 1000000 in
set_option maxHeartbeats 4000000 in
theorem elimNil5 {w : World} (x y : Value) (c : Int) (hT : Tab w) (hG : Laid w) : Calls Tryd.prog 8 #[.agg #[x, y], .int .i64 c] w fun e w' => e = .returned (.bool true) ∧ Below w.heap.size w w' := by
  obtain ⟨w0, hw0, hb0, h0, h1⟩ : ∃ w0, w0 = w.alloc (.cells #[x, y] 41) ∧ Below w.heap.size w w0 ∧ w0.cell? ⟨w.heap.size, 0, none⟩ = some x ∧ w0.cell? ⟨w.heap.size, 1, none⟩ = some y :=
    ⟨_, rfl, (Below.refl _ _).alloc (Nat.le_refl _) _, cell_of_heap (heap_alloc_new w _) rfl, cell_of_heap (heap_alloc_new w _) rfl⟩
  have HW0 := Lib.hid hw0
  have HB0 := Lib.hid hb0
  have HT := Lib.hid hT
  have HG := Lib.hid hG
  clear hw0 hb0 hT hG
  go_enter Tryd.func8, Tryd.ntmps8
  go_wp2_with fail
  rw [← HW0.out]
  refine (elAdd_nil _ _).mono ?_
  rintro e w1 ⟨E1, rfl, he1, hb1⟩
  have HE1 := Lib.hid he1
  have HB1 := Lib.hid (HB0.out.trans (hb1.mono HB0.out.size))
  obtain ⟨u1, x1, rfl⟩ := he1.some (by decide)
  clear he1 hb1
  go_wp2_with fail
  refine (elVal_nil _).mono ?_
  rintro e w2 ⟨E2, rfl, he2, hb2⟩
  have HE2 := Lib.hid he2
  have HE1 := Lib.hid (HE1.out.mono hb2)
  have HB2 := Lib.hid (HB1.out.trans (hb2.mono HB1.out.size))
  obtain ⟨u2, x2, rfl⟩ := he2.some (by decide)
  clear he2 hb2
  go_wp2_with fail
  refine elAll_nil.mono ?_
  rintro e w3 ⟨E3, rfl, he3, hb3⟩
  have HE3 := Lib.hid he3
  have HE1 := Lib.hid (HE1.out.mono hb3)
  have HE2 := Lib.hid (HE2.out.mono hb3)
  have HB3 := Lib.hid (HB2.out.trans (hb3.mono HB2.out.size))
  obtain ⟨u3, x3, rfl⟩ := he3.some (by decide)
  clear he3 hb3
  go_wp2_with fail
  refine (tells_ans 7 nameElAdd _ HE1.out (HG.out.mono HB3.out)).mono ?_
  rintro e w4 ⟨rfl, hb4⟩
  have HE2 := Lib.hid (HE2.out.mono hb4)
  have HE3 := Lib.hid (HE3.out.mono hb4)
  have HB4 := Lib.hid (HB3.out.trans (hb4.mono HB3.out.size))
  clear hb4
  go_wp2_with fail
  refine (tells_ans 7 nameElValue _ HE2.out (HG.out.mono HB4.out)).mono ?_
  rintro e w5 ⟨rfl, hb5⟩
  have HE3 := Lib.hid (HE3.out.mono hb5)
  have HB5 := Lib.hid (HB4.out.trans (hb5.mono HB4.out.size))
  clear hb5
  go_wp2_with fail
  refine (tells_ans 7 nameElAll _ HE3.out (HG.out.mono HB5.out)).mono ?_
  rintro e w6 ⟨rfl, hb6⟩
  have HB6 := Lib.hid (HB5.out.trans (hb6.mono HB5.out.size))
  clear hb6
  go_wp2_with fail
  refine Rank_nil.mono ?_
  rintro e w7 ⟨rfl, rfl⟩
  go_wp2_with fail
  refine elWhole_nil.mono ?_
  rintro e w8 ⟨rfl, hb8⟩
  have HB8 := Lib.hid (HB6.out.trans (hb8.mono HB6.out.size))
  clear hb8
  go_wp2_with fail
  refine Clashed_nil.mono ?_
  rintro e w9 ⟨rfl, rfl⟩
  go_wp2_with fail
  refine elClone_nil.mono ?_
  rintro e w9 ⟨rfl, rfl⟩
  go_wp2_with fail
  refine (awake5 (HT.out.mono HB8.out)).mono ?_
  rintro e w10 ⟨rfl, hb10⟩
  have HB10 := Lib.hid (HB8.out.trans (hb10.mono HB8.out.size))
  clear hb10
  go_wp2
  go_ret
  exact ⟨rfl, HB10.out⟩
end Go.Proofs.YtoahjjeaaekkpaaDoor
