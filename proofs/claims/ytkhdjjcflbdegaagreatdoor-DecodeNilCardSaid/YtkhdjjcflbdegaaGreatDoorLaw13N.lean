/- The thirteenth layer's laws: DecodeNil. -/
import Derived.Test.YtkhdjjcflbdegaaGreatDoorH5
namespace Go.Proofs.YtkhdjjcflbdegaaGreatDoor
open Go.RowKit Go.Extern.Stop Go.Stop Go.Extern

/-- A symbol that comes, in a block of its own. -/
theorem sym_laid (w : World) (x : Int) (v : Value) : ∃ W, W = w.alloc (.cells #[.int .i64 x, v] 39) ∧ Below w.heap.size w W ∧ W.cell? ⟨w.heap.size, 0, none⟩ = some (.int .i64 x) ∧ W.cell? ⟨w.heap.size, 1, none⟩ = some v :=
  ⟨_, rfl, (Below.refl _ _).alloc (Nat.le_refl _) _, cell_of_heap (heap_alloc_new w (.cells #[.int .i64 x, v] 39)) rfl, cell_of_heap (heap_alloc_new w (.cells #[.int .i64 x, v] 39)) rfl⟩

set_option maxRecDepth 1000000 in
set_option maxHeartbeats 4000000 in
theorem nil13 {w : World} (x : Int) (v : Value) (hT : DgTab w) (hB : Tab w) (hg : Laid w) :
    Calls Tryz.prog 9 #[.agg #[.int .i64 x, v]] w fun e w' => e = .returned (.bool true) ∧ Below w.heap.size w w' := by
  obtain ⟨W, hW, hbW, y0, y1⟩ := sym_laid w x v
  have HW := Lib.hid hW
  have HB0 := Lib.hid hbW
  have HG := Lib.hid hg
  have HAW : Hid (∀ V, Below w.heap.size w V → Calls Tryz.prog 10 #[] V fun e w' => e = .returned (.bool true) ∧ Below V.heap.size V w') := Lib.hid fun V hV => awake13 V (PairsAt.mono hT hV) (hB.mono hV)
  clear hW hbW hT hB hg
  go_enter Tryz.func9, Tryz.ntmps9
  go_upto_region 1 with fail
  rw [← HW.out]
  go_wp2_with fail
  refine (DeAdd_nil _ _).mono ?_
  rintro e w1 ⟨E1, rfl, he1, hb1⟩
  have HB1 := Lib.hid (HB0.out.trans (hb1.mono HB0.out.size))
  have HE1 := Lib.hid he1
  obtain ⟨u1, x1, rfl⟩ := he1.some (by decide)
  clear he1 hb1 y0 y1
  go_wp2_with fail
  refine DeSrc_nil.mono ?_
  rintro e w2 ⟨E2, rfl, he2, hb2⟩
  have HB2 := Lib.hid (HB1.out.trans (hb2.mono HB1.out.size))
  have HE1' := Lib.hid (HE1.out.mono hb2)
  have HE2 := Lib.hid he2
  obtain ⟨u2, x2, rfl⟩ := he2.some (by decide)
  clear he2 hb2
  go_wp2_with fail
  refine (tells_ans 7 nameDeAdd _ HE1'.out (HG.out.mono HB2.out)).mono ?_
  rintro e w3 ⟨rfl, hb3⟩
  have HB3 := Lib.hid (HB2.out.trans (hb3.mono HB2.out.size))
  have HE2' := Lib.hid (HE2.out.mono hb3)
  clear hb3
  go_wp2_with fail
  refine (tells_ans 7 nameDeSource _ HE2'.out (HG.out.mono HB3.out)).mono ?_
  rintro e w4 ⟨rfl, hb4⟩
  have HB4 := Lib.hid (HB3.out.trans (hb4.mono HB3.out.size))
  clear hb4
  go_wp2_with fail
  refine DeRank_nil.mono ?_
  rintro e wc ⟨rfl, rfl⟩
  go_wp2_with fail
  refine DeLacks_nil.mono ?_
  rintro e wc ⟨rfl, rfl⟩
  go_wp2_with fail
  refine DeDone_nil.mono ?_
  rintro e wc ⟨rfl, rfl⟩
  go_wp2_with fail
  refine DeClashed_nil.mono ?_
  rintro e wc ⟨rfl, rfl⟩
  go_wp2_with fail
  refine (HAW.out _ HB4.out).mono ?_
  rintro e wz ⟨rfl, hbz⟩
  have HBZ := Lib.hid (HB4.out.trans (hbz.mono HB4.out.size))
  clear hbz
  go_wp2
  go_ret
  exact ⟨rfl, HBZ.out⟩
end Go.Proofs.YtkhdjjcflbdegaaGreatDoor
