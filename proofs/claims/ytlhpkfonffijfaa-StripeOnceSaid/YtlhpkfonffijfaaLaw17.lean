/- The seventeenth layer's laws: awake. -/
import Derived.Test.YtlhpkfonffijfaaStC
import Derived.Test.YtlhpkfonffijfaaSameI
namespace Go.Proofs.Ytlhpkfonffijfaa
open Go.RowKit Go.Extern.Stop Go.Stop Go.Extern

/-- numbers, just laid -/
theorem ints_new (W : World) (L : List Int) (hl : L.length ≤ 100) : ListAt intV (W.alloc (.cells (L.map intV).toArray 3)) (.slice (some ⟨W.heap.size, 0, none⟩) L.length L.length) L := by
  refine ⟨_, _, rfl, Nat.le_refl _, by unfold maxLen; omega, fun _ => ⟨_, _, rfl, fun j hj => ?_⟩⟩
  rw [Nat.zero_add]
  exact cell_of_heap (heap_alloc_new W _) (by simp [hj])

set_option linter.unusedSimpArgs false in
set_option maxRecDepth 1000000 in
set_option maxHeartbeats 4000000 in
theorem awake17 (hR : StRateC) (hC : StChunksC) {w : World} : Calls Try.prog 8 #[] w fun e w' => e = .returned (.bool true) ∧ Below w.heap.size w w' := by
  have i3 : I64 3 := ⟨by decide, by decide⟩
  have i0 : I64 0 := ⟨by decide, by decide⟩
  have i2 : I64 2 := ⟨by decide, by decide⟩
  have H1 : Hid (∀ V : World, Calls Try.prog 9 #[.int .i64 3, .int .i64 0, .int .u32 1] V fun e w' => ∃ v', e = .returned (.tuple #[v', .nilIface]) ∧ ListAt intV w' v' [2] ∧ Below V.heap.size V w') := Lib.hid fun V => (hC V 3 0 1 i3 i0 (by decide)).mono (by
    rintro e w' ⟨hb, ⟨h, -⟩ | ⟨-, v', rfl, ho⟩⟩
    · cases (h : mayB 3 0 = false)
    · exact ⟨v', rfl, cut_ints (ListAt.of_owns (f := cutV) (l := [2]) ho), hb⟩)
  have H2 : Hid (∀ V : World, Calls Try.prog 9 #[.int .i64 3, .int .i64 2, .int .u32 1] V fun e w' => ∃ v', e = .returned (.tuple #[v', .nilIface]) ∧ ListAt intV w' v' [0, 1] ∧ Below V.heap.size V w') := Lib.hid fun V => (hC V 3 2 1 i3 i2 (by decide)).mono (by
    rintro e w' ⟨hb, ⟨h, -⟩ | ⟨-, v', rfl, ho⟩⟩
    · cases (h : mayB 3 2 = false)
    · exact ⟨v', rfl, cut_ints (ListAt.of_owns (f := cutV) (l := [0, 1]) ho), hb⟩)
  have H3 : Hid (∀ V : World, Calls Try.prog 10 #[.int .i64 3, .int .i64 2] V fun e w' => e = .returned (.int .i64 2) ∧ Below V.heap.size V w') := Lib.hid fun V => hR V 3 2 i3 i2
  have HN1 : Hid (∀ V : World, ListAt intV (V.alloc (.cells #[.int .i64 2] 3)) (.slice (some ⟨V.heap.size, 0, none⟩) 1 1) [2]) := Lib.hid fun V => ints_new V [2] (by decide)
  have HN2 : Hid (∀ V : World, ListAt intV (V.alloc (.cells #[.int .i64 0, .int .i64 1] 3)) (.slice (some ⟨V.heap.size, 0, none⟩) 2 2) [0, 1]) := Lib.hid fun V => ints_new V [0, 1] (by decide)
  clear hR hC i3 i0 i2
  go_enter Try.func8, Try.ntmps8
  go_wp2_with fail
  refine (H1.out _).mono ?_
  rintro e w1 ⟨v1, rfl, hl1, hb1⟩
  have HB1 := Lib.hid hb1
  have HL1 := Lib.hid hl1
  clear hb1 hl1
  go_wp2_with fail
  refine (H2.out _).mono ?_
  rintro e w2 ⟨v2, rfl, hl2, hb2⟩
  have HB2 := Lib.hid (HB1.out.trans (hb2.mono HB1.out.size))
  have HL12 := Lib.hid (HL1.out.mono hb2)
  have HL2 := Lib.hid hl2
  clear hb2 hl2
  have HBA := Lib.hid ((Below.refl w2.heap.size w2).alloc (Nat.le_refl _) (.cells #[.int .i64 2] 3))
  have HS1 := Lib.hid (SameI_any v1 _ [2] (HL12.out.mono HBA.out) (HN1.out w2))
  go_wp2_with fail
  refine HS1.out.mono ?_
  rintro e w3 ⟨rfl, hb3⟩
  have HB23 := Lib.hid (HBA.out.trans (hb3.mono HBA.out.size))
  have HB3 := Lib.hid (HB2.out.trans (HB23.out.mono HB2.out.size))
  have HL3 := Lib.hid (HL2.out.mono HB23.out)
  clear hb3
  have HBB := Lib.hid ((Below.refl w3.heap.size w3).alloc (Nat.le_refl _) (.cells #[.int .i64 0, .int .i64 1] 3))
  have HS2 := Lib.hid (SameI_any v2 _ [0, 1] (HL3.out.mono HBB.out) (HN2.out w3))
  go_wp2_with fail
  refine HS2.out.mono ?_
  rintro e w4 ⟨rfl, hb4⟩
  have HB4 := Lib.hid (HB3.out.trans ((HBB.out.trans (hb4.mono HBB.out.size)).mono HB3.out.size))
  clear hb4
  go_wp2_with fail
  refine (H3.out _).mono ?_
  rintro e w5 ⟨rfl, hb5⟩
  have HB5 := Lib.hid (HB4.out.trans (hb5.mono HB4.out.size))
  clear hb5
  go_wp2
  go_ret
  exact ⟨rfl, HB5.out⟩
end Go.Proofs.Ytlhpkfonffijfaa
