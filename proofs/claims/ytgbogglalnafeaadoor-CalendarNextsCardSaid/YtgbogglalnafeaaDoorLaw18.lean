/- The eighteenth layer's laws: awake. -/
import Derived.Test.YtgbogglalnafeaaDoorCaC
namespace Go.Proofs.YtgbogglalnafeaaDoor
open Go.RowKit Go.Extern.Stop Go.Stop Go.Extern

/-- steps, just laid -/
theorem sts_new (W : World) (L : List Nat) (hl : L.length ≤ 100) : ListAt stV (W.alloc (.cells (L.map stV).toArray 48)) (.slice (some ⟨W.heap.size, 0, none⟩) L.length L.length) L := by
  refine ⟨_, _, rfl, Nat.le_refl _, by unfold maxLen; omega, fun _ => ⟨_, _, rfl, fun j hj => ?_⟩⟩
  rw [Nat.zero_add]
  exact cell_of_heap (heap_alloc_new W _) (by simp [hj])

set_option linter.unusedSimpArgs false in
set_option linter.unusedVariables false in
set_option maxRecDepth 1000000 in
set_option maxHeartbeats 4000000 in
theorem awake18 (hR : CaRowC) (hS : CaSyncC) {w : World} : Calls Tryd.prog 11 #[] w fun e w' => e = .returned (.bool true) ∧ Below w.heap.size w w' := by
  have ii : ∀ n : Int, 0 ≤ n → n ≤ 100 → I64 n := fun n h1 h2 => ⟨by omega, by omega⟩
  have H1 : Hid (∀ V : World, Calls Tryd.prog 18 #[.int .i64 4, .int .i64 1, .int .i64 3] V fun e w' => ∃ v', e = .returned (.tuple #[v', .nilIface]) ∧ ListAt stV w' v' [3, 4] ∧ Below V.heap.size V w') := Lib.hid fun V => (hR V 4 1 3 (ii _ (by decide) (by decide)) (ii _ (by decide) (by decide)) (ii _ (by decide) (by decide))).mono (by
    rintro e w' ⟨hb, ⟨h, -⟩ | ⟨-, v', rfl, ho⟩⟩
    · exact absurd (by decide) h
    · exact ⟨v', rfl, ListAt.of_owns (f := stV) (l := [3, 4]) ho, hb⟩)
  have H2 : Hid (∀ V : World, Calls Tryd.prog 13 #[.int .i64 4, .int .i64 3, .int .i64 8] V fun e w' => e = .returned (.tuple #[.int .i64 1, .nilIface]) ∧ Below V.heap.size V w') := Lib.hid fun V => (hS V 4 3 8 (ii _ (by decide) (by decide)) (ii _ (by decide) (by decide)) (ii _ (by decide) (by decide))).mono (by
    rintro e w' ⟨hb, ⟨h, -⟩ | ⟨-, rfl⟩⟩
    · exact absurd (by decide) h
    · exact ⟨rfl, hb⟩)
  have HN2 : Hid (∀ V : World, ListAt stV (V.alloc (.cells #[.int .u32 3, .int .u32 4] 48)) (.slice (some ⟨V.heap.size, 0, none⟩) 2 2) [3, 4]) := Lib.hid fun V => sts_new V [3, 4] (by decide)
  clear hR hS ii
  go_enter Tryd.func11, Tryd.ntmps11
  go_wp2_with fail
  refine (H1.out _).mono ?_
  rintro e w1 ⟨v1, rfl, hl1, hb1⟩
  have HB1 := Lib.hid hb1
  have HL1 := Lib.hid hl1
  clear hb1 hl1
  go_wp2_with fail
  refine (H2.out _).mono ?_
  rintro e w2 ⟨rfl, hb2⟩
  have HB2 := Lib.hid (HB1.out.trans (hb2.mono HB1.out.size))
  have HL12 := Lib.hid (HL1.out.mono hb2)
  clear hb2
  have HBA := Lib.hid ((Below.refl w2.heap.size w2).alloc (Nat.le_refl _) (.cells #[.int .u32 3, .int .u32 4] 48))
  have HS1 := Lib.hid (caSame_any v1 _ [3, 4] (HL12.out.mono HBA.out) (HN2.out w2))
  go_wp2_with fail
  refine HS1.out.mono ?_
  rintro e w3 ⟨rfl, hb3⟩
  have HB3 := Lib.hid (HB2.out.trans ((HBA.out.trans (hb3.mono HBA.out.size)).mono HB2.out.size))
  clear hb3
  go_wp2
  go_ret
  exact ⟨rfl, HB3.out⟩
end Go.Proofs.YtgbogglalnafeaaDoor
