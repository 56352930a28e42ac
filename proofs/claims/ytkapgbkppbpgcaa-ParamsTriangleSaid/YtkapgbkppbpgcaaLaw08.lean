/- The eighth layer's laws: awake. -/
import Derived.Test.YtkapgbkppbpgcaaPaO
import Derived.Outline
namespace Go.Proofs.Ytkapgbkppbpgcaa
open Go.RowKit Go.Extern.Stop Go.Stop Go.Extern

/-- Numbers in a block of their own. -/
def ParBox (W : World) (g : Nat) (k s h l p : Int) : Prop := W.heap[g]? = some (.cells (parC k s h l p) 32 (0, 0))
theorem ParBox.lt {W : World} {g : Nat} {k s h l p : Int} (b : ParBox W g k s h l p) : g < W.heap.size := (Array.getElem?_eq_some_iff.1 b).1
theorem ParBox.mono {W W' : World} {g : Nat} {k s h l p : Int} (b : ParBox W g k s h l p) (hb : Below W.heap.size W W') : ParBox W' g k s h l p := (hb.block g b.lt).trans b
theorem ParBox.cells {W : World} {g : Nat} {k s h l p : Int} (b : ParBox W g k s h l p) :
    W.cell? ⟨g, 0, none⟩ = some (.int .i64 k) ∧ W.cell? ⟨g, 1, none⟩ = some (.int .i64 s) ∧ W.cell? ⟨g, 2, none⟩ = some (.int .i64 h) ∧ W.cell? ⟨g, 3, none⟩ = some (.int .i64 l) ∧ W.cell? ⟨g, 4, none⟩ = some (.int .i64 p) :=
  ⟨cell_of_heap b rfl, cell_of_heap b rfl, cell_of_heap b rfl, cell_of_heap b rfl, cell_of_heap b rfl⟩
theorem par_laid (w : World) (k s h l p : Int) : ∃ W, W = w.alloc (.cells #[.int .i64 k, .int .i64 s, .int .i64 h, .int .i64 l, .int .i64 p] 32) ∧ Below w.heap.size w W ∧ ParBox W w.heap.size k s h l p :=
  ⟨_, rfl, (Below.refl _ _).alloc (Nat.le_refl _) _, heap_alloc_new w _⟩

theorem p7 : IsP 7 := isP_of_root (by decide) 3 (fun d h1 h2 => noDiv_of 1 (by decide +kernel) d h1 h2) (by decide)
theorem p17 : IsP 17 := isP_of_root (by decide) 5 (fun d h1 h2 => noDiv_of 3 (by decide +kernel) d h1 h2) (by decide)
theorem p23 : IsP 23 := isP_of_root (by decide) 5 (fun d h1 h2 => noDiv_of 3 (by decide +kernel) d h1 h2) (by decide)
theorem least17 : LeastP 14 17 := ⟨p17, by decide, fun q h1 h2 => by
  rcases (by omega : q = 14 ∨ q = 15 ∨ q = 16) with rfl | rfl | rfl
  · exact not_isP (d := 2) (by decide) (by decide) (by decide)
  · exact not_isP (d := 3) (by decide) (by decide) (by decide)
  · exact not_isP (d := 2) (by decide) (by decide) (by decide)⟩
theorem of10 : OfP 10 7 6 23 23 := by
  refine ⟨⟨5, ⟨by decide, by decide, fun y h1 h2 => ?_⟩, p7, by decide, fun q h1 h2 => ?_⟩, ⟨by decide, fun j hj => ?_⟩, rfl, p23, by decide, fun q h1 h2 => by omega⟩
  · rcases (by omega : y = 1 ∨ y = 2 ∨ y = 3 ∨ y = 4) with rfl | rfl | rfl | rfl <;> decide
  · obtain rfl : q = 6 := by omega
    exact not_isP (d := 2) (by decide) (by decide) (by decide)
  · rcases (by omega : j = 0 ∨ j = 1 ∨ j = 2 ∨ j = 3 ∨ j = 4 ∨ j = 5) with rfl | rfl | rfl | rfl | rfl | rfl <;> decide
theorem ch63 : chI 6 3 = 20 := by decide

set_option maxRecDepth 1000000 in
set_option maxHeartbeats 1000000 in
theorem awake8 (w : World) : Calls Try.prog 7 #[] w fun e w' => e = .returned (.bool true) ∧ Below w.heap.size w w' := by
  go_enter Try.func7, Try.ntmps7
  go_wp2_with fail
  refine (Of_in 10 (by decide) (by decide)).mono ?_
  rintro e w1 ⟨s, h, l, p, rfl, hof, hb1⟩
  obtain ⟨rfl, rfl, rfl, rfl⟩ := hof.unique of10
  obtain ⟨W, hW, hbW, hbx⟩ := par_laid w1 10 7 6 23 23
  have HW := Lib.hid hW
  have HB1 := Lib.hid (hb1.trans (hbW.mono hb1.size))
  have HBX := Lib.hid hbx
  clear hb1 hof hW hbW hbx
  unfold parV parC
  go_wp2_with fail
  rw [← HW.out]
  refine (Prime_in 14 (by decide) (by decide)).mono ?_
  rintro e w2 ⟨q, rfl, hq, rfl⟩
  obtain rfl := hq.unique least17
  clear hq
  go_wp2_with fail
  refine (Choose_in 6 3 (by decide) (by decide)).mono ?_
  rintro e w2 ⟨rfl, hb2⟩
  rw [ch63]
  have HB2 := Lib.hid (HB1.out.trans (hb2.mono HB1.out.size))
  have hbx := HBX.out.mono hb2
  obtain ⟨c0, c1, c2, c3, c4⟩ := hbx.cells
  clear hbx hb2
  go_wp2
  go_ret
  exact ⟨rfl, HB2.out⟩
end Go.Proofs.Ytkapgbkppbpgcaa
