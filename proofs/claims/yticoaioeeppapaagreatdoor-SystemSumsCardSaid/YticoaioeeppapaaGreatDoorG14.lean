import Derived.Test.YticoaioeeppapaaGreatDoorG13
import Derived.Test.YticoaioeeppapaaGreatDoorG02
import Derived.Deep.RegionHeld3
import Derived.Deep.CutBlock
import Derived.Deep.QuietTactic

section
/- Numbers of a block in a block of memory of their own (was in Law08). -/
namespace Go.Proofs.YticoaioeeppapaaGreatDoor
open Go.RowKit Go.Extern.Stop Go.Stop Go.Extern

/-- Numbers in a block of their own. -/
def ParBox (W : World) (g : Nat) (k s h l p : Int) : Prop := W.heap[g]? = some (.cells (parC k s h l p) 23 (0, 0))
theorem ParBox.lt {W : World} {g : Nat} {k s h l p : Int} (b : ParBox W g k s h l p) : g < W.heap.size := (Array.getElem?_eq_some_iff.1 b).1
theorem ParBox.mono {W W' : World} {g : Nat} {k s h l p : Int} (b : ParBox W g k s h l p) (hb : Below W.heap.size W W') : ParBox W' g k s h l p := (hb.block g b.lt).trans b
theorem ParBox.cells {W : World} {g : Nat} {k s h l p : Int} (b : ParBox W g k s h l p) :
    W.cell? ⟨g, 0, none⟩ = some (.int .i64 k) ∧ W.cell? ⟨g, 1, none⟩ = some (.int .i64 s) ∧ W.cell? ⟨g, 2, none⟩ = some (.int .i64 h) ∧ W.cell? ⟨g, 3, none⟩ = some (.int .i64 l) ∧ W.cell? ⟨g, 4, none⟩ = some (.int .i64 p) :=
  ⟨cell_of_heap b rfl, cell_of_heap b rfl, cell_of_heap b rfl, cell_of_heap b rfl, cell_of_heap b rfl⟩
theorem par_laid (w : World) (k s h l p : Int) : ∃ W, W = w.alloc (.cells #[.int .i64 k, .int .i64 s, .int .i64 h, .int .i64 l, .int .i64 p] 23) ∧ Below w.heap.size w W ∧ ParBox W w.heap.size k s h l p :=
  ⟨_, rfl, (Below.refl _ _).alloc (Nat.le_refl _) _, heap_alloc_new w _⟩

end Go.Proofs.YticoaioeeppapaaGreatDoor
end

section
/- The document's Right (was in PcH, PcJ). -/
namespace Go.Proofs.YticoaioeeppapaaGreatDoor
open Go.RowKit Go.Extern.Stop Go.Stop Go.Extern

/-- Numbers that are those of their K. -/
def Good (K S H L P : Int) : Prop := ∃ k s h l p : Nat, K = k ∧ S = s ∧ H = h ∧ L = l ∧ P = p ∧ 1 ≤ k ∧ k ≤ 128 ∧ OfP k s h l p

set_option maxRecDepth 1000000 in
set_option maxHeartbeats 4000000 in
theorem rRight_good {w : World} (k s h l p : Nat) (H : OfP k s h l p) (hk1 : 1 ≤ k) (hk2 : k ≤ 128) :
    Calls Tryz.prog 35 #[parV k s h l p] w fun e w' => e = .returned (.bool true) ∧ Below w.heap.size w w' := by
  obtain ⟨w0, hw0, hb0, hbx⟩ := par_laid w k s h l p
  have HW0 := Lib.hid hw0
  have HB0 := Lib.hid hb0
  have HBX := Lib.hid hbx
  have HOF := Lib.hid H
  have HRO : Hid (∀ V, Calls Tryz.prog 19 #[.int .i64 (k : Int)] V fun e w' => e = .returned (.agg #[.int .i64 (k : Int), .int .i64 (s : Int), .int .i64 (h : Int), .int .i64 (l : Int), .int .i64 (p : Int)]) ∧ Below V.heap.size V w') := Lib.hid fun V => by
    refine (rOf_any k hk1 hk2).mono ?_
    rintro e w' ⟨s', h', l', p', rfl, hof, hb⟩
    obtain ⟨rfl, rfl, rfl, rfl⟩ := hof.unique HOF.out
    exact ⟨rfl, hb⟩
  have d1 : decide ((1 : Int) ≤ (k : Int)) = true := decide_eq_true (by omega)
  have d2 : decide ((k : Int) ≤ 128) = true := decide_eq_true (by omega)
  have d3 : decide (1 ≤ k) = true := decide_eq_true (by omega)
  have d4 : decide (k ≤ 128) = true := decide_eq_true (by omega)
  clear hw0 hb0 hbx H
  unfold parV parC
  generalize hg1 : w.heap.size = g at HBX
  have HSAT : Hid (∀ V, Below w0.heap.size w0 V → V.cell? ⟨g, 0, none⟩ = some (.int .i64 (k : Int)) ∧ V.cell? ⟨g, 1, none⟩ = some (.int .i64 (s : Int)) ∧ V.cell? ⟨g, 2, none⟩ = some (.int .i64 (h : Int)) ∧ V.cell? ⟨g, 3, none⟩ = some (.int .i64 (l : Int)) ∧ V.cell? ⟨g, 4, none⟩ = some (.int .i64 (p : Int))) := Lib.hid fun V hV => (HBX.out.mono hV).cells
  have HBD : Hid (Below w0.heap.size w0 w0.drew) := Lib.hid (Below.refl _ _).drew
  have HSD := Lib.hid (HSAT.out _ HBD.out)
  have HG1 := Lib.hid hg1
  clear hg1 HBX HOF
  go_enter Tryz.func35, Tryz.ntmps35
  go_upto_region 1 with fail
  rw [← HW0.out, HG1.out]
  go_region_held3 (fun w' => w'.cell? ⟨g, 0, none⟩ = some (.int .i64 (k : Int)) ∧ w'.cell? ⟨g, 1, none⟩ = some (.int .i64 (s : Int)) ∧ w'.cell? ⟨g, 2, none⟩ = some (.int .i64 (h : Int)) ∧ w'.cell? ⟨g, 3, none⟩ = some (.int .i64 (l : Int)) ∧ w'.cell? ⟨g, 4, none⟩ = some (.int .i64 (p : Int)))
    (first | exact HSD.out | exact HSAT.out _ HB3.out | go_keep)
    (first
    | (go_at_call 19; (with_reducible refine (HRO.out _).mono ?_); rintro e w3 ⟨rfl, hb3⟩; have HB3 := Lib.hid (HBD.out.trans (hb3.mono HBD.out.size)); clear hb3))
  all_goals
    go_wp2
    go_ret
    exact ⟨rfl, by rw [← HG1.out]; exact HB0.out.trans (HB3.out.mono HB0.out.size)⟩

set_option maxRecDepth 1000000 in
set_option maxHeartbeats 4000000 in
theorem rRight_bad {w : World} (K S H L P : Int) (hb : ¬ Good K S H L P) (hK : I64 K) :
    Calls Tryz.prog 35 #[parV K S H L P] w fun e w' => e = .returned (.bool false) ∧ Below w.heap.size w w' := by
  obtain ⟨w0, hw0, hb0, hbx⟩ := par_laid w K S H L P
  have HW0 := Lib.hid hw0
  have HB0 := Lib.hid hb0
  have HBX := Lib.hid hbx
  obtain ⟨c0, c1, c2, c3, c4⟩ := hbx.cells
  have HBAD := Lib.hid hb
  clear hw0 hb0 hbx hb
  unfold parV parC
  by_cases h1 : K < 1
  · have d1 : decide ((1 : Int) ≤ K) = false := decide_eq_false (by omega)
    go_enter Tryz.func35, Tryz.ntmps35
    go_upto_region 1 with fail
    rw [← HW0.out]
    go_quiet (fail)
    go_wp2
    go_ret
    exact ⟨rfl, below_draws HB0.out _⟩
  · by_cases h2 : 128 < K
    · have d1 : decide ((1 : Int) ≤ K) = true := decide_eq_true (by omega)
      have d2 : decide (K ≤ 128) = false := decide_eq_false (by omega)
      go_enter Tryz.func35, Tryz.ntmps35
      go_upto_region 1 with fail
      rw [← HW0.out]
      go_quiet (fail)
      go_wp2
      go_ret
      exact ⟨rfl, below_draws HB0.out _⟩
    · obtain ⟨k, rfl⟩ : ∃ k : Nat, K = k := ⟨K.toNat, by omega⟩
      have d1 : decide ((1 : Int) ≤ (k : Int)) = true := decide_eq_true (by omega)
      have d2 : decide ((k : Int) ≤ 128) = true := decide_eq_true (by omega)
      have d3 : decide (1 ≤ k) = true := decide_eq_true (by omega)
      have d4 : decide (k ≤ 128) = true := decide_eq_true (by omega)
      obtain ⟨s, h, l, p, hof⟩ := ofP_ex (show 1 ≤ k by omega) (show k ≤ 128 by omega)
      have HOF := Lib.hid hof
      have hne : ¬ (S = s ∧ H = h ∧ L = l ∧ P = p) := fun ⟨e1, e2, e3, e4⟩ => HBAD.out ⟨k, s, h, l, p, rfl, e1, e2, e3, e4, by omega, by omega, hof⟩
      have hcs : (¬ S = s) ∨ (S = s ∧ ¬ H = h) ∨ (S = s ∧ H = h ∧ ¬ L = l) ∨ (S = s ∧ H = h ∧ L = l ∧ ¬ P = p) := by
        by_cases e1 : S = s
        · by_cases e2 : H = h
          · by_cases e3 : L = l
            · exact .inr (.inr (.inr ⟨e1, e2, e3, fun e4 => hne ⟨e1, e2, e3, e4⟩⟩))
            · exact .inr (.inr (.inl ⟨e1, e2, e3⟩))
          · exact .inr (.inl ⟨e1, e2⟩)
        · exact .inl e1
      have HRO : Hid (∀ V, Calls Tryz.prog 19 #[.int .i64 (k : Int)] V fun e w' => e = .returned (.agg #[.int .i64 (k : Int), .int .i64 (s : Int), .int .i64 (h : Int), .int .i64 (l : Int), .int .i64 (p : Int)]) ∧ Below V.heap.size V w') := Lib.hid fun V => by
        refine (rOf_any k (by omega) (by omega)).mono ?_
        rintro e w' ⟨s', h', l', p', rfl, hof, hb⟩
        obtain ⟨rfl, rfl, rfl, rfl⟩ := hof.unique HOF.out
        exact ⟨rfl, hb⟩
      clear c0 c1 c2 c3 c4 hne hof
      generalize hg1 : w.heap.size = g at HBX
      have HSAT : Hid (∀ V, Below w0.heap.size w0 V → V.cell? ⟨g, 0, none⟩ = some (.int .i64 (k : Int)) ∧ V.cell? ⟨g, 1, none⟩ = some (.int .i64 S) ∧ V.cell? ⟨g, 2, none⟩ = some (.int .i64 H) ∧ V.cell? ⟨g, 3, none⟩ = some (.int .i64 L) ∧ V.cell? ⟨g, 4, none⟩ = some (.int .i64 P)) := Lib.hid fun V hV => (HBX.out.mono hV).cells
      have HBD : Hid (Below w0.heap.size w0 w0.drew) := Lib.hid (Below.refl _ _).drew
      have HSD := Lib.hid (HSAT.out _ HBD.out)
      have HG1 := Lib.hid hg1
      clear hg1 HBX HBAD
      rcases hcs with e1 | ⟨rfl, e1⟩ | ⟨rfl, rfl, e1⟩ | ⟨rfl, rfl, rfl, e1⟩
      · go_enter Tryz.func35, Tryz.ntmps35
        go_upto_region 1 with fail
        rw [← HW0.out, HG1.out]
        go_region_held3 (fun w' => w'.cell? ⟨g, 0, none⟩ = some (.int .i64 (k : Int)) ∧ w'.cell? ⟨g, 1, none⟩ = some (.int .i64 S) ∧ w'.cell? ⟨g, 2, none⟩ = some (.int .i64 H) ∧ w'.cell? ⟨g, 3, none⟩ = some (.int .i64 L) ∧ w'.cell? ⟨g, 4, none⟩ = some (.int .i64 P))
          (first | exact HSD.out | exact HSAT.out _ HB3.out | go_keep)
          (first
          | (go_at_call 19; (with_reducible refine (HRO.out _).mono ?_); rintro e w3 ⟨rfl, hb3⟩; have HB3 := Lib.hid (HBD.out.trans (hb3.mono HBD.out.size)); clear hb3))
        all_goals
          go_wp2
          go_ret
          exact ⟨rfl, by rw [← HG1.out]; exact HB0.out.trans (HB3.out.mono HB0.out.size)⟩
      · go_enter Tryz.func35, Tryz.ntmps35
        go_upto_region 1 with fail
        rw [← HW0.out, HG1.out]
        go_region_held3 (fun w' => w'.cell? ⟨g, 0, none⟩ = some (.int .i64 (k : Int)) ∧ w'.cell? ⟨g, 1, none⟩ = some (.int .i64 (s : Int)) ∧ w'.cell? ⟨g, 2, none⟩ = some (.int .i64 H) ∧ w'.cell? ⟨g, 3, none⟩ = some (.int .i64 L) ∧ w'.cell? ⟨g, 4, none⟩ = some (.int .i64 P))
          (first | exact HSD.out | exact HSAT.out _ HB3.out | go_keep)
          (first
          | (go_at_call 19; (with_reducible refine (HRO.out _).mono ?_); rintro e w3 ⟨rfl, hb3⟩; have HB3 := Lib.hid (HBD.out.trans (hb3.mono HBD.out.size)); clear hb3))
        all_goals
          go_wp2
          go_ret
          exact ⟨rfl, by rw [← HG1.out]; exact HB0.out.trans (HB3.out.mono HB0.out.size)⟩
      · go_enter Tryz.func35, Tryz.ntmps35
        go_upto_region 1 with fail
        rw [← HW0.out, HG1.out]
        go_region_held3 (fun w' => w'.cell? ⟨g, 0, none⟩ = some (.int .i64 (k : Int)) ∧ w'.cell? ⟨g, 1, none⟩ = some (.int .i64 (s : Int)) ∧ w'.cell? ⟨g, 2, none⟩ = some (.int .i64 (h : Int)) ∧ w'.cell? ⟨g, 3, none⟩ = some (.int .i64 L) ∧ w'.cell? ⟨g, 4, none⟩ = some (.int .i64 P))
          (first | exact HSD.out | exact HSAT.out _ HB3.out | go_keep)
          (first
          | (go_at_call 19; (with_reducible refine (HRO.out _).mono ?_); rintro e w3 ⟨rfl, hb3⟩; have HB3 := Lib.hid (HBD.out.trans (hb3.mono HBD.out.size)); clear hb3))
        all_goals
          go_wp2
          go_ret
          exact ⟨rfl, by rw [← HG1.out]; exact HB0.out.trans (HB3.out.mono HB0.out.size)⟩
      · go_enter Tryz.func35, Tryz.ntmps35
        go_upto_region 1 with fail
        rw [← HW0.out, HG1.out]
        go_region_held3 (fun w' => w'.cell? ⟨g, 0, none⟩ = some (.int .i64 (k : Int)) ∧ w'.cell? ⟨g, 1, none⟩ = some (.int .i64 (s : Int)) ∧ w'.cell? ⟨g, 2, none⟩ = some (.int .i64 (h : Int)) ∧ w'.cell? ⟨g, 3, none⟩ = some (.int .i64 (l : Int)) ∧ w'.cell? ⟨g, 4, none⟩ = some (.int .i64 P))
          (first | exact HSD.out | exact HSAT.out _ HB3.out | go_keep)
          (first
          | (go_at_call 19; (with_reducible refine (HRO.out _).mono ?_); rintro e w3 ⟨rfl, hb3⟩; have HB3 := Lib.hid (HBD.out.trans (hb3.mono HBD.out.size)); clear hb3))
        all_goals
          go_wp2
          go_ret
          exact ⟨rfl, by rw [← HG1.out]; exact HB0.out.trans (HB3.out.mono HB0.out.size)⟩
end Go.Proofs.YticoaioeeppapaaGreatDoor
end

section
/- A trip of package ltrow: a struct of three numbers; in a block of its own. -/
namespace Go.Proofs.YticoaioeeppapaaGreatDoor
open Go.RowKit Go.Extern.Stop Go.Stop Go.Extern

/-- A trip as a struct. -/
def tripC (d s a : Int) : Array Value := #[.int .i64 d, .int .i64 s, .int .i64 a]
def tripV (d s a : Int) : Value := .agg (tripC d s a)
/-- A trip in a block of its own. -/
def TripBox (W : World) (g : Nat) (d s a : Int) : Prop := W.heap[g]? = some (.cells (tripC d s a) 93 (0, 0))
theorem TripBox.lt {W : World} {g : Nat} {d s a : Int} (b : TripBox W g d s a) : g < W.heap.size := (Array.getElem?_eq_some_iff.1 b).1
theorem TripBox.mono {W W' : World} {g : Nat} {d s a : Int} (b : TripBox W g d s a) (hb : Below W.heap.size W W') : TripBox W' g d s a := (hb.block g b.lt).trans b
theorem TripBox.cells {W : World} {g : Nat} {d s a : Int} (b : TripBox W g d s a) :
    W.cell? ⟨g, 0, none⟩ = some (.int .i64 d) ∧ W.cell? ⟨g, 1, none⟩ = some (.int .i64 s) ∧ W.cell? ⟨g, 2, none⟩ = some (.int .i64 a) :=
  ⟨cell_of_heap b rfl, cell_of_heap b rfl, cell_of_heap b rfl⟩
theorem TripBox.free {W : World} {g : Nat} {d s a : Int} (b : TripBox W g d s a) :
    W.frozen? ⟨g, 0, none⟩ = false ∧ W.frozen? ⟨g, 1, none⟩ = false ∧ W.frozen? ⟨g, 2, none⟩ = false :=
  ⟨frozen_of_heap b, frozen_of_heap b, frozen_of_heap b⟩
theorem trip_laid (w : World) (d s a : Int) : ∃ W, W = w.alloc (.cells #[.int .i64 d, .int .i64 s, .int .i64 a] 93) ∧ Below w.heap.size w W ∧ TripBox W w.heap.size d s a :=
  ⟨_, rfl, (Below.refl _ _).alloc (Nat.le_refl _) _, heap_alloc_new w _⟩
theorem TripBox.done {W : World} {g : Nat} {d s a : Int} (h : TripBox W g d s a) (x y z : Value) : (((W.setCell ⟨g, 0, none⟩ x).setCell ⟨g, 1, none⟩ y).setCell ⟨g, 2, none⟩ z).heap[g]? = some (.cells #[x, y, z] 93 (0, 0)) :=
  heap_setCell_at (heap_setCell_at (heap_setCell_at h))
theorem TripBox.below {W w : World} {B g : Nat} (hb : Below B w W) (hg : B ≤ g) (x y z : Value) : Below B w (((W.setCell ⟨g, 0, none⟩ x).setCell ⟨g, 1, none⟩ y).setCell ⟨g, 2, none⟩ z) :=
  ((hb.setCell (p := ⟨g, 0, none⟩) hg x).setCell (p := ⟨g, 1, none⟩) hg y).setCell (p := ⟨g, 2, none⟩) hg z
theorem TripBox.err {W : World} {g : Nat} {d s a : Int} {k : Int} {n : ByteArray} {E : Value} (h : TripBox W g d s a) (he : ErrAns k n W E) (x y z : Value) : ErrAns k n (((W.setCell ⟨g, 0, none⟩ x).setCell ⟨g, 1, none⟩ y).setCell ⟨g, 2, none⟩ z) E :=
  errAns_kept2 he fun b s hc => by
    have n1 : b ≠ g := by
      rintro rfl
      rw [h.cells.1] at hc
      cases hc
    rw [Below.heap_setCell _ _ _ _ n1, Below.heap_setCell _ _ _ _ n1, Below.heap_setCell _ _ _ _ n1]
theorem ParBox.set {W : World} {g b j : Nat} {k s h l p : Int} {u : Value} (x : ParBox W g k s h l p) (hn : g ≠ b) : ParBox (W.setCell ⟨b, j, none⟩ u) g k s h l p := (Below.heap_setCell _ ⟨b, j, none⟩ _ _ hn).trans x
theorem TripBox.set {W : World} {g b j : Nat} {d s a : Int} {u : Value} (x : TripBox W g d s a) (hn : g ≠ b) : TripBox (W.setCell ⟨b, j, none⟩ u) g d s a := (Below.heap_setCell _ ⟨b, j, none⟩ _ _ hn).trans x
end Go.Proofs.YticoaioeeppapaaGreatDoor
end
