import Derived.Test.YtkhdjjcflbdegaaGreatDoorChecked
import Derived.WalkKit
import Derived.LaidLaws
import Derived.ChangeArms
import Derived.ChangeSame
import Derived.OpenShut
import Derived.FnData
import Derived.Test.YtkhdjjcflbdegaaGreatDoorG04
import Derived.Test.YtkhdjjcflbdegaaGreatDoorG02
import Derived.Test.YtkhdjjcflbdegaaGreatDoorG08
import Derived.Test.YtkhdjjcflbdegaaGreatDoorG18
import Derived.Test.YtkhdjjcflbdegaaGreatDoorG05
import Derived.Deep.LoopGhost

section
/- A table of pairs of numbers at package level: from the row's list to the variable's cells. -/
namespace Go.Proofs.YtkhdjjcflbdegaaGreatDoor
open Go.RowKit Go.ChangeShapes Go.WideShapes

def pairsData {H : Type} (L : List (Int × Int)) : DataW H := .agg (L.map fun z => .agg [.lit (.int .i64 z.1), .lit (.int .i64 z.2)])

/-- The variable in block g holds these pairs, one behind the other. -/
def PairsAt (w : World) (g : Nat) (L : List (Int × Int)) : Prop :=
  ∀ i (hi : i < L.length), w.cell? ⟨g, i * 2, none⟩ = some (.int .i64 (L[i]'hi).1) ∧ w.cell? ⟨g, i * 2 + 1, none⟩ = some (.int .i64 (L[i]'hi).2)

theorem PairsAt.mono {w w' : World} {g : Nat} {L : List (Int × Int)} (h : PairsAt w g L) (hb : Below w.heap.size w w') : PairsAt w' g L := fun i hi =>
  ⟨(hb.cell (p := ⟨g, i * 2, none⟩) (World.block_lt_of_cell? w _ (h i hi).1)).trans (h i hi).1, (hb.cell (p := ⟨g, i * 2 + 1, none⟩) (World.block_lt_of_cell? w _ (h i hi).2)).trans (h i hi).2⟩

theorem at_take1 {cs : List Value} {k : Nat} {v : Value} (h : (cs.drop k).take 1 = [v]) : cs[k]? = some v := by
  have := congrArg (·[0]?) h
  simpa [List.getElem?_take, List.getElem?_drop] using this

theorem pairsAt_of_laid {P : Program} {W : World} {name : String} {L : List (Int × Int)} {rest : List (String × DataW Unit)} {g : Nat} {t e e1 : TypeId} {f0 f1 : Field} {n : Nat}
    (hg : P.globalNamed name = some g) (hty : (P.globals[g]?).map (·.type) = some t) (ht : P.underlying t = some (.array n e)) (he : P.underlying e = some (.struct #[f0, f1]))
    (h0t : f0.type = e1) (h1t : f1.type = e1) (h0o : f0.offset = 0) (h1o : f1.offset = 1)
    (hi : P.underlying e1 = some (.int .i64)) (hce : P.cellsOf e = 2) (hci : P.cellsOf e1 = 1)
    (h : laidMet P ((name, pairsData L) :: rest) W) : PairsAt W g L := by
  obtain ⟨ps, ⟨g', t', cs, fuel, p, q, hg', ht', hvar, hd, _, _⟩, _⟩ := h
  obtain rfl := Option.some.inj (hg.symm.trans hg')
  obtain rfl := Option.some.inj (hty.symm.trans ht')
  obtain ⟨xs, m, -, hx, -, hxn, hall⟩ := DataW.trod_array ht hd
  have hxs : xs.map (·.1) = L.map fun z => (.agg [.lit (.int .i64 z.1), .lit (.int .i64 z.2)] : DataW Unit) := by
    have := congrArg Prod.fst hx
    simpa [pairsData] using this.symm
  have hln : L.length = n := by
    have := congrArg List.length hxs
    simp at this
    omega
  intro i hlt
  have h1 := hall i (by omega)
  rw [hce] at h1
  have hix : i < xs.length := by omega
  rw [List.getElem?_eq_getElem hix] at h1
  have hi1 : (xs[i]).1 = (.agg [.lit (.int .i64 (L[i]'hlt).1), .lit (.int .i64 (L[i]'hlt).2)] : DataW Unit) := by
    have := congrArg (·[i]?) hxs
    simpa [List.getElem?_eq_getElem hix, List.getElem?_eq_getElem hlt] using this
  obtain ⟨y0, y1, m2, e2, hl, g0, g1⟩ := trod_struct2 he h1
  rw [h0t, hci, h0o] at g0
  rw [h1t, hci, h1o] at g1
  obtain ⟨a, ha, rfl, -⟩ := DataW.trod_int hi g0
  obtain ⟨b, hb, rfl, -⟩ := DataW.trod_int hi g1
  rw [e2] at hi1
  simp only [DataW.agg.injEq, List.cons.injEq, DataW.lit.injEq, Lit.int.injEq, true_and, and_true] at hi1
  obtain ⟨rfl, rfl⟩ := hi1
  have c0 := at_take1 ha
  have c1 := at_take1 hb
  rw [List.getElem?_take, if_pos (by omega), List.getElem?_drop] at c0 c1
  constructor
  · rw [World.var?_cell hg hvar, ← Array.getElem?_toList]; simpa using c0
  · rw [World.var?_cell hg hvar, ← Array.getElem?_toList]; simpa using c1
end Go.Proofs.YtkhdjjcflbdegaaGreatDoor
end

section
/- Package degree and the document's table: Of, Upto, Share, All. -/
namespace Go.Proofs.YtkhdjjcflbdegaaGreatDoor
open Go.RowKit Go.Extern.Stop Go.Stop Go.Extern

abbrev DgTab (w : World) : Prop := PairsAt w 2 dgTab

theorem dgTab_cells {w : World} (h : DgTab w) :
    (w.cell? ⟨2, 0, none⟩ = some (.int .i64 10241) ∧ w.cell? ⟨2, 1, none⟩ = some (.int .i64 1)) ∧
    (w.cell? ⟨2, 2, none⟩ = some (.int .i64 491582) ∧ w.cell? ⟨2, 3, none⟩ = some (.int .i64 2)) ∧
    (w.cell? ⟨2, 4, none⟩ = some (.int .i64 712794) ∧ w.cell? ⟨2, 5, none⟩ = some (.int .i64 3)) ∧
    (w.cell? ⟨2, 6, none⟩ = some (.int .i64 831695) ∧ w.cell? ⟨2, 7, none⟩ = some (.int .i64 4)) ∧
    (w.cell? ⟨2, 8, none⟩ = some (.int .i64 948446) ∧ w.cell? ⟨2, 9, none⟩ = some (.int .i64 10)) ∧
    (w.cell? ⟨2, 10, none⟩ = some (.int .i64 1032189) ∧ w.cell? ⟨2, 11, none⟩ = some (.int .i64 11)) ∧
    (w.cell? ⟨2, 12, none⟩ = some (.int .i64 1048576) ∧ w.cell? ⟨2, 13, none⟩ = some (.int .i64 40)) :=
  ⟨h 0 (by decide), h 1 (by decide), h 2 (by decide), h 3 (by decide), h 4 (by decide), h 5 (by decide), h 6 (by decide)⟩

theorem dgTab_le : ∀ (k : Nat) (hk : k < 7), (dgTab[k]'hk).1 ≤ 1048576 := by decide

/-- The document's rows: the first whose bound is above v. -/
theorem dgOf_hit (v : Int) (k : Nat) (hk : k < 7) (h : ∀ j (hj : j < k), (dgTab[j]'(by show j < 7; omega)).1 ≤ v) (hv : v < (dgTab[k]'hk).1) : dgOf v = (dgTab[k]'hk).2 := by
  unfold dgOf
  rcases (by omega : k = 0 ∨ k = 1 ∨ k = 2 ∨ k = 3 ∨ k = 4 ∨ k = 5 ∨ k = 6) with rfl | rfl | rfl | rfl | rfl | rfl | rfl
  · have h1 : v < 10241 := hv
    show _ = (1 : Int); split <;> omega
  · have h0 : 10241 ≤ v := h 0 (by omega)
    have h1 : v < 491582 := hv
    rw [if_neg (by omega), if_pos (by omega)]; rfl
  · have h0 : 491582 ≤ v := h 1 (by omega)
    have h1 : v < 712794 := hv
    rw [if_neg (by omega), if_neg (by omega), if_pos (by omega)]; rfl
  · have h0 : 712794 ≤ v := h 2 (by omega)
    have h1 : v < 831695 := hv
    rw [if_neg (by omega), if_neg (by omega), if_neg (by omega), if_pos (by omega)]; rfl
  · have h0 : 831695 ≤ v := h 3 (by omega)
    have h1 : v < 948446 := hv
    rw [if_neg (by omega), if_neg (by omega), if_neg (by omega), if_neg (by omega), if_pos (by omega)]; rfl
  · have h0 : 948446 ≤ v := h 4 (by omega)
    have h1 : v < 1032189 := hv
    rw [if_neg (by omega), if_neg (by omega), if_neg (by omega), if_neg (by omega), if_neg (by omega), if_pos (by omega)]; rfl
  · have h0 : 1032189 ≤ v := h 5 (by omega)
    rw [if_neg (by omega), if_neg (by omega), if_neg (by omega), if_neg (by omega), if_neg (by omega), if_neg (by omega)]; rfl

set_option maxRecDepth 1000000 in
set_option maxHeartbeats 1000000 in
theorem DgOf_in {w : World} (v : Int) (h0 : 0 ≤ v) (h1 : v < 1048576) (hT : DgTab w) :
    Calls Tryz.prog 137 #[.int .i64 v] w fun e w' => e = .returned (.tuple #[.int .i64 (dgOf v), .nilIface]) ∧ w = w' := by
  have HT := Lib.hid hT
  clear hT
  go_enter Tryz.func137, Tryz.ntmps137
  go_wp2
  go_loopw [7] (fun i wr => ∃ k : Nat, k ≤ 7 ∧ i = .int .i64 k ∧ w = wr ∧ ∀ j (hj : j < 7), j < k → (dgTab[j]'hj).1 ≤ v) (fun i _ => 7 - (intOf i).toNat)
  case atStart => exact ⟨0, by omega, rfl, rfl, fun j _ hj => by omega⟩
  case round =>
    obtain ⟨k, hk, rfl, rfl, hj⟩ := hrel
    have hk7 : k < 7 := by
      rcases Nat.lt_or_ge k 7 with h | h
      · exact h
      · have : (1048576 : Int) ≤ v := hj 6 (by omega) (by omega)
        omega
    obtain ⟨hc0, hc1⟩ := HT.out k hk7
    have HJ := Lib.hid hj
    have HH := Lib.hid (fun hv => dgOf_hit v k hk7 (fun j hjk => hj j (by omega) hjk) hv)
    clear hj
    obtain ⟨B, hB⟩ : ∃ B, (dgTab[k]'hk7).1 = B := ⟨_, rfl⟩
    obtain ⟨D, hD⟩ : ∃ D, (dgTab[k]'hk7).2 = D := ⟨_, rfl⟩
    rw [hB] at hc0
    rw [hD] at hc1
    have HBB := Lib.hid hB
    have HDD := Lib.hid hD
    clear hB hD
    by_cases hv : v < B
    · have hd : dgOf v = D := (HH.out (by rw [HBB.out]; exact hv)).trans HDD.out
      go_wp2
      go_ret2
      exact ⟨by rw [hd]; rfl, rfl⟩
    · have HN := Lib.hid hv
      go_wp2
      go_roundw
      case rel => exact ⟨k + 1, by omega, by go_num, trivial, fun j hj7 hj => by
        by_cases e : j = k
        · subst e; rw [HBB.out]; have := HN.out; omega
        · exact HJ.out j hj7 (by omega)⟩
      case measure => simp [intOf]; omega

set_option maxRecDepth 1000000 in
set_option maxHeartbeats 1000000 in
theorem DgOf_out {w : World} (v : Int) (h : v < 0 ∨ 1048576 ≤ v) (hT : DgTab w) :
    Calls Tryz.prog 137 #[.int .i64 v] w fun e w' => ∃ E, e = .returned (.tuple #[.int .i64 0, E]) ∧ ErrAns 1 ⟨#[100, 101, 103, 114, 101, 101, 46, 79, 102]⟩ w' E ∧ Below w.heap.size w w' := by
  have HT := Lib.hid hT
  clear hT
  rcases h with h | h
  · have hd0 : decide (0 ≤ v) = false := decide_eq_false (by omega)
    go_enter Tryz.func137, Tryz.ntmps137
    go_wp2_with fail
    refine (New_ans _ 1 (by decide) _).mono ?_
    rintro e w1 ⟨E1, rfl, hc1, hb1⟩
    have HC1 := Lib.hid hc1
    have HB1 := Lib.hid hb1
    obtain ⟨u, x, rfl⟩ := hc1.some (by decide)
    clear hc1 hb1
    go_wp2
    go_ret2
    exact ⟨_, rfl, HC1.out, HB1.out⟩
  · have h0 : 0 ≤ v := by omega
    go_enter Tryz.func137, Tryz.ntmps137
    go_wp2
    go_loopw [7] (fun i wr => ∃ k : Nat, k ≤ 7 ∧ i = .int .i64 k ∧ w = wr) (fun i _ => 7 - (intOf i).toNat)
    case atStart => exact ⟨0, by omega, rfl, rfl⟩
    case round =>
      obtain ⟨k, hk, rfl, rfl⟩ := hrel
      by_cases hk7 : k < 7
      · obtain ⟨hc0, hc1⟩ := HT.out k hk7
        have hle := dgTab_le k hk7
        generalize (dgTab[k]'hk7).1 = B at *
        generalize (dgTab[k]'hk7).2 = D at *
        have hv : ¬ v < B := by omega
        go_wp2
        go_roundw
        case rel => exact ⟨k + 1, by omega, by go_num, trivial⟩
        case measure => simp [intOf]; omega
      · go_wp2_with fail
        refine (New_ans _ 1 (by decide) _).mono ?_
        rintro e w1 ⟨E1, rfl, hc1, hb1⟩
        have HC1 := Lib.hid hc1
        have HB1 := Lib.hid hb1
        obtain ⟨u, x, rfl⟩ := hc1.some (by decide)
        clear hc1 hb1
        go_wp2
        go_ret2
        exact ⟨_, rfl, HC1.out, HB1.out⟩

/-- The bound of the rows ahead. -/
def dgBd (k : Nat) : Int := if k = 0 then 0 else (dgTab.getD (k - 1) (0, 0)).1
theorem dgBd_succ (k : Nat) (hk : k < 7) : dgBd (k + 1) = (dgTab[k]'hk).1 := by
  unfold dgBd
  rw [if_neg (by omega)]
  have : k + 1 - 1 = k := by omega
  rw [this, List.getD_eq_getElem?_getD, List.getElem?_eq_getElem hk]
  rfl
theorem dgBd_le : ∀ k, k < 8 → 0 ≤ dgBd k ∧ dgBd k ≤ 1048576 := by decide

/-- How many numbers have a degree; 0: there is no such degree. -/
def dgShare (d : Int) : Int := if d = 1 then 10241 else if d = 2 then 481341 else if d = 3 then 221212 else if d = 4 then 118901 else if d = 10 then 116751 else if d = 11 then 83743 else if d = 40 then 16387 else 0
theorem dgShare_hit : ∀ (k : Nat) (hk : k < 7), dgShare (dgTab[k]'hk).2 = (dgTab[k]'hk).1 - dgBd k := by decide
theorem dgShare_ne : ∀ (k : Nat) (hk : k < 7), dgShare (dgTab[k]'hk).2 ≠ 0 := by decide
theorem dgShare_none (d : Int) (h : ∀ (k : Nat) (hk : k < 7), (dgTab[k]'hk).2 ≠ d) : dgShare d = 0 := by
  have h0 : (1 : Int) ≠ d := h 0 (by omega)
  have h1 : (2 : Int) ≠ d := h 1 (by omega)
  have h2 : (3 : Int) ≠ d := h 2 (by omega)
  have h3 : (4 : Int) ≠ d := h 3 (by omega)
  have h4 : (10 : Int) ≠ d := h 4 (by omega)
  have h5 : (11 : Int) ≠ d := h 5 (by omega)
  have h6 : (40 : Int) ≠ d := h 6 (by omega)
  unfold dgShare
  rw [if_neg (by omega), if_neg (by omega), if_neg (by omega), if_neg (by omega), if_neg (by omega), if_neg (by omega), if_neg (by omega)]

/-- How many numbers have at most a degree. -/
def dgUp (d : Int) : Nat → Int
  | 0 => 0
  | k + 1 => if (dgTab.getD k (0, 0)).2 ≤ d then (dgTab.getD k (0, 0)).1 else dgUp d k
abbrev dgUpto (d : Int) : Int := dgUp d 7
theorem dgUp_hit (d : Int) (k : Nat) (hk : k < 7) (h : (dgTab[k]'hk).2 ≤ d) : dgUp d (k + 1) = (dgTab[k]'hk).1 := by
  have e : dgTab.getD k (0, 0) = dgTab[k]'hk := by rw [List.getD_eq_getElem?_getD, List.getElem?_eq_getElem hk]; rfl
  show (if (dgTab.getD k (0, 0)).2 ≤ d then (dgTab.getD k (0, 0)).1 else dgUp d k) = _
  rw [e, if_pos h]
theorem dgUp_miss (d : Int) (k : Nat) (hk : k < 7) (h : ¬ (dgTab[k]'hk).2 ≤ d) : dgUp d (k + 1) = dgUp d k := by
  have e : dgTab.getD k (0, 0) = dgTab[k]'hk := by rw [List.getD_eq_getElem?_getD, List.getElem?_eq_getElem hk]; rfl
  show (if (dgTab.getD k (0, 0)).2 ≤ d then (dgTab.getD k (0, 0)).1 else dgUp d k) = _
  rw [e, if_neg h]

end Go.Proofs.YtkhdjjcflbdegaaGreatDoor
end

section
/- Package ltrow: draw. -/
namespace Go.Proofs.YtkhdjjcflbdegaaGreatDoor
open Go.RowKit Go.Extern.Stop Go.Stop Go.Extern

/-- Three numbers in a block of their own. -/
def TrioBox (W : World) (g : Nat) (x y z : Int) : Prop := W.heap[g]? = some (.cells #[.int .i64 x, .int .i64 y, .int .i64 z] 208 (0, 0))
theorem TrioBox.lt {W : World} {g : Nat} {x y z : Int} (b : TrioBox W g x y z) : g < W.heap.size := (Array.getElem?_eq_some_iff.1 b).1
theorem TrioBox.cells {W : World} {g : Nat} {x y z : Int} (b : TrioBox W g x y z) :
    W.cell? ⟨g, 0, none⟩ = some (.int .i64 x) ∧ W.cell? ⟨g, 1, none⟩ = some (.int .i64 y) ∧ W.cell? ⟨g, 2, none⟩ = some (.int .i64 z) :=
  ⟨cell_of_heap b rfl, cell_of_heap b rfl, cell_of_heap b rfl⟩
theorem TrioBox.free {W : World} {g : Nat} {x y z : Int} (b : TrioBox W g x y z) :
    W.frozen? ⟨g, 0, none⟩ = false ∧ W.frozen? ⟨g, 1, none⟩ = false ∧ W.frozen? ⟨g, 2, none⟩ = false :=
  ⟨frozen_of_heap b, frozen_of_heap b, frozen_of_heap b⟩
theorem TrioBox.set0 {W : World} {g : Nat} {x y z : Int} (b : TrioBox W g x y z) (u : Int) : TrioBox (W.setCell ⟨g, 0, none⟩ (.int .i64 u)) g u y z := heap_setCell_at b
theorem TrioBox.set1 {W : World} {g : Nat} {x y z : Int} (b : TrioBox W g x y z) (u : Int) : TrioBox (W.setCell ⟨g, 1, none⟩ (.int .i64 u)) g x u z := heap_setCell_at b
theorem TrioBox.set2 {W : World} {g : Nat} {x y z : Int} (b : TrioBox W g x y z) (u : Int) : TrioBox (W.setCell ⟨g, 2, none⟩ (.int .i64 u)) g x y u := heap_setCell_at b

theorem idx3_0 (x y z : Value) (w : World) : (Instr.index 208 (.agg #[x, y, z]) (.int .i64 0)).run Tryz.prog w = .ok x w := by
  simp [Instr.index, run_underlying Tryz.underlying208, asIntOf, go_sem]
theorem idx3_1 (x y z : Value) (w : World) : (Instr.index 208 (.agg #[x, y, z]) (.int .i64 1)).run Tryz.prog w = .ok y w := by
  simp [Instr.index, run_underlying Tryz.underlying208, asIntOf, go_sem]
theorem idx3_2 (x y z : Value) (w : World) : (Instr.index 208 (.agg #[x, y, z]) (.int .i64 2)).run Tryz.prog w = .ok z w := by
  simp [Instr.index, run_underlying Tryz.underlying208, asIntOf, go_sem]

set_option maxRecDepth 1000000 in
set_option maxHeartbeats 4000000 in
theorem draw_ok {w : World} (k s h l p y : Nat) (hl1 : 1 ≤ l) (hl2 : l ≤ 400) (hp1 : 2 ≤ p) (hp2 : p ≤ 1000) (hT : DgTab w) :
    Calls Tryz.prog 125 #[parV k s h l p, .int .u32 (y : Int)] w fun e w' => e = .returned (.tuple #[tripV (trD l y : Nat) (trS p y : Nat) (trA p y : Nat), .nilIface]) ∧ Below w.heap.size w w' := by
  obtain ⟨w0, hw0, hb0, hbx⟩ := par_laid w k s h l p
  obtain ⟨w1, hw1, hb1, hbt⟩ := trip_laid w0 0 0 0
  obtain ⟨w2, hw2⟩ : ∃ w2, w2 = w1.alloc (.cells #[.int .i64 0, .int .i64 0, .int .i64 0] 208) := ⟨_, rfl⟩
  have hbq : TrioBox w2 w1.heap.size 0 0 0 := by rw [hw2]; exact heap_alloc_new w1 _
  have hs0 : w0.heap.size = w.heap.size + 1 := by rw [hw0]; simp
  have hs1 : w1.heap.size = w.heap.size + 2 := by rw [hw1]; simp; omega
  have hb2 : Below w.heap.size w w2 := by rw [hw2]; exact (hb0.trans (hb1.mono hb0.size)).alloc (by omega) _
  have hb12 : Below w1.heap.size w1 w2 := by rw [hw2]; exact (Below.refl _ _).alloc (Nat.le_refl _) _
  have HW0 := Lib.hid hw0
  have HW1 := Lib.hid hw1
  have HW2 := Lib.hid hw2
  have HB2 := Lib.hid hb2
  have HT := Lib.hid hT
  have hbx2 := (hbx.mono hb1).mono hb12
  have hbt2 := hbt.mono hb12
  rw [hs0] at hbt2
  rw [hs1] at hbq
  obtain ⟨c0, c1, c2, c3, c4⟩ := hbx2.cells
  have HBX := Lib.hid hbx2
  have HBT := Lib.hid hbt2
  have HBQ := Lib.hid hbq
  have HS0 := Lib.hid hs0
  have HS1 := Lib.hid hs1
  clear hw0 hw1 hw2 hb0 hb1 hb2 hb12 hbx hbt hbx2 hbt2 hbq hs0 hs1 hT
  unfold parV parC
  have HB1 : Hid (∀ V, Calls Tryz.prog 136 #[.int .u32 (y : Int), .int .u32 1, .int .i64 ((p : Int) - 1)] V fun e w' => e = .returned (.tuple #[.int .i64 ((mixN y 1 % (p - 1) : Nat) : Int), .nilIface]) ∧ V = w') := Lib.hid fun V => by
    have := Below_in (w := V) y 1 (p - 1) (by omega) (by omega)
    rwa [show ((p - 1 : Nat) : Int) = (p : Int) - 1 by omega] at this
  go_enter Tryz.func125, Tryz.ntmps125
  go_upto_region 2 with fail
  rw [← HW0.out, ← HW1.out, ← HW2.out]
  go_wp2_with fail
  have I0 := idx3_0 (.int .i64 1048576) (.int .i64 ((p : Int) - 1)) (.int .i64 (p : Int))
  have I1 := idx3_1 (.int .i64 1048576) (.int .i64 ((p : Int) - 1)) (.int .i64 (p : Int))
  have I2 := idx3_2 (.int .i64 1048576) (.int .i64 ((p : Int) - 1)) (.int .i64 (p : Int))
  go_loopw [5, 19] (fun E i wr => E = .nilIface ∧ ∃ j : Nat, (j = 0 ∧ i = .int .i64 0 ∨ j = 1 ∧ i = .int .i64 1 ∨ j = 2 ∧ i = .int .i64 2 ∨ j = 3 ∧ i = .int .i64 3) ∧ Below w.heap.size w wr ∧ ParBox wr w.heap.size k s h l p ∧ TripBox wr (w.heap.size + 1) 0 0 0 ∧ ∃ a b c : Nat, TrioBox wr (w.heap.size + 1 + 1) a b c ∧ (0 < j → a = mixN y 0 % 1048576) ∧ (1 < j → b = mixN y 1 % (p - 1)) ∧ (2 < j → c = mixN y 2 % p)) (fun _ i _ => 3 - (intOf i).toNat)
  case atStart => exact ⟨rfl, 0, .inl ⟨rfl, rfl⟩, HB2.out, HBX.out, HBT.out, 0, 0, 0, HBQ.out, fun h => absurd h (by omega), fun h => absurd h (by omega), fun h => absurd h (by omega)⟩
  case round =>
    obtain ⟨rfl, j, hj, hbel, hx, ht, a, b, c, hq, ha, hb, hc⟩ := hrel
    have HB := Lib.hid hbel
    have HX := Lib.hid hx
    have HTB := Lib.hid ht
    have HQ := Lib.hid hq
    have HA := Lib.hid ha
    have HBB := Lib.hid hb
    have HC := Lib.hid hc
    obtain ⟨q0, q1, q2⟩ := hq.cells
    obtain ⟨z0, z1, z2⟩ := hq.free
    clear hbel hx ht hq ha hb hc c0 c1 c2 c3 c4
    rcases hj with ⟨rfl, rfl⟩ | ⟨rfl, rfl⟩ | ⟨rfl, rfl⟩ | ⟨rfl, rfl⟩
    · go_wp2_with fail
      refine (Below_in y 0 1048576 (by decide) (by decide)).mono ?_
      rintro e w3 ⟨rfl, rfl⟩
      go_wp2
      go_roundw
      case rel =>
        refine ⟨rfl, 1, .inr (.inl ⟨rfl, rfl⟩), HB.out.setCell (p := ⟨w.heap.size + 1 + 1, 0, none⟩) (by show _ ≤ w.heap.size + 1 + 1; omega) _, HX.out.set (by omega), HTB.out.set (by omega), _, b, c, HQ.out.set0 _, fun _ => rfl, fun h => absurd h (by omega), fun h => absurd h (by omega)⟩
      case measure => simp [intOf]
    · go_wp2_with fail
      refine (HB1.out _).mono ?_
      rintro e w3 ⟨rfl, rfl⟩
      go_wp2
      go_roundw
      case rel =>
        refine ⟨rfl, 2, .inr (.inr (.inl ⟨rfl, rfl⟩)), HB.out.setCell (p := ⟨w.heap.size + 1 + 1, 1, none⟩) (by show _ ≤ w.heap.size + 1 + 1; omega) _, HX.out.set (by omega), HTB.out.set (by omega), a, _, c, HQ.out.set1 _, fun _ => HA.out (by omega), fun _ => rfl, fun h => absurd h (by omega)⟩
      case measure => simp [intOf]
    · go_wp2_with fail
      refine (Below_in y 2 p (by omega) (by omega)).mono ?_
      rintro e w3 ⟨rfl, rfl⟩
      go_wp2
      go_roundw
      case rel =>
        refine ⟨rfl, 3, .inr (.inr (.inr ⟨rfl, rfl⟩)), HB.out.setCell (p := ⟨w.heap.size + 1 + 1, 2, none⟩) (by show _ ≤ w.heap.size + 1 + 1; omega) _, HX.out.set (by omega), HTB.out.set (by omega), a, b, _, HQ.out.set2 _, fun _ => HA.out (by omega), fun _ => HBB.out (by omega), fun _ => rfl⟩
      case measure => simp [intOf]
    · have ha : a < 1048576 := by rw [HA.out (by omega)]; exact Nat.mod_lt _ (by decide)
      have hb : b < 1000 := by rw [HBB.out (by omega)]; exact Nat.lt_of_lt_of_le (Nat.mod_lt _ (by omega)) (by omega)
      have hc : c < 1000 := by rw [HC.out (by omega)]; exact Nat.lt_of_lt_of_le (Nat.mod_lt _ (by omega)) (by omega)
      obtain ⟨d0, d1⟩ := dgOf_bd (a : Int)
      obtain ⟨D, hD⟩ : ∃ D : Nat, dgOf (a : Int) = D := ⟨(dgOf (a : Int)).toNat, by omega⟩
      have hres : tripV (trD l y : Nat) (trS p y : Nat) (trA p y : Nat) = tripV (min D l : Nat) ((1 + b : Nat) : Int) (c : Int) := by
        unfold trD trS trA
        rw [← HA.out (by omega), ← HBB.out (by omega), ← HC.out (by omega), hD]
        rfl
      have HRES := Lib.hid hres
      have HD := Lib.hid hD
      have HTT := Lib.hid (PairsAt.mono HT.out HB.out)
      rw [hD] at d0 d1
      obtain ⟨c0, c1, c2, c3, c4⟩ := HX.out.cells
      obtain ⟨t0, t1, t2⟩ := HTB.out.cells
      obtain ⟨y0, y1, y2⟩ := HTB.out.free
      clear hres hD
      go_wp2_with fail
      refine (DgOf_in _ (by omega) (by omega) HTT.out).mono ?_
      rintro e w3 ⟨rfl, rfl⟩
      rw [HD.out]
      rcases Nat.le_total D l with hm | hm
      · have hmi : (D : Int) ≤ (l : Int) := by omega
        go_wp2
        refine bodyPost_ret (results_row2 rfl _ _ (w.heap.size + 1) 145 _ (0, 0) _ rfl (HTB.out.done _ _ _) Tryz.underlying145 rfl (by kernel_rfl)) rfl ?_
        refine ⟨?_, TripBox.below HB.out (by omega) _ _ _⟩
        rw [HRES.out, Nat.min_eq_left hm]
        rfl
      · rcases Nat.lt_or_ge l D with hlt | hge
        · have hmi : ¬ (D : Int) ≤ (l : Int) := by omega
          have hmj : ¬ D ≤ l := by omega
          go_wp2
          refine bodyPost_ret (results_row2 rfl _ _ (w.heap.size + 1) 145 _ (0, 0) _ rfl (HTB.out.done _ _ _) Tryz.underlying145 rfl (by kernel_rfl)) rfl ?_
          refine ⟨?_, TripBox.below HB.out (by omega) _ _ _⟩
          rw [HRES.out, Nat.min_eq_right hm]
          rfl
        · obtain rfl : D = l := by omega
          go_wp2
          refine bodyPost_ret (results_row2 rfl _ _ (w.heap.size + 1) 145 _ (0, 0) _ rfl (HTB.out.done _ _ _) Tryz.underlying145 rfl (by kernel_rfl)) rfl ?_
          refine ⟨?_, TripBox.below HB.out (by omega) _ _ _⟩
          rw [HRES.out, Nat.min_self]
          rfl
end Go.Proofs.YtkhdjjcflbdegaaGreatDoor
end
