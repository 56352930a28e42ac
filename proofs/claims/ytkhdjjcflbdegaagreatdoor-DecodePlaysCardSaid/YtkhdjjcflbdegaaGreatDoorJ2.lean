import Derived.Test.YtkhdjjcflbdegaaGreatDoorJ1
import Derived.Test.YtkhdjjcflbdegaaGreatDoorH1
import Derived.Test.YtkhdjjcflbdegaaGreatDoorG27
import Derived.Deep.Cut
import Derived.Deep.CutBlock
import Derived.Deep.DeepMust
import Derived.Deep.CutRange
import Derived.Deep.DeepCutAuto
import Derived.Test.YtkhdjjcflbdegaaGreatDoorG28
import Derived.Test.YtkhdjjcflbdegaaGreatDoorH2
import Derived.Test.YtkhdjjcflbdegaaGreatDoorG31
import Derived.Test.YtkhdjjcflbdegaaGreatDoorG35
import Derived.Test.YtkhdjjcflbdegaaGreatDoorG36
import Derived.Deep.RegionHeld3

section
/- Package geyserref13: put: an equation comes. -/
namespace Go.Proofs.YtkhdjjcflbdegaaGreatDoor
open Go.RowKit Go.Extern.Stop Go.Stop Go.Extern

/-- The document's decoder. -/
abbrev rDC (k s h l p sd size : Int) (v : Value) (c : Bool) : Array Value := #[.int .i64 k, .int .i64 s, .int .i64 h, .int .i64 l, .int .i64 p, .int .i64 sd, .int .i64 size, v, .bool c]
def RDBox (W : World) (g : Nat) (k s h l p sd size : Int) (v : Value) (c : Bool) : Prop :=
  W.heap[g]? = some (.cells #[.int .i64 k, .int .i64 s, .int .i64 h, .int .i64 l, .int .i64 p, .int .i64 sd, .int .i64 size, v, .bool c] 35 (0, 0))
section
variable {W W' : World} {g B : Nat} {k s h l p sd size : Int} {v : Value} {c : Bool}
theorem RDBox.lt (b : RDBox W g k s h l p sd size v c) : g < W.heap.size := (Array.getElem?_eq_some_iff.1 b).1
theorem RDBox.mono (b : RDBox W g k s h l p sd size v c) (hb : Below W.heap.size W W') : RDBox W' g k s h l p sd size v c := (hb.block g b.lt).trans b
theorem RDBox.keep (b : RDBox W g k s h l p sd size v c) (hb : Below B W W') (hg : g < B) : RDBox W' g k s h l p sd size v c := (hb.block g hg).trans b
theorem RDBox.cells (b : RDBox W g k s h l p sd size v c) :
    W.cell? ⟨g, 0, none⟩ = some (.int .i64 k) ∧ W.cell? ⟨g, 1, none⟩ = some (.int .i64 s) ∧ W.cell? ⟨g, 2, none⟩ = some (.int .i64 h) ∧ W.cell? ⟨g, 3, none⟩ = some (.int .i64 l) ∧ W.cell? ⟨g, 4, none⟩ = some (.int .i64 p) ∧
      W.cell? ⟨g, 5, none⟩ = some (.int .i64 sd) ∧ W.cell? ⟨g, 6, none⟩ = some (.int .i64 size) ∧ W.cell? ⟨g, 7, none⟩ = some v ∧ W.cell? ⟨g, 8, none⟩ = some (.bool c) :=
  ⟨cell_of_heap b rfl, cell_of_heap b rfl, cell_of_heap b rfl, cell_of_heap b rfl, cell_of_heap b rfl, cell_of_heap b rfl, cell_of_heap b rfl, cell_of_heap b rfl, cell_of_heap b rfl⟩
theorem RDBox.free (b : RDBox W g k s h l p sd size v c) (j : Nat) : W.frozen? ⟨g, j, none⟩ = false := frozen_of_heap b
theorem RDBox.list (b : RDBox W g k s h l p sd size v c) (u : Value) : RDBox (W.setCell ⟨g, 7, none⟩ u) g k s h l p sd size u c := heap_setCell_at (j := 7) (u := u) b
theorem RDBox.clash (b : RDBox W g k s h l p sd size v c) (u : Bool) : RDBox (W.setCell ⟨g, 8, none⟩ (.bool u)) g k s h l p sd size v u := heap_setCell_at (j := 8) (u := .bool u) b
theorem RDBox.far {h' : Nat} (b : RDBox W g k s h l p sd size v c) (hne : g ≠ h') (j : Nat) (u : Value) : RDBox (W.setCell ⟨h', j, none⟩ u) g k s h l p sd size v c := (Below.heap_setCell _ _ _ _ hne).trans b
end
/-- All nine cells are stored. -/
abbrev rdSet (W : World) (g : Nat) (a0 a1 a2 a3 a4 a5 a6 a7 a8 : Value) : World :=
  ((((((((W.setCell ⟨g, 0, none⟩ a0).setCell ⟨g, 1, none⟩ a1).setCell ⟨g, 2, none⟩ a2).setCell ⟨g, 3, none⟩ a3).setCell ⟨g, 4, none⟩ a4).setCell ⟨g, 5, none⟩ a5).setCell ⟨g, 6, none⟩ a6).setCell ⟨g, 7, none⟩ a7).setCell ⟨g, 8, none⟩ a8
theorem rd_store9 {W : World} {g : Nat} {b0 b1 b2 b3 b4 b5 b6 b7 b8 : Value} {T : TypeId} (b : W.heap[g]? = some (.cells #[b0,b1,b2,b3,b4,b5,b6,b7,b8] T (0,0))) (a0 a1 a2 a3 a4 a5 a6 a7 a8 : Value) :
    (rdSet W g a0 a1 a2 a3 a4 a5 a6 a7 a8).heap[g]? = some (.cells #[a0, a1, a2, a3, a4, a5, a6, a7, a8] T (0, 0)) := by
  unfold rdSet
  have h0 : (W.setCell ⟨g, 0, none⟩ a0).heap[g]? = some (.cells #[a0,b1,b2,b3,b4,b5,b6,b7,b8] T (0,0)) := heap_setCell_at (j := 0) (u := a0) b
  have h1 : ((W.setCell ⟨g, 0, none⟩ a0).setCell ⟨g, 1, none⟩ a1).heap[g]? = some (.cells #[a0,a1,b2,b3,b4,b5,b6,b7,b8] T (0,0)) := heap_setCell_at (j := 1) (u := a1) h0
  have h2 : (((W.setCell ⟨g, 0, none⟩ a0).setCell ⟨g, 1, none⟩ a1).setCell ⟨g, 2, none⟩ a2).heap[g]? = some (.cells #[a0,a1,a2,b3,b4,b5,b6,b7,b8] T (0,0)) := heap_setCell_at (j := 2) (u := a2) h1
  have h3 : ((((W.setCell ⟨g, 0, none⟩ a0).setCell ⟨g, 1, none⟩ a1).setCell ⟨g, 2, none⟩ a2).setCell ⟨g, 3, none⟩ a3).heap[g]? = some (.cells #[a0,a1,a2,a3,b4,b5,b6,b7,b8] T (0,0)) := heap_setCell_at (j := 3) (u := a3) h2
  generalize ((((W.setCell ⟨g, 0, none⟩ a0).setCell ⟨g, 1, none⟩ a1).setCell ⟨g, 2, none⟩ a2).setCell ⟨g, 3, none⟩ a3) = W3 at *
  have h4 : (W3.setCell ⟨g, 4, none⟩ a4).heap[g]? = some (.cells #[a0,a1,a2,a3,a4,b5,b6,b7,b8] T (0,0)) := heap_setCell_at (j := 4) (u := a4) h3
  have h5 : ((W3.setCell ⟨g, 4, none⟩ a4).setCell ⟨g, 5, none⟩ a5).heap[g]? = some (.cells #[a0,a1,a2,a3,a4,a5,b6,b7,b8] T (0,0)) := heap_setCell_at (j := 5) (u := a5) h4
  have h6 : (((W3.setCell ⟨g, 4, none⟩ a4).setCell ⟨g, 5, none⟩ a5).setCell ⟨g, 6, none⟩ a6).heap[g]? = some (.cells #[a0,a1,a2,a3,a4,a5,a6,b7,b8] T (0,0)) := heap_setCell_at (j := 6) (u := a6) h5
  generalize (((W3.setCell ⟨g, 4, none⟩ a4).setCell ⟨g, 5, none⟩ a5).setCell ⟨g, 6, none⟩ a6) = W6 at *
  have h7 : (W6.setCell ⟨g, 7, none⟩ a7).heap[g]? = some (.cells #[a0,a1,a2,a3,a4,a5,a6,a7,b8] T (0,0)) := heap_setCell_at (j := 7) (u := a7) h6
  exact heap_setCell_at (j := 8) (u := a8) h7
section
variable {w W : World} {g B : Nat} {k s h l p sd size : Int} {v : Value} {c : Bool}
theorem RDBox.store (b : RDBox W g k s h l p sd size v c) (a0 a1 a2 a3 a4 a5 a6 a7 a8 : Value) :
    (rdSet W g a0 a1 a2 a3 a4 a5 a6 a7 a8).heap[g]? = some (.cells #[a0, a1, a2, a3, a4, a5, a6, a7, a8] 35 (0, 0)) := rd_store9 b a0 a1 a2 a3 a4 a5 a6 a7 a8
theorem rd_below (hb : Below B w W) (hg : B ≤ g) (a0 a1 a2 a3 a4 a5 a6 a7 a8 : Value) : Below B w (rdSet W g a0 a1 a2 a3 a4 a5 a6 a7 a8) :=
  ((((((((hb.setCell (p := ⟨g, 0, none⟩) hg _).setCell (p := ⟨g, 1, none⟩) hg _).setCell (p := ⟨g, 2, none⟩) hg _).setCell (p := ⟨g, 3, none⟩) hg _).setCell (p := ⟨g, 4, none⟩) hg _).setCell (p := ⟨g, 5, none⟩) hg _).setCell (p := ⟨g, 6, none⟩) hg _).setCell (p := ⟨g, 7, none⟩) hg _).setCell (p := ⟨g, 8, none⟩) hg _
theorem rd_only (a0 a1 a2 a3 a4 a5 a6 a7 a8 : Value) : ∀ x, x ≠ g → (rdSet W g a0 a1 a2 a3 a4 a5 a6 a7 a8).heap[x]? = W.heap[x]? := fun x hx => by
  unfold rdSet
  repeat rw [Below.heap_setCell _ _ _ _ hx]
end
/-- A call's two boxes: its decoder, its result. -/
theorem rd_laid (w : World) (k s h l p sd size : Int) (v : Value) (c : Bool) : ∃ W, W = (w.alloc (.cells #[.int .i64 k, .int .i64 s, .int .i64 h, .int .i64 l, .int .i64 p, .int .i64 sd, .int .i64 size, v, .bool c] 35)).alloc (.cells #[.int .i64 0, .int .i64 0, .int .i64 0, .int .i64 0, .int .i64 0, .int .i64 0, .int .i64 0, nilS, .bool false] 35) ∧
    Below w.heap.size w W ∧ W.heap.size = w.heap.size + 1 + 1 ∧ RDBox W w.heap.size k s h l p sd size v c ∧ RDBox W (w.heap.size + 1) 0 0 0 0 0 0 0 nilS false := by
  have z1 : (w.alloc (.cells #[.int .i64 k, .int .i64 s, .int .i64 h, .int .i64 l, .int .i64 p, .int .i64 sd, .int .i64 size, v, .bool c] 35)).heap.size = w.heap.size + 1 := World.size_alloc _ _
  have a1 : RDBox (w.alloc (.cells #[.int .i64 k, .int .i64 s, .int .i64 h, .int .i64 l, .int .i64 p, .int .i64 sd, .int .i64 size, v, .bool c] 35)) w.heap.size k s h l p sd size v c := heap_alloc_new w _
  have a2 := heap_alloc_new (w.alloc (.cells #[.int .i64 k, .int .i64 s, .int .i64 h, .int .i64 l, .int .i64 p, .int .i64 sd, .int .i64 size, v, .bool c] 35)) (.cells #[.int .i64 0, .int .i64 0, .int .i64 0, .int .i64 0, .int .i64 0, .int .i64 0, .int .i64 0, nilS, .bool false] 35)
  rw [z1] at a2
  exact ⟨_, rfl, ((Below.refl _ _).alloc (Nat.le_refl _) _).alloc (by omega) _, by rw [World.size_alloc, z1], (Below.heap_alloc _ _ _ (by omega)).trans a1, a2⟩
theorem kq1_laid (w : World) (r s : Value) (ld : Int) : ∃ W, W = w.alloc (.cells #[r, s, .int .i64 ld] 140) ∧ Below w.heap.size w W ∧ KqBox W w.heap.size r s ld :=
  ⟨_, rfl, (Below.refl _ _).alloc (Nat.le_refl _) _, heap_alloc_new w _⟩

/-! ### what is left of an equation -/
theorem lineV_zero {R : List Bool} {S : List Nat} (hr : ∀ d, d < R.length → R.getD d false = false) (hs : ∀ j, S.getD j 0 = 0) : lineV R S = vzero := funext fun c => by
  by_cases h1 : c < R.length
  · rw [lineV_row h1, hr c h1]; rfl
  · by_cases h2 : c < R.length + 8 * S.length
    · obtain ⟨i, b, hi, hb, rfl⟩ : ∃ i b, i < S.length ∧ b < 8 ∧ c = R.length + 8 * i + b := ⟨(c - R.length) / 8, (c - R.length) % 8, by omega, by omega, by omega⟩
      rw [lineV_sym rfl hi hb, hs i]
      simp [vzero]
    · rw [lineV_out (by omega)]; rfl
theorem lineV_ne {R : List Bool} {S : List Nat} {j : Nat} (ho : Octets S) (hj : S.getD j 0 ≠ 0) : lineV R S ≠ vzero := fun e => by
  have h1 := symV_line (n := R.length) (r := R) rfl ho
  rw [e] at h1
  have hj2 : j < S.length := by
    by_cases h : j < S.length
    · exact h
    · rw [List.getD_eq_getElem?_getD, List.getElem?_eq_none (by omega)] at hj
      exact absurd rfl hj
  have h2 : (symV R.length S.length vzero).getD j 0 = 0 := by
    rw [symV_getD _ hj2, byteAt_byte (x := 0) (by decide) (fun b _ => by simp [vzero])]
  rw [h1] at h2
  exact hj h2
theorem lineV_lead {R : List Bool} {S : List Nat} {c : Nat} (hc : c < R.length) (h1 : R.getD c false = true) (h2 : ∀ d, d < c → R.getD d false = false) : Lead (lineV R S) c :=
  ⟨by rw [lineV_row hc]; exact h1, fun d hd => by rw [lineV_row (by omega)]; exact h2 d hd⟩
theorem zeroB_yes {y : List Nat} (h : zeroB y = true) : ∀ j, y.getD j 0 = 0 := fun j => by
  by_cases hj : j < y.length
  · have := List.all_eq_true.1 h _ (List.getElem_mem hj)
    rw [List.getD_eq_getElem?_getD, List.getElem?_eq_getElem hj]
    simpa using this
  · simp [List.getD_eq_getElem?_getD, Nat.not_lt.1 hj]
theorem zeroB_no {y : List Nat} (h : zeroB y = false) : ∃ j, y.getD j 0 ≠ 0 := by
  apply Classical.byContradiction
  intro hno
  have : zeroB y = true := by
    unfold zeroB
    rw [List.all_eq_true]
    intro z hz
    obtain ⟨j, hj, rfl⟩ := List.getElem_of_mem hz
    have h1 : ¬ y.getD j 0 ≠ 0 := fun h => hno ⟨j, h⟩
    rw [List.getD_eq_getElem?_getD, List.getElem?_eq_getElem hj] at h1
    simpa using h1
  rw [this] at h
  cases h
theorem lineV_rowT {l : Nat} {P y : List Nat} (hP : ∀ c ∈ P, c < l) : lineV (rowT l P P.length) y = eqL l P y :=
  lineV_eq (rowT_length _ _ _) hP fun c hc => by rw [rowT_all, range_getD, if_pos hc]
theorem KqOk.snoc {n size : Nat} {L : List Kq} {e : Vec} {R : List Bool} {S : List Nat} {c : Nat} (h : KqOk n size L) (hR : R.length = n) (hS : S.length = size ∧ Octets S) (hl : lineV R S = lessV (L.map kqV) e) (hc : c < n) (hd : Lead (lineV R S) c) :
    KqOk n size (L ++ [((R, S), c)]) ∧ SpEq (vecsK ((L ++ [((R, S), c)]).map kqV)) (vecsK (L.map kqV) ++ [e]) := by
  have hm : (L ++ [((R, S), c)]).map kqV = L.map kqV ++ [(lessV (L.map kqV) e, c)] := by
    rw [List.map_append, List.map_singleton]
    show _ ++ [(lineV R S, c)] = _
    rw [hl]
  refine ⟨⟨fun j hj => ?_, ?_⟩, ?_⟩
  · rw [getD_snoc]
    by_cases h1 : j < L.length
    · rw [if_pos h1]; exact h.row j h1
    · have e1 : j = L.length := by simp at hj; omega
      rw [if_neg h1, if_pos e1]; exact ⟨hR, hS⟩
  · rw [hm]
    rw [hl] at hd
    exact h.kept.snoc hc hd
  · rw [hm]
    exact span_less _ _ _

/-- What is left of the equation, in a block of its own. -/
def LeftE (base : Nat) (A : Nat → Prop) (w0 : World) (l size : Nat) (X : Vec) (p : Value) (wx : World) : Prop :=
  ∃ (ge : Nat) (r s : Value) (R : List Bool) (S : List Nat) (z : Int), p = .pointer (some ⟨ge, 0, none⟩) ∧ KqBox wx ge r s z ∧ ElM boolV 4 base A wx r R ∧ ElM byteV 5 base A wx s S ∧ R.length = l ∧ (S.length = size ∧ Octets S) ∧ lineV R S = X ∧ LeadB R z ∧ Below w0.heap.size w0 wx
theorem leftE_new {base : Nat} {A : Nat → Prop} {w0 w2 : World} {l size : Nat} {X : Vec} {r s : Value} {R : List Bool} {S : List Nat} {z : Int} (h1 : ElM boolV 4 base A w2 r R) (h2 : ElM byteV 5 base A w2 s S) (h3 : R.length = l) (h4 : S.length = size ∧ Octets S) (h5 : lineV R S = X) (h6 : LeadB R z) (hB : Below w0.heap.size w0 w2) :
    LeftE base A w0 l size X (.pointer (some ⟨w2.heap.size, 0, none⟩)) (w2.alloc (.cells #[r, s, .int .i64 z] 140)) :=
  have hb : Below w2.heap.size w2 (w2.alloc (.cells #[r, s, .int .i64 z] 140)) := (Below.refl _ _).alloc (Nat.le_refl _) _
  ⟨_, r, s, R, S, z, rfl, heap_alloc_new w2 _, h1.mono hb, h2.mono hb, h3, h4, h5, h6, hB.alloc hB.size _⟩
theorem leftE_set {base ge : Nat} {A : Nat → Prop} {w0 w2 : World} {l size : Nat} {X : Vec} {r s : Value} {R : List Bool} {S : List Nat} {z : Int} (hx : KqBox w2 ge nilS nilS 0) (hge : w0.heap.size ≤ ge) (hb : base ≤ w0.heap.size) (h1 : ElM boolV 4 base A w2 r R) (h2 : ElM byteV 5 base A w2 s S) (h3 : R.length = l) (h4 : S.length = size ∧ Octets S) (h5 : lineV R S = X) (h6 : LeadB R z) (hB : Below w0.heap.size w0 w2) :
    LeftE base A w0 l size X (.pointer (some ⟨ge, 0, none⟩)) (((w2.setCell ⟨ge, 0, none⟩ r).setCell ⟨ge, 1, none⟩ s).setCell ⟨ge, 2, none⟩ (.int .i64 z)) := by
  have hon : ∀ x, x ≠ ge → x ≠ ge → (((w2.setCell ⟨ge, 0, none⟩ r).setCell ⟨ge, 1, none⟩ s).setCell ⟨ge, 2, none⟩ (.int .i64 z)).heap[x]? = w2.heap[x]? := fun x h _ => by
    rw [Below.heap_setCell _ _ _ _ h, Below.heap_setCell _ _ _ _ h, Below.heap_setCell _ _ _ _ h]
  exact ⟨_, r, s, R, S, z, rfl, hx.store _ _ _, h1.only hx hx (by omega) (by omega) (by decide) hon, h2.only hx hx (by omega) (by omega) (by decide) hon, h3, h4, h5, h6,
    ((hB.setCell (p := ⟨ge, 0, none⟩) hge _).setCell (p := ⟨ge, 1, none⟩) hge _).setCell (p := ⟨ge, 2, none⟩) hge _⟩

/-- What put says. -/
def PutSays (base : Nat) (A : Nat → Prop) (w : World) (k s h l p sd size : Nat) (L : List Kq) (e : Vec) (o : Ending) (w' : World) : Prop :=
  ∃ (v' : Value) (L' : List Kq), o = .returned (.tuple #[.agg #[.int .i64 (k : Int), .int .i64 (s : Int), .int .i64 (h : Int), .int .i64 (l : Int), .int .i64 (p : Int), .int .i64 (sd : Int), .int .i64 (size : Int), v', .bool (decide (kindV l (vecsK (L.map kqV)) e = 3))], .int .i64 (kindV l (vecsK (L.map kqV)) e : Nat)]) ∧
    KqsOwn base base A w' v' L' ∧ KqOk l size L' ∧ SpEq (vecsK (L'.map kqV)) (addV l (vecsK (L.map kqV)) e) ∧ Below w.heap.size w w'

set_option maxRecDepth 1000000 in
set_option maxHeartbeats 8000000 in
theorem rPut_any {w : World} (base : Nat) (A : Nat → Prop) (hA : ∀ g, w.heap.size ≤ g → A g) (hbase : base ≤ w.heap.size) (k s h l p sd size : Nat) (vL vp vs : Value) (L : List Kq) (P y : List Nat) (hL : KqsOwn base base A w vL L) (hok : KqOk l size L) (hP : ListAt colV w vp P) (hPl : ∀ c ∈ P, c < l) (hy : ElM byteV 5 base A w vs y) (hyl : y.length = size ∧ Octets y) (hl : l ≤ 4096) (hz : size ≤ 64) :
    Calls Tryz.prog 40 #[.agg #[.int .i64 (k : Int), .int .i64 (s : Int), .int .i64 (h : Int), .int .i64 (l : Int), .int .i64 (p : Int), .int .i64 (sd : Int), .int .i64 (size : Int), vL, .bool false], vp, vs] w (PutSays base A w k s h l p sd size L (eqL l P y)) := by
  obtain ⟨i0, hi, hz0, hz1, hz2⟩ := info_parts info_keq
  obtain ⟨w0, hw0, hb0, hs0, hx0, hx1⟩ := rd_laid w k s h l p sd size vL false
  have HW0 := Lib.hid hw0
  have HB0 := Lib.hid hb0
  have HS0 := Lib.hid hs0
  have HX0 := Lib.hid hx0
  have HX1 := Lib.hid hx1
  have HA := Lib.hid hA
  have HBASE := Lib.hid hbase
  have HOK := Lib.hid hok
  have HL := Lib.hid hL
  have HLE := Lib.hid (lineV_rowT (y := y) hPl)
  have hbd : Below w0.heap.size w0 w0.drew := (Below.refl _ _).drew
  have HBD := Lib.hid hbd
  have HSAT : Hid (∀ Z, Below w0.heap.size w0 Z → Z.cell? ⟨w.heap.size, 3, none⟩ = some (.int .i64 (l : Int)) ∧ Z.cell? ⟨w.heap.size, 7, none⟩ = some vL) := Lib.hid fun Z hZ => ⟨(hx0.mono hZ).cells.2.2.2.1, (hx0.mono hZ).cells.2.2.2.2.2.2.2.1⟩
  have HSD0 := Lib.hid (HSAT.out _ hbd)
  have HTR : Hid (∀ Z, Below w0.heap.size w0 Z → Calls Tryz.prog 77 #[vp, .int .i64 (l : Int)] Z fun e w' => ∃ v', e = .returned v' ∧ w'.ownsRow w0.heap.size 4 1 v' l ((rowT l P P.length).map boolV) ∧ Below Z.heap.size Z w') := Lib.hid fun Z hZ => by
    refine (rTruths_any vp P l ((hP.mono hb0).mono hZ) hPl hl).mono ?_
    rintro e w' ⟨v', rfl, h1, h2⟩
    exact ⟨v', rfl, ownsRow_base h1 hZ.size, h2⟩
  have HLS : Hid (∀ W x, Below w0.heap.size w0 W → W.ownsRow w0.heap.size 4 1 x l ((rowT l P P.length).map boolV) → Calls Tryz.prog 76 #[vL, .agg #[x, vs, .int .i64 0]] W fun e w' => ∃ (r' s' : Value) (R' : List Bool) (S' : List Nat) (z : Int), e = .returned (.agg #[r', s', .int .i64 z]) ∧ ElM boolV 4 base A w' r' R' ∧ ElM byteV 5 base A w' s' S' ∧ R'.length = l ∧ (S'.length = size ∧ Octets S') ∧ lineV R' S' = lessV (L.map kqV) (eqL l P y) ∧ LeadB R' z ∧ Below W.heap.size W w') := Lib.hid fun W x hW hx => by
    have hwW : Below w.heap.size w W := hb0.trans (hW.mono hb0.size)
    have := rLess_any (w := W) base A (fun g hg => hA g (Nat.le_trans hwW.size hg)) (Nat.le_trans hbase hwW.size) vL x vs L (rowT l P P.length) y l size 0 (hL.at.mono hwW) hok (ElM.own hx fun b hb => hA b (Nat.le_trans hb0.size hb)) (hy.mono hwW) (rowT_length _ _ _) hyl hl hz
    rwa [lineV_rowT hPl] at this
  have hLl := hok.len
  obtain ⟨aL, cL, rfl, -, -, -⟩ := id hL.at
  obtain ⟨ap, cp, rfl, -, -, -⟩ := hP
  obtain ⟨asy, csy, rfl, -, -, -⟩ := hy.1
  have HLL := Lib.hid hLl
  clear hw0 hb0 hs0 hx0 hx1 hA hbase hok hL hbd hPl hy hyl hLl
  unfold PutSays
  generalize eqL l P y = E at *
  go_enter Tryz.func40, Tryz.ntmps40
  go_upto_region 1 with fail
  rw [← HW0.out]
  obtain ⟨wa, hwa, hba, hxa⟩ := kq1_laid w0 nilS nilS 0
  have HWA := Lib.hid hwa
  have HBXA := Lib.hid hxa
  have HBDA : Hid (Below w0.heap.size w0 (w0.alloc (.cells #[nilS, nilS, .int .i64 0] 140)).drew) := Lib.hid (by rw [← hwa]; exact hba.drew)
  have HSDA := Lib.hid (HSAT.out _ HBDA.out)
  have HNE0 : Hid (∀ i j, (⟨w0.heap.size, i, none⟩ : Addr) ≠ ⟨w.heap.size, j, none⟩) := Lib.hid fun i j e => by have h1 := congrArg Addr.block e; have h2 := HS0.out; simp at h1; omega
  clear hwa hba hxa
  go_cut [8] from 10 to 19 (fun p wx => LeftE base A w0 l size (lessV (L.map kqV) E) p wx)
  case first =>
    go_region_held3 (fun w' => w'.cell? ⟨w.heap.size, 3, none⟩ = some (.int .i64 (l : Int)) ∧ w'.cell? ⟨w.heap.size, 7, none⟩ = some (.slice aL L.length cL))
      (first | (with_reducible exact HSD0.out) | (with_reducible exact HSDA.out) | (with_reducible exact HSAT.out _ HB2.out) | (with_reducible exact HSAT.out _ HB1.out) | (with_reducible exact HSAT.out _ (HB1.out.alloc HB1.out.size _)) | (with_reducible exact HSAT.out _ (HB2.out.alloc HB2.out.size _)) | (refine ⟨?_, ?_⟩ <;> (repeat (with_reducible rw [World.cell?_setCell_other _ _ _ _ (HNE2.out _ _)])) <;> (first | (with_reducible exact (HSAT.out _ HB2.out).1) | (with_reducible exact (HSAT.out _ HB2.out).2))) | go_keep)
      (first
      | (go_at_call 77; (with_reducible refine (HTR.out _ HBD.out).mono ?_); rintro e w1 ⟨v1, rfl, ho1, hb1⟩; have HB1 := Lib.hid (HBD.out.trans (hb1.mono HBD.out.size)); have HO1 := Lib.hid ho1; obtain ⟨a1, q1, rfl, -, -⟩ := own_open ho1; clear ho1 hb1)
      | (go_at_call 77; (with_reducible refine (HTR.out _ HBDA.out).mono ?_); rintro e w1 ⟨v1, rfl, ho1, hb1⟩; have HB1 := Lib.hid (HBDA.out.trans (hb1.mono HBDA.out.size)); have HO1 := Lib.hid ho1; have HX1A := Lib.hid ((HWA.out ▸ HBXA.out : KqBox (w0.alloc (.cells #[nilS, nilS, .int .i64 0] 140)) w0.heap.size nilS nilS 0).mono ((Below.refl _ _).drew.trans hb1)); obtain ⟨a1, q1, rfl, -, -⟩ := own_open ho1; clear ho1 hb1)
      | (go_at_call 76; (with_reducible refine (HLS.out _ _ HB1.out HO1.out).mono ?_); rintro e w2 ⟨r2, s2, R2, S2, z2, rfl, he1, he2, hr2, hs2, hl2, hz2, hb2⟩; have hx2 := HX1A.out.mono hb2; have HX2 := Lib.hid hx2; obtain ⟨q0, q1, q2⟩ := hx2.cells; obtain ⟨f0, f1, f2⟩ := hx2.free; have HNE2 := HNE0; have HGE := Lib.hid (Nat.le_refl w0.heap.size); have HB2 := Lib.hid (HB1.out.trans (hb2.mono HB1.out.size)); have HE2 := Lib.hid (show ElM boolV 4 base A w2 r2 R2 ∧ ElM byteV 5 base A w2 s2 S2 ∧ R2.length = l ∧ (S2.length = size ∧ Octets S2) ∧ lineV R2 S2 = lessV (L.map kqV) E ∧ LeadB R2 z2 from ⟨he1, he2, hr2, hs2, hl2, hz2⟩); obtain ⟨ar2, cr2, rfl, -, -, -⟩ := he1.1; obtain ⟨as2, cs2, rfl, -, -, -⟩ := he2.1; clear he1 he2 hr2 hs2 hl2 hz2 hb2 hx2)
      | (go_at_call 76; (with_reducible refine (HLS.out _ _ HB1.out HO1.out).mono ?_); rintro e w2 ⟨r2, s2, R2, S2, z2, rfl, he1, he2, hr2, hs2, hl2, hz2, hb2⟩; have HB2 := Lib.hid (HB1.out.trans (hb2.mono HB1.out.size)); have HE2 := Lib.hid (show ElM boolV 4 base A w2 r2 R2 ∧ ElM byteV 5 base A w2 s2 S2 ∧ R2.length = l ∧ (S2.length = size ∧ Octets S2) ∧ lineV R2 S2 = lessV (L.map kqV) E ∧ LeadB R2 z2 from ⟨he1, he2, hr2, hs2, hl2, hz2⟩); obtain ⟨ar2, cr2, rfl, -, -, -⟩ := he1.1; obtain ⟨as2, cs2, rfl, -, -, -⟩ := he2.1; clear he1 he2 hr2 hs2 hl2 hz2 hb2)
      | (go_at_call 76; go_must ((with_reducible refine (HLS.out _ _ (HB1.out.alloc HB1.out.size _) (HO1.out.alloc _)).mono ?_); rintro e w2 ⟨r2, s2, R2, S2, z2, rfl, he1, he2, hr2, hs2, hl2, hz2, hb2⟩; have hx2 : KqBox w2 w1.heap.size nilS nilS 0 := (show KqBox (w1.alloc (.cells #[nilS, nilS, .int .i64 0] 140)) w1.heap.size nilS nilS 0 from heap_alloc_new w1 _).mono hb2; have HX2 := Lib.hid hx2; obtain ⟨q0, q1, q2⟩ := hx2.cells; obtain ⟨f0, f1, f2⟩ := hx2.free; have HGE := HB1.out.size; have HNE2 : Hid (∀ i j, (⟨w1.heap.size, i, none⟩ : Addr) ≠ ⟨w.heap.size, j, none⟩) := Lib.hid (fun i j e => by have h1 := congrArg Addr.block e; have h2 := HS0.out; have h3 := HB1.out.size; simp at h1; omega); have hb1a : Below w0.heap.size w0 (w1.alloc (.cells #[nilS, nilS, .int .i64 0] 140)) := HB1.out.alloc HB1.out.size _; have HB2 := Lib.hid (hb1a.trans (hb2.mono hb1a.size)); have HE2 := Lib.hid (show ElM boolV 4 base A w2 r2 R2 ∧ ElM byteV 5 base A w2 s2 S2 ∧ R2.length = l ∧ (S2.length = size ∧ Octets S2) ∧ lineV R2 S2 = lessV (L.map kqV) E ∧ LeadB R2 z2 from ⟨he1, he2, hr2, hs2, hl2, hz2⟩); obtain ⟨ar2, cr2, rfl, -, -, -⟩ := he1.1; obtain ⟨as2, cs2, rfl, -, -, -⟩ := he2.1; clear he1 he2 hr2 hs2 hl2 hz2 hb2 hx2 hb1a)))
    all_goals
      go_wp2
      go_meet
      case rel =>
        first
        | exact leftE_new HE2.out.1 HE2.out.2.1 HE2.out.2.2.1 HE2.out.2.2.2.1 HE2.out.2.2.2.2.1 HE2.out.2.2.2.2.2 HB2.out
        | exact leftE_set HX2.out (by have := HS0.out; first | exact HGE | exact HGE.out) (by have := HBASE.out; have := HB0.out.size; omega) HE2.out.1 HE2.out.2.1 HE2.out.2.2.1 HE2.out.2.2.2.1 HE2.out.2.2.2.2.1 HE2.out.2.2.2.2.2 HB2.out
  case rest =>
    obtain ⟨ge, r2, s2, R2, S2, z2, rfl, hx2, he1, he2, hr2, hs2, hlv, hld, hb2⟩ := hcut
    have HXD := Lib.hid (HX0.out.keep hb2 HX0.out.lt)
    have HXR := Lib.hid (HX1.out.keep hb2 HX1.out.lt)
    have HXE := Lib.hid hx2
    have HEE := Lib.hid (show ElM boolV 4 base A wc r2 R2 ∧ ElM byteV 5 base A wc s2 S2 from ⟨he1, he2⟩)
    have HRS := Lib.hid (show R2.length = l ∧ S2.length = size ∧ Octets S2 from ⟨hr2, hs2⟩)
    have HLV := Lib.hid hlv
    have HBW := Lib.hid (HB0.out.trans (hb2.mono HB0.out.size))
    have HLC := Lib.hid (HL.out.mono HBW.out)
    have HGD : Hid (w.heap.size + 1 + 1 ≤ wc.heap.size) := Lib.hid (by have := HS0.out; have := hb2.size; omega)
    have hgd := HGD.out
    have hgd0 : w.heap.size < wc.heap.size := by omega
    have hge0 : ge < wc.heap.size := HXE.out.lt
    have hB := HBASE.out
    obtain ⟨ar, cr, rfl, -, -, -⟩ := id he1.1
    obtain ⟨asx, csx, rfl, -, -, -⟩ := id he2.1
    rw [hr2, hs2.1] at HXE
    rw [hr2, hs2.1] at HEE
    obtain ⟨e0, e1, e2⟩ := HXE.out.cells
    have hLl := HLL.out
    clear hx2 he1 he2 hr2 hs2 hlv hb2 HBDA HSDA HBXA HWA HSAT HSD0 HTR HLS HBD HNE0
    rcases hld with ⟨c, rfl, hc, hb, hlow⟩ | ⟨rfl, hz2⟩
    · have HLD := Lib.hid (lineV_lead (S := S2) hc hb hlow)
      have HCL : Hid (c < l) := Lib.hid (by rw [← HRS.out.1]; exact hc)
      have HKD : Hid (kindV l (vecsK (L.map kqV)) E = 1) := Lib.hid (by
        have h1 := HLD.out
        rw [HLV.out] at h1
        exact HOK.out.kept.fresh HCL.out h1)
      have HSN := Lib.hid (HOK.out.snoc (e := E) HRS.out.1 HRS.out.2 HLV.out HCL.out HLD.out)
      have hc0 : (0 : Int) ≤ (c : Int) := by omega
      have HBA := Lib.hid ((Below.refl wc.heap.size wc).alloc (Nat.le_refl _) (.cells #[] 140))
      have HO1 := Lib.hid (World.ownsRow_made (base := wc.heap.size) (e := 140) (size := 3) wc #[] 0 (Nat.le_refl _) (by decide) rfl)
      obtain ⟨-, -, -, -, -, -, -, d7, -⟩ := HXD.out.cells
      clear hc hb hlow
      go_wp2_with (first
        | (at_builtin; refine wpList_append_kqs _ rfl (.tmp 23) (.tmp 25) 33 rfl wc.heap.size base i0 _ 56 Tryz.underlying33 hi hz0 hz1 hz2 rfl _ rfl HO1.out _ L rfl A base (HLC.out.mono HBA.out) (by unfold maxLen; omega) (by omega) (by omega) (by simp) ?_; intro v4 w4 ho4 hg4; have HB4 := Lib.hid (HBA.out.grown hg4 (by simp) (fun k hk => (HO1.out.lt k hk).1)); have HO4 := Lib.hid ho4; obtain ⟨x4, xc4, rfl, -, -, -⟩ := ho4.at; obtain ⟨q0, q1, q2⟩ := (HXE.out.mono HB4.out).cells; clear ho4 hg4 e0 e1 e2 d7)
        | (at_builtin; obtain ⟨hob, cs5, hcs, hel⟩ := HO4.out; refine wpList_append_own _ rfl (.tmp 27) (.tmp 29) 33 rfl wc.heap.size 140 i0 _ 3 56 Tryz.underlying33 hi hz0 hz1 hz2 rfl (by decide) _ L.length cs5 rfl (hcs.alloc _) ⟨w4.heap.size, 0, none⟩ 1 1 [.slice ar l cr, .slice asx size csx, .int .i64 (c : Int)] rfl rfl (World.news_of_block (heap_alloc_new w4 _)) (fun x hx => by simp at hx; rcases hx with rfl | rfl | rfl <;> rfl) (by unfold maxLen; omega) (by omega) (by have := HB4.out.size; simp; omega) ?_; intro v5 w5 ho5 hg5 _; have HB5 := Lib.hid ((HB4.out.alloc HB4.out.size _).grown hg5 (by have := HB4.out.size; simp; omega) (fun k hk => (hcs.lt k hk).1)); have hE5 := KqsOwn.app (q := ((R2, S2), c)) hob hcs hel (HEE.out.1.mono HB4.out) (HEE.out.2.mono HB4.out) ho5 hg5; have HE5 := Lib.hid hE5; obtain ⟨x5, xc5, rfl, -, -, -⟩ := hE5.at; clear hE5; clear ho5 hg5 hcs hel hob; have hd5 := HXD.out.mono HB5.out; have HD5 := Lib.hid hd5; have hr5 := HXR.out.mono HB5.out; have HR5 := Lib.hid hr5; obtain ⟨d0, d1, d2, d3, d4, d5, d6, d7, d8⟩ := hd5.cells; have fd := hd5.free 7; obtain ⟨r0, r1, r2, r3, r4, r5, r6, r7, r8⟩ := hr5.cells; have f0 := hr5.free 0; have f1 := hr5.free 1; have f2 := hr5.free 2; have f3 := hr5.free 3; have f4 := hr5.free 4; have f5 := hr5.free 5; have f6 := hr5.free 6; have f7 := hr5.free 7; have f8 := hr5.free 8; clear hd5 hr5 q0 q1 q2)
        )
      have hlen : (L ++ [((R2, S2), c)]).length = L.length + 1 := by simp
      have hrb := (HR5.out.far (by omega) 7 (.slice x5 (L.length + 1) xc5) : RDBox (w5.setCell ⟨w.heap.size, 7, none⟩ (.slice x5 (L.length + 1) xc5)) (w.heap.size + 1) 0 0 0 0 0 0 0 nilS false)
      refine bodyPost_ret (results_row2 rfl _ _ (w.heap.size + 1) 35 _ (0, 0) _ rfl (hrb.store _ _ _ _ _ _ _ _ _) Tryz.underlying35 rfl (by kernel_rfl)) rfl ?_
      rw [HKD.out]
      have hE := HE5.out
      rw [hlen] at hE
      refine ⟨.slice x5 (L.length + 1) xc5, _, rfl, ((hE.low (Nat.le_refl _) (by omega)).only HD5.out hB (by decide) (fun x hx => Below.heap_setCell _ _ _ _ hx)).only hrb (by omega) (by decide) (rd_only _ _ _ _ _ _ _ _ _), HSN.out.1, ?_, rd_below ((HBW.out.trans (HB5.out.mono (by omega))).setCell (p := ⟨w.heap.size, 7, none⟩) (Nat.le_refl _) _) (Nat.le_succ _) _ _ _ _ _ _ _ _ _⟩
      unfold addV
      rw [HKD.out, if_neg (by decide)]
      exact HSN.out.2
    · have HZR := Lib.hid hz2
      have HZE := Lib.hid (refZero_any (w := wc) (.slice asx size csx) S2 HEE.out.2.1)
      obtain ⟨d0, d1, d2, d3, d4, d5, d6, d7, d8⟩ := HXD.out.cells
      obtain ⟨r0, r1, r2, r3, r4, r5, r6, r7, r8⟩ := HXR.out.cells
      have fd := HXD.out.free 8
      have f0 := HXR.out.free 0
      have f1 := HXR.out.free 1
      have f2 := HXR.out.free 2
      have f3 := HXR.out.free 3
      have f4 := HXR.out.free 4
      have f5 := HXR.out.free 5
      have f6 := HXR.out.free 6
      have f7 := HXR.out.free 7
      have f8 := HXR.out.free 8
      cases hzb : zeroB S2 with
      | true =>
        have HKD : Hid (kindV l (vecsK (L.map kqV)) E = 2) := Lib.hid (HOK.out.kept.known (by rw [← HLV.out]; exact lineV_zero hz2 (zeroB_yes hzb)))
        rw [hzb] at HZE
        clear hz2 hzb fd
        go_wp2_with fail
        refine HZE.out.mono ?_
        rintro e w6 ⟨rfl, rfl⟩
        go_wp2
        refine bodyPost_ret (results_row2 rfl _ _ (w.heap.size + 1) 35 _ (0, 0) _ rfl (HXR.out.store _ _ _ _ _ _ _ _ _) Tryz.underlying35 rfl (by kernel_rfl)) rfl ?_
        rw [HKD.out]
        refine ⟨.slice aL L.length cL, L, rfl, HLC.out.only HXR.out (by omega) (by decide) (rd_only _ _ _ _ _ _ _ _ _), HOK.out, ?_, rd_below HBW.out (Nat.le_succ _) _ _ _ _ _ _ _ _ _⟩
        unfold addV
        rw [HKD.out, if_neg (by decide)]
        exact (SpEq.snoc_in (kindV_two HKD.out)).symm
      | false =>
        have HKD : Hid (kindV l (vecsK (L.map kqV)) E = 3) := Lib.hid (HOK.out.kept.clash (fun c hc => by
          rw [← HLV.out, lineV_row (by rw [HRS.out.1]; exact hc)]
          exact hz2 c (by rw [HRS.out.1]; exact hc)) (by
          rw [← HLV.out]
          obtain ⟨j, hj⟩ := zeroB_no hzb
          exact lineV_ne HRS.out.2.2 hj))
        rw [hzb] at HZE
        clear hz2 hzb
        go_wp2_with fail
        refine HZE.out.mono ?_
        rintro e w6 ⟨rfl, rfl⟩
        go_wp2
        have hrb := (HXR.out.far (by omega) 8 (.bool true) : RDBox (wc.setCell ⟨w.heap.size, 8, none⟩ (.bool true)) (w.heap.size + 1) 0 0 0 0 0 0 0 nilS false)
        refine bodyPost_ret (results_row2 rfl _ _ (w.heap.size + 1) 35 _ (0, 0) _ rfl (hrb.store _ _ _ _ _ _ _ _ _) Tryz.underlying35 rfl (by kernel_rfl)) rfl ?_
        rw [HKD.out]
        refine ⟨.slice aL L.length cL, L, rfl, (HLC.out.only HXD.out hB (by decide) (fun x hx => Below.heap_setCell _ _ _ _ hx)).only hrb (by omega) (by decide) (rd_only _ _ _ _ _ _ _ _ _), HOK.out, ?_, rd_below (HBW.out.setCell (p := ⟨w.heap.size, 8, none⟩) (Nat.le_refl _) _) (Nat.le_succ _) _ _ _ _ _ _ _ _ _⟩
        unfold addV
        rw [HKD.out, if_pos rfl]
        exact SpEq.refl _
end Go.Proofs.YtkhdjjcflbdegaaGreatDoor
end

section
/- Package geyserref13: solved: the middle symbols, from the last column on. -/
namespace Go.Proofs.YtkhdjjcflbdegaaGreatDoor
open Go.RowKit Go.Extern.Stop Go.Stop Go.Extern

/-- A slice of symbols of a call's own: each old, or of its own kind. -/
def OutM (base : Nat) (w : World) (go l : Nat) (V : List (List Nat)) : Prop :=
  ∃ vals : List Value, w.ownsRow base 37 1 (.slice (some ⟨go, 0, none⟩) l l) l vals ∧ V.length = l ∧ ∀ i, ElAt byteV 5 base w (vals.getD i nilS) (V.getD i [])
section
variable {base go l : Nat} {w w' : World} {V : List (List Nat)}
theorem OutM.mono (m : OutM base w go l V) (hb : Below w.heap.size w w') : OutM base w' go l V := by
  obtain ⟨vals, h1, h2, h3⟩ := m
  exact ⟨vals, owns_kept h1 hb, h2, fun i => (h3 i).mono hb⟩
theorem OutM.row (m : OutM base w go l V) {c : Nat} (hc : c < l) : ∃ x, w.cell? ⟨go, c, none⟩ = some x ∧ ElAt byteV 5 base w x (V.getD c []) ∧ w.frozen? ⟨go, c, none⟩ = false := by
  obtain ⟨vals, h1, h2, h3⟩ := m
  have hl := h1.1
  have hcl : c < vals.length := by omega
  have hx := h1.cellAt c (by omega)
  rw [List.getElem?_eq_getElem hcl] at hx
  have h4 := h3 c
  rw [List.getD_eq_getElem?_getD, List.getElem?_eq_getElem hcl, Option.getD_some] at h4
  exact ⟨_, hx, h4, h1.frozenAt c⟩
theorem OutM.put (m : OutM base w go l V) {c : Nat} (hc : c < l) {v : Value} {S : List Nat} (hv : ElAt byteV 5 base w v S) : OutM base (w.setCell ⟨go, c, none⟩ v) go l (V.set c S) := by
  obtain ⟨vals, h1, h2, h3⟩ := m
  have hl := h1.1
  obtain ⟨hbg, cur, hg⟩ := own_block h1 (g := go) rfl
  have key : ∀ {x : Value} {r : List Nat}, ElAt byteV 5 base w x r → ElAt byteV 5 base (w.setCell ⟨go, c, none⟩ v) x r := fun {x r} he =>
    he.keep fun b _ hk => Below.heap_setCell _ _ _ _ fun e => by
      rw [show b = go from e] at hk
      rcases hk with hk | ⟨cur', hk⟩
      · omega
      · rw [hk] at hg
        cases hg
  refine ⟨vals.set c v, (h1.stored c v).1, by rw [List.length_set]; exact h2, fun i => ?_⟩
  rw [getD_set _ _ _ _ _ (by omega), getD_set _ _ _ _ _ (by omega)]
  by_cases e : i = c
  · rw [if_pos e, if_pos e]
    exact key hv
  · rw [if_neg e, if_neg e]
    exact key (h3 i)
theorem OutM.mat (m : OutM base w go l V) : MatAt byteV w (.slice (some ⟨go, 0, none⟩) l l) V := by
  obtain ⟨vals, h1, h2, h3⟩ := m
  have hl := h1.1
  exact ⟨vals, by have := ListAt.of_owns (f := id) (l := vals) (n := l) (base := base) (e := 37) (by rw [List.map_id]; exact h1); exact this, by omega, fun i => (h3 i).1⟩
end
/-- A column's symbol is what the system tells. -/
def GoodC (l size : Nat) (K : List Vec) (V : List (List Nat)) (c : Nat) : Prop := ∃ x, ValV l K c x ∧ V.getD c [] = symV l size x
theorem GoodC.set {l size c d : Nat} {K : List Vec} {V : List (List Nat)} {S : List Nat} (h : GoodC l size K V d) (hc : c < V.length) (hs : ∃ x, ValV l K c x ∧ S = symV l size x) : GoodC l size K (V.set c S) d := by
  unfold GoodC
  rw [getD_set _ _ _ _ _ hc]
  by_cases e : d = c
  · rw [if_pos e, e]; exact hs
  · rw [if_neg e]; exact h
theorem GoodC.here {l size c : Nat} {K : List Vec} {V : List (List Nat)} {S : List Nat} (hc : c < V.length) (hs : ∃ x, ValV l K c x ∧ S = symV l size x) : GoodC l size K (V.set c S) c := by
  unfold GoodC
  rw [getD_set _ _ _ _ _ hc, if_pos rfl]
  exact hs
theorem kq_mem {L : List Kq} {j : Nat} (hj : j < L.length) : Sp (vecsK (L.map kqV)) (lineV (L.getD j noKq).1.1 (L.getD j noKq).1.2) :=
  .mem (List.mem_map.2 ⟨kqV (L.getD j noKq), List.mem_map.2 ⟨_, by rw [List.getD_eq_getElem?_getD, List.getElem?_eq_getElem hj]; exact List.getElem_mem hj, rfl⟩, rfl⟩)
theorem KqOk.is {n size : Nat} {L : List Kq} (h : KqOk n size L) {j : Nat} (hj : j < L.length) : Lead (lineV (L.getD j noKq).1.1 (L.getD j noKq).1.2) (L.getD j noKq).2 :=
  (h.kept.lead (kqV (L.getD j noKq)) (List.mem_map.2 ⟨_, by rw [List.getD_eq_getElem?_getD, List.getElem?_eq_getElem hj]; exact List.getElem_mem hj, rfl⟩)).1
theorem KqOk.all {n size : Nat} {L : List Kq} (h : KqOk n size L) (hn : L.length = n) {c : Nat} (hc : c < n) : ∃ j, j < L.length ∧ (L.getD j noKq).2 = c := by
  obtain ⟨q, hq, e⟩ := h.kept.full (by rw [List.length_map]; exact hn) hc
  obtain ⟨x, hx, rfl⟩ := List.mem_map.1 hq
  obtain ⟨j, hj, rfl⟩ := List.getElem_of_mem hx
  exact ⟨j, hj, by rw [List.getD_eq_getElem?_getD, List.getElem?_eq_getElem hj]; exact e⟩
theorem rd1_laid (w : World) (k s h l p sd size : Int) (v : Value) (c : Bool) : ∃ W, W = w.alloc (.cells #[.int .i64 k, .int .i64 s, .int .i64 h, .int .i64 l, .int .i64 p, .int .i64 sd, .int .i64 size, v, .bool c] 35) ∧ Below w.heap.size w W ∧ RDBox W w.heap.size k s h l p sd size v c :=
  ⟨_, rfl, (Below.refl _ _).alloc (Nat.le_refl _) _, heap_alloc_new w _⟩

set_option maxRecDepth 1000000 in
set_option maxHeartbeats 8000000 in
theorem rSolved_any {w : World} (n sz : Nat) (vL : Value) (L : List Kq) (hL : KqsAt w vL L) (hok : KqOk n sz L) (hfull : L.length = n) (hn : n ≤ 4096) (hz : sz ≤ 64) (a b c d e f : Int) :
    Calls Tryz.prog 47 #[.agg #[.int .i64 a, .int .i64 b, .int .i64 c, .int .i64 (n : Int), .int .i64 d, .int .i64 e, .int .i64 f, vL, .bool false]] w fun o w' => ∃ v' V, o = .returned v' ∧ MatAt byteV w' v' V ∧ Tells n sz (vecsK (L.map kqV)) V ∧ Below w.heap.size w w' := by
  obtain ⟨i0, hi, hz0, hz1, hz2⟩ := info_parts info_sym
  obtain ⟨w0, hw0, hb0, hbx⟩ := rd1_laid w a b c n d e f vL false
  have HW0 := Lib.hid hw0
  have HB0 := Lib.hid hb0
  have HBX := Lib.hid hbx
  have HOK : Hid (∀ j, j < n → (L.getD j noKq).1.1.length = n ∧ (L.getD j noKq).1.2.length = sz ∧ Octets (L.getD j noKq).1.2) := Lib.hid fun j hj => hok.row j (by omega)
  have HLD : Hid (∀ j, j < n → Lead (lineV (L.getD j noKq).1.1 (L.getD j noKq).1.2) (L.getD j noKq).2 ∧ Sp (vecsK (L.map kqV)) (lineV (L.getD j noKq).1.1 (L.getD j noKq).1.2)) := Lib.hid fun j hj => ⟨hok.is (by omega), kq_mem (by omega)⟩
  have HALL : Hid (∀ c, c < n → ∃ j, j < n ∧ (L.getD j noKq).2 = c) := Lib.hid fun c hc => by
    have := hok.all hfull hc
    rwa [hfull] at this
  generalize vecsK (L.map kqV) = K at *
  obtain ⟨aL, cL, rfl, -, -, hcell⟩ := hL
  rw [hfull] at hcell HBX hbx HW0 ⊢
  have HC : Hid (∀ W, Below w.heap.size w W → 0 < n → ∃ b off, aL = some ⟨b, off, none⟩ ∧ ∀ j, j < n → ∃ r s, W.cell? ⟨b, off + j * 3, none⟩ = some r ∧ W.cell? ⟨b, off + j * 3 + 1, none⟩ = some s ∧ W.cell? ⟨b, off + j * 3 + 2, none⟩ = some (.int .i64 ((L.getD j noKq).2 : Int)) ∧ ListAt boolV W r (L.getD j noKq).1.1 ∧ ListAt byteV w s (L.getD j noKq).1.2) := Lib.hid fun W hW hp => by
    obtain ⟨b, off, e, hc⟩ := hcell hp
    refine ⟨b, off, e, fun j hj => ?_⟩
    obtain ⟨r, s, k0, k1, k2, l1, l2⟩ := hc j hj
    have hl := World.block_lt_of_cell? w _ k0
    exact ⟨r, s, (hW.cell (p := ⟨b, off + j * 3, none⟩) hl).trans k0, (hW.cell (p := ⟨b, off + j * 3 + 1, none⟩) hl).trans k1, (hW.cell (p := ⟨b, off + j * 3 + 2, none⟩) hl).trans k2, l1.mono hW, l2⟩
  have hsz0 := hb0.size
  have HBXB : Hid (∀ W, Below w0.heap.size w0 W → W.cell? ⟨w.heap.size, 3, none⟩ = some (.int .i64 (n : Int)) ∧ W.cell? ⟨w.heap.size, 7, none⟩ = some (.slice aL n cL)) := Lib.hid fun W hW => ⟨(hbx.keep hW hbx.lt).cells.2.2.2.1, (hbx.keep hW hbx.lt).cells.2.2.2.2.2.2.2.1⟩
  obtain ⟨c3, c7⟩ := HBXB.out w0 (Below.refl _ _)
  have hwn : IntKind.i64.wrap ((n : Int) - 1) = (n : Int) - 1 := IntWalk.i64_in _ (by omega)
  clear hw0 hb0 hok hfull hcell hbx
  go_enter Tryz.func47, Tryz.ntmps47
  go_upto_region 1 with fail
  rw [← HW0.out]
  go_wp2_with (at_make; refine wpList_make_full _ rfl _ _ 46 rfl w0.heap.size 37 i0 (.slice none 0 0) 1 Tryz.underlying46 hi hz0 hz1 .i64 .i64 _ _ n rfl rfl rfl rfl (by rw [hz2]; omega) (by unfold maxLen; omega) (Nat.le_refl _) ?_; intro w3 hown0 hgrow0; have HB3 := Lib.hid ((Below.refl w0.heap.size w0).grown hgrow0 (Nat.le_refl _) (fun k hk => by cases hk)); have hown1 := (by rw [Nat.mul_one] at hown0; exact toList_madeCells_one (.slice none 0 0) n ▸ hown0 : w3.ownsRow w0.heap.size 37 1 (.slice (some ⟨w0.heap.size, 0, none⟩) n n) n (List.replicate n (.slice none 0 0))); have HO3 : Hid (OutM w.heap.size w3 w0.heap.size n (List.replicate n [])) := Lib.hid ⟨_, ownsRow_base hown1 hsz0, List.length_replicate, fun i => by
    have e1 : (List.replicate n (Value.slice none 0 0)).getD i nilS = nilS := by simp [List.getD_eq_getElem?_getD, List.getElem?_replicate]; split <;> rfl
    have e2 : (List.replicate n ([] : List Nat)).getD i [] = [] := by simp [List.getD_eq_getElem?_getD, List.getElem?_replicate]; split <;> rfl
    rw [e1, e2]
    exact ElAt.nil _ _ _ _⟩; have hc33 := (HBXB.out w3 HB3.out).1; clear hown0 hgrow0 hown1)
  clear c3 c7 hc33
  obtain ⟨go, hgo⟩ : ∃ go, go = w0.heap.size := ⟨_, rfl⟩
  rw [← hgo] at HO3 ⊢
  have HGO : Hid (w0.heap.size ≤ go) := Lib.hid (by omega)
  clear hgo
  go_loopw [4] (fun i wr => ∃ (m : Nat) (V : List (List Nat)), m ≤ n ∧ i = .int .i64 ((m : Int) - 1) ∧ OutM w.heap.size wr go n V ∧ (∀ c', m ≤ c' → c' < n → GoodC n sz K V c') ∧ Below w0.heap.size w0 wr) (fun i _ => (intOf i + 1).toNat)
  case atStart => exact ⟨n, _, Nat.le_refl _, rfl, HO3.out, fun c h1 h2 => by omega, HB3.out⟩
  case round =>
    obtain ⟨m, V, hm, rfl, hout, hgood, hbel⟩ := hrel
    clear HO3 hwn
    have HOU := Lib.hid hout
    have HGD := Lib.hid hgood
    have HBL := Lib.hid hbel
    rcases Nat.eq_zero_or_pos m with rfl | hpos
    · have HT : Hid (Tells n sz K V) := Lib.hid (by
        obtain ⟨vals, -, h2, -⟩ := hout
        exact ⟨h2, fun c hc => hgood c (Nat.zero_le _) hc⟩)
      have hm1 : ((0 : Nat) : Int) - 1 = -1 := by omega
      rw [hm1]
      clear hout hgood hbel hm hm1
      go_wp2
      go_ret
      exact ⟨_, V, rfl, HOU.out.mat, HT.out, HB0.out.trans (HBL.out.mono HB0.out.size)⟩
    · obtain ⟨cc, rfl⟩ : ∃ cc, m = cc + 1 := ⟨m - 1, by omega⟩
      have e1 : (((cc + 1 : Nat) : Int) - 1) = (cc : Int) := by omega
      rw [e1]
      have hccn : cc < n := by omega
      obtain ⟨wo, hwo⟩ : ∃ wo, wo = wr := ⟨_, rfl⟩
      subst hwo
      clear e1 hout hgood hbel hm hpos
      go_wp2_with fail
      go_loopw [5] (fun i wx => ∃ (j : Nat) (V : List (List Nat)), j ≤ n ∧ i = .int .i64 j ∧ OutM w.heap.size wx go n V ∧ (∀ c', cc + 1 ≤ c' → c' < n → GoodC n sz K V c') ∧ (∀ j', j' < j → (L.getD j' noKq).2 = cc → GoodC n sz K V cc) ∧ Below w0.heap.size w0 wx) (fun i _ => n - (intOf i).toNat)
      case atStart => exact ⟨0, V, Nat.zero_le _, rfl, HOU.out, HGD.out, fun j hj => by omega, HBL.out⟩
      case round =>
        obtain ⟨j, V, hj, rfl, hout, hgood, hfnd, hbel⟩ := hrel
        clear HOU HGD HBL
        have HOU := Lib.hid hout
        have HGD := Lib.hid hgood
        have HFN := Lib.hid hfnd
        have HBL := Lib.hid hbel
        obtain ⟨c3, c7⟩ := HBXB.out _ hbel
        by_cases hlt : j < n
        · obtain ⟨bL, oL, rfl, hcc⟩ := HC.out wr (HB0.out.trans (hbel.mono HB0.out.size)) (by omega)
          obtain ⟨ri, si, k0, k1, k2, k3, k4⟩ := hcc j hlt
          have HLJ := Lib.hid (HLD.out j hlt)
          obtain ⟨hri, hsi, hoi⟩ := HOK.out j hlt
          have HJC : Hid (∀ x, (L.getD j noKq).2 = x → x = cc → (L.getD j noKq).2 = cc) := Lib.hid fun x e1 e2 => e1.trans e2
          obtain ⟨ld, hld⟩ : ∃ ld, (L.getD j noKq).2 = ld := ⟨_, rfl⟩
          have HLDE := Lib.hid hld
          rw [hld] at k2 HLJ
          clear hcc hout hgood hfnd hbel HJC hld
          by_cases hne : ld = cc
          · subst hne
            have HBW := Lib.hid (HB0.out.trans (HBL.out.mono HB0.out.size))
            have hq : ((ld : Int) != (ld : Int)) = false := by simp
            have hw1 : IntKind.i64.wrap ((ld : Int) + 1) = ((ld + 1 : Nat) : Int) := by rw [IntWalk.i64_in _ (by omega)]; omega
            have HE4 := Lib.hid (show ElAt byteV 5 w.heap.size wr si _ from ElAt.old k4 HBW.out)
            have HK3 := Lib.hid k3
            obtain ⟨ai, ci, rfl, -, -, hic⟩ := k3
            obtain ⟨asi, csi, rfl, -, -, -⟩ := k4
            rw [hri] at k0
            rw [hsi] at k1 HE4
            obtain ⟨bi, oi, rfl, hic2⟩ := hic (by omega)
            have HCB : Hid (∀ t, t < n → wr.cell? ⟨bi, oi + t, none⟩ = some (.bool (lineV (L.getD j noKq).1.1 (L.getD j noKq).1.2 t))) := Lib.hid fun t ht => by
              have h1 : t < (L.getD j noKq).1.1.length := by omega
              rw [hic2 t h1, lineV_row h1]
              exact congrArg some (bool_get _ h1)
            have HS0 : Hid ((L.getD j noKq).1.2 = symV n sz (lineV (L.getD j noKq).1.1 (L.getD j noKq).1.2)) := Lib.hid (by
              have := symV_line (r := (L.getD j noKq).1.1) hri hoi
              rw [hsi] at this
              exact this.symm)
            have HSL := Lib.hid hsi
            have HC01 := Lib.hid (show wr.cell? ⟨bL, oL + j * 3, none⟩ = some (.slice (some ⟨bi, oi, none⟩) n ci) from k0)
            have hbl : bL < wr.heap.size := World.block_lt_of_cell? wr _ k0
            generalize (L.getD j noKq).1.2 = Si at *
            generalize lineV (L.getD j noKq).1.1 Si = RV at *
            obtain ⟨wp, hwp⟩ : ∃ wp, wp = wr := ⟨_, rfl⟩
            subst hwp
            clear hic2 hri hoi hsi
            go_wp2_with fail
            clear k0 k1 k2
            go_loopw [6, 7] (fun sv kv wy => ∃ (t : Nat) (y : Vec) (S : List Nat), ld + 1 ≤ t ∧ t ≤ n ∧ kv = .int .i64 t ∧ BackK n K RV ld t y ∧ S = symV n sz y ∧ ElAt byteV 5 w.heap.size wy sv S ∧ OutM w.heap.size wy go n V ∧ Below wp.heap.size wp wy) (fun _ i _ => n - (intOf i).toNat)
            case atStart => exact ⟨ld + 1, RV, Si, Nat.le_refl _, by omega, rfl, BackK.start HLJ.out.2 HLJ.out.1, HS0.out, HE4.out, HOU.out, Below.refl _ _⟩
            case round =>
              obtain ⟨t, y, S, ht1, ht2, rfl, hbk, hS, he, hout, hbel⟩ := hrel
              have HBK := Lib.hid hbk
              have HSS := Lib.hid hS
              have HEE := Lib.hid he
              have HOY := Lib.hid hout
              have HBY := Lib.hid hbel
              have hb0y := HBL.out.trans (hbel.mono HBL.out.size)
              have HB0Y := Lib.hid hb0y
              obtain ⟨c3', c7'⟩ := HBXB.out _ hb0y
              have hSl : S.length = sz := by rw [hS]; exact symV_length _ _ _
              have HSO : Hid (Octets S) := Lib.hid (by rw [hS]; exact symV_octets _ _ _)
              have HSL2 := Lib.hid hSl
              obtain ⟨av, cv, rfl, -, -, -⟩ := id he.1
              rw [hSl] at HEE ⊢
              clear c3 c7
              by_cases htn : t < n
              · have k0 := (hbel.cell (p := ⟨bL, oL + j * 3, none⟩) hbl).trans HC01.out
                have kb := HCB.out t htn
                have kb' := (hbel.cell (p := ⟨bi, oi + t, none⟩) (World.block_lt_of_cell? wp _ kb)).trans kb
                obtain ⟨bt, hbt⟩ : ∃ bt, RV t = bt := ⟨_, rfl⟩
                have HBT := Lib.hid hbt
                rw [hbt] at kb'
                clear hbk hS he hbel hb0y kb hbt hSl
                cases bt with
                | false =>
                  clear hout
                  go_wp2_with fail
                  go_roundw
                  case rel => exact ⟨t + 1, y, S, by omega, by omega, by go_num, HBK.out.skip HBT.out, HSS.out, HEE.out, HOY.out, HBY.out⟩
                  case measure => simp [intOf]; omega
                | true =>
                  obtain ⟨x, kx, hex, -⟩ := hout.row htn
                  obtain ⟨v, hv, hVe⟩ := HGD.out t (by omega) htn
                  have hxl : (V.getD t []).length = sz := by rw [hVe]; exact symV_length _ _ _
                  have HXO : Hid (Octets (V.getD t [])) := Lib.hid (by rw [hVe]; exact symV_octets _ _ _)
                  have HAD : Hid (Calls Tryz.prog 90 #[.slice av sz cv, x] wr fun e w' => ∃ v', e = .returned v' ∧ w'.ownsRow wr.heap.size 5 1 v' sz ((xorW S (V.getD t [])).map byteV) ∧ Below wr.heap.size wr w') :=
                    Lib.hid (sAdd_any _ _ S (V.getD t []) sz HEE.out.1 hex.1 HSO.out HXO.out HSL2.out hxl (by omega))
                  have HVE := Lib.hid (show xorW S (V.getD t []) = symV n sz (vadd y v) by rw [HSS.out, hVe, ← symV_add])
                  have HVV := Lib.hid hv
                  have hwz : w.heap.size ≤ wr.heap.size := Nat.le_trans hsz0 HB0Y.out.size
                  obtain ⟨ax, cx, rfl, -, -, -⟩ := hex.1
                  rw [hxl] at kx HAD
                  clear hout hex hv hVe hxl
                  go_wp2_with fail
                  refine HAD.out.mono ?_
                  rintro o w6 ⟨v6, rfl, ho6, hb6⟩
                  have HO6 := Lib.hid ho6
                  have HB6 := Lib.hid hb6
                  clear ho6 hb6 c3' c7' k0 kb' kx
                  go_wp2
                  go_roundw
                  case rel => exact ⟨t + 1, vadd y v, _, by omega, by omega, by go_num, HBK.out.add (by omega) HBT.out HVV.out, HVE.out, ElAt.own (ownsRow_base HO6.out hwz), HOY.out.mono HB6.out, HBY.out.trans (HB6.out.mono HBY.out.size)⟩
                  case measure => simp [intOf]; omega
              · obtain rfl : t = n := by omega
                obtain ⟨x, kx, -, hfz⟩ := hout.row hccn
                have HVL : Hid (ld < V.length) := Lib.hid (by obtain ⟨vals, -, h2, -⟩ := hout; omega)
                have HVX : Hid (∃ x, ValV t K ld x ∧ S = symV t sz x) := Lib.hid ⟨y, hbk.val (Nat.le_refl _) hccn, hS⟩
                clear hbk hS he hbel hb0y hSl hout
                have hgow : w0.heap.size ≤ go := HGO.out
                go_wp2_with fail
                go_roundw
                case rel => exact ⟨j + 1, V.set ld S, by omega, by go_num, HOY.out.put hccn HEE.out, fun c' h1 h2 => (HGD.out c' h1 h2).set HVL.out HVX.out, fun _ _ _ => GoodC.here HVL.out HVX.out, HB0Y.out.setCell (p := ⟨go, ld, none⟩) hgow _⟩
                case measure => simp [intOf]; omega
          · have hq : ((ld : Int) != (cc : Int)) = true := by rw [bne_iff_ne]; omega
            clear k0 k1 k3 k4
            go_wp2_with fail
            go_roundw
            case rel => exact ⟨j + 1, V, by omega, by go_num, HOU.out, HGD.out, fun j' hj' e => by
              by_cases e2 : j' = j
              · rw [e2, HLDE.out] at e
                exact absurd e hne
              · exact HFN.out j' (by omega) e, HBL.out⟩
            case measure => simp [intOf]; omega
        · obtain rfl : j = n := by omega
          have HGC : Hid (GoodC j sz K V cc) := Lib.hid (by
            obtain ⟨j', h1, h2⟩ := HALL.out cc hccn
            exact hfnd j' h1 h2)
          have hw1 : IntKind.i64.wrap ((cc : Int) - 1) = (cc : Int) - 1 := IntWalk.i64_in _ (by omega)
          clear hout hgood hfnd hbel
          go_wp2_with fail
          go_roundw
          case rel => exact ⟨cc, V, by omega, rfl, HOU.out, fun c' h1 h2 => by
            by_cases e : c' = cc
            · rw [e]; exact HGC.out
            · exact HGD.out c' (by omega) h2, HBL.out⟩
          case measure => simp [intOf]
end Go.Proofs.YtkhdjjcflbdegaaGreatDoor
end

section
/- geyserref13's Check, Done, Source. -/
namespace Go.Proofs.YtkhdjjcflbdegaaGreatDoor
open Go.RowKit Go.Extern.Stop Go.Stop Go.Extern

theorem rCheck13_ok {w : World} (k size : Int) (h1 : 1 ≤ k) (h2 : k ≤ 128) (h3 : 1 ≤ size) (h4 : size ≤ 64) : Calls Tryz.prog 12 #[.int .i64 k, .int .i64 size] w fun e w' => e = .returned (.int .i64 0) ∧ w = w' := by
  go_enter Tryz.func12, Tryz.ntmps12
  go_wp2
  go_ret
  exact ⟨rfl, rfl⟩
theorem rCheck13_no {w : World} (k size : Int) (hk : I64 k) (hs : I64 size) (h : ¬ (1 ≤ k ∧ k ≤ 128 ∧ 1 ≤ size ∧ size ≤ 64)) : Calls Tryz.prog 12 #[.int .i64 k, .int .i64 size] w fun e w' => e = .returned (.int .i64 1) ∧ w = w' := by
  unfold I64 at hk hs
  by_cases h1 : k < 1
  · clear h
    go_enter Tryz.func12, Tryz.ntmps12
    go_wp2
    go_ret
    exact ⟨rfl, rfl⟩
  by_cases h2 : 128 < k
  · clear h
    go_enter Tryz.func12, Tryz.ntmps12
    go_wp2
    go_ret
    exact ⟨rfl, rfl⟩
  by_cases h3 : size < 1
  · clear h
    go_enter Tryz.func12, Tryz.ntmps12
    go_wp2
    go_ret
    exact ⟨rfl, rfl⟩
  have h4 : 64 < size := by omega
  clear h
  go_enter Tryz.func12, Tryz.ntmps12
  go_wp2
  go_ret
  exact ⟨rfl, rfl⟩

theorem rDone_any {w : World} (k s h l p sd size : Nat) (aL : Option Addr) (nL cL : Nat) (cl : Bool) :
    Calls Tryz.prog 20 #[.agg #[.int .i64 (k : Int), .int .i64 (s : Int), .int .i64 (h : Int), .int .i64 (l : Int), .int .i64 (p : Int), .int .i64 (sd : Int), .int .i64 (size : Int), .slice aL nL cL, .bool cl]] w fun e w' => e = .returned (.bool (decide (nL = l) && !cl)) ∧ Below w.heap.size w w' := by
  obtain ⟨w0, hw0, hb0, hbx⟩ := rd1_laid w k s h l p sd size (.slice aL nL cL) cl
  have HW0 := Lib.hid hw0
  have HB0 := Lib.hid hb0
  obtain ⟨c0, c1, c2, c3, c4, c5, c6, c7, c8⟩ := hbx.cells
  clear hw0 hb0 hbx
  by_cases hl : nL = l
  · have hbe : ((nL : Int) == (l : Int)) = true := by simp; omega
    rw [decide_eq_true hl]
    clear hl
    cases cl
    all_goals
      go_enter Tryz.func20, Tryz.ntmps20
      go_upto_region 1 with fail
      rw [← HW0.out]
      go_wp2
      go_ret
      exact ⟨rfl, HB0.out⟩
  · have hbe : ((nL : Int) == (l : Int)) = false := by simp; omega
    rw [decide_eq_false hl]
    clear hl
    go_enter Tryz.func20, Tryz.ntmps20
    go_upto_region 1 with fail
    rw [← HW0.out]
    go_wp2
    go_ret
    exact ⟨rfl, HB0.out⟩

theorem rSource_over {w : World} (k s h l p sd size : Nat) (vL : Value) : Calls Tryz.prog 23 #[.agg #[.int .i64 (k : Int), .int .i64 (s : Int), .int .i64 (h : Int), .int .i64 (l : Int), .int .i64 (p : Int), .int .i64 (sd : Int), .int .i64 (size : Int), vL, .bool true]] w fun e w' => e = .returned (.tuple #[nilS, .int .i64 7]) ∧ Below w.heap.size w w' := by
  obtain ⟨w0, hw0, hb0, hbx⟩ := rd1_laid w k s h l p sd size vL true
  have HW0 := Lib.hid hw0
  have HB0 := Lib.hid hb0
  obtain ⟨c0, c1, c2, c3, c4, c5, c6, c7, c8⟩ := hbx.cells
  clear hw0 hb0 hbx
  go_enter Tryz.func23, Tryz.ntmps23
  go_upto_region 1 with fail
  rw [← HW0.out]
  go_wp2
  go_ret2
  exact ⟨rfl, HB0.out⟩
theorem rSource_none {w : World} (k s h l p sd size : Nat) (aL : Option Addr) (nL cL : Nat) (hl : nL ≠ l) : Calls Tryz.prog 23 #[.agg #[.int .i64 (k : Int), .int .i64 (s : Int), .int .i64 (h : Int), .int .i64 (l : Int), .int .i64 (p : Int), .int .i64 (sd : Int), .int .i64 (size : Int), .slice aL nL cL, .bool false]] w fun e w' => e = .returned (.tuple #[nilS, .int .i64 4]) ∧ Below w.heap.size w w' := by
  obtain ⟨w0, hw0, hb0, hbx⟩ := rd1_laid w k s h l p sd size (.slice aL nL cL) false
  have HW0 := Lib.hid hw0
  have HB0 := Lib.hid hb0
  obtain ⟨c0, c1, c2, c3, c4, c5, c6, c7, c8⟩ := hbx.cells
  have HDN := Lib.hid (rDone_any (w := w0) k s h l p sd size aL nL cL false)
  rw [decide_eq_false hl] at HDN
  clear hw0 hb0 hbx hl
  go_enter Tryz.func23, Tryz.ntmps23
  go_upto_region 1 with fail
  rw [← HW0.out]
  go_wp2_with fail
  refine HDN.out.mono ?_
  rintro e w1 ⟨rfl, hb1⟩
  have HB1 := Lib.hid (HB0.out.trans (hb1.mono HB0.out.size))
  clear hb1 c0 c1 c2 c3 c4 c5 c6 c7 c8
  go_wp2
  go_ret2
  exact ⟨rfl, HB1.out⟩

set_option maxRecDepth 1000000 in
set_option maxHeartbeats 8000000 in
theorem rSource_ok {w : World} (k s h l p sd size : Nat) (vL : Value) (L : List Kq) (H : OfP k s h l p) (hk1 : 1 ≤ k) (hk2 : k ≤ 128) (hsd : sd < 65536) (hL : KqsAt w vL L) (hok : KqOk l size L) (hfull : L.length = l) (hz : size ≤ 64) :
    Calls Tryz.prog 23 #[.agg #[.int .i64 (k : Int), .int .i64 (s : Int), .int .i64 (h : Int), .int .i64 (l : Int), .int .i64 (p : Int), .int .i64 (sd : Int), .int .i64 (size : Int), vL, .bool false]] w fun e w' => ∃ v' V, e = .returned (.tuple #[v', .int .i64 0]) ∧ MatAt byteV w' v' ((List.range k).map (symE l p sd size V)) ∧ Tells l size (vecsK (L.map kqV)) V ∧ Below w.heap.size w w' := by
  obtain ⟨j0, hj0, jz0, jz1, jz2⟩ := info_parts info_sym
  obtain ⟨b1, b2, b3, b4, b5, b6, b7⟩ := H.bounds hk1 hk2
  obtain ⟨w0, hw0, hb0, hbx⟩ := rd1_laid w k s h l p sd size vL false
  have HW0 := Lib.hid hw0
  have HB0 := Lib.hid hb0
  have HBX := Lib.hid hbx
  have HSO : Hid (∀ Z, Below w0.heap.size w0 Z → Calls Tryz.prog 47 #[.agg #[.int .i64 (k : Int), .int .i64 (s : Int), .int .i64 (h : Int), .int .i64 (l : Int), .int .i64 (p : Int), .int .i64 (sd : Int), .int .i64 (size : Int), vL, .bool false]] Z fun o w' => ∃ v' V, o = .returned v' ∧ MatAt byteV w' v' V ∧ Tells l size (vecsK (L.map kqV)) V ∧ Below Z.heap.size Z w') := Lib.hid fun Z hZ => rSolved_any l size vL L ((hL.mono hb0).mono hZ) hok hfull (by omega) hz k s h p sd size
  have HRW : Hid (∀ Z (n : Nat), n < 65536 → Calls Tryz.prog 41 #[.agg #[.int .i64 (k : Int), .int .i64 (s : Int), .int .i64 (h : Int), .int .i64 (l : Int), .int .i64 (p : Int)], .int .i64 (sd : Int), .int .i64 (n : Int)] Z fun e w' => ∃ v', e = .returned v' ∧ ListAt colV w' v' (rowE l p sd n) ∧ Below Z.heap.size Z w') := Lib.hid fun Z n hn => by
    refine (rRow_any k s h l p sd n H hk1 hk2 hsd hn).mono ?_
    rintro e w' ⟨v', W, rfl, htr, hl, hb⟩
    refine ⟨v', rfl, ?_, hb⟩
    unfold rowE
    rw [walkE_eq htr]
    exact listAt_col hl
  have HRL : Hid (∀ n, (rowE l p sd n).length ≤ 157) := Lib.hid fun n => by have := rowE_len l p sd n; omega
  have hL0 := hL
  obtain ⟨aL, cL, rfl, -⟩ := hL0
  have HDN := Lib.hid (rDone_any (w := w0) k s h l p sd size aL L.length cL false)
  rw [decide_eq_true hfull] at HDN
  obtain ⟨c0, c1, c2, c3, c4, c5, c6, c7, c8⟩ := hbx.cells
  clear hw0 hb0 hbx hL hok hsd hfull H b1 b2 b3 b4 b5 b6 b7
  go_enter Tryz.func23, Tryz.ntmps23
  go_upto_region 1 with fail
  rw [← HW0.out]
  go_wp2_with fail
  refine HDN.out.mono ?_
  rintro e w1 ⟨rfl, hb1⟩
  have HB1 := Lib.hid hb1
  clear c0 c1 c2 c3 c4 c5 c6 c7 c8
  obtain ⟨c0, c1, c2, c3, c4, c5, c6, c7, c8⟩ := (HBX.out.mono hb1).cells
  clear hb1
  go_wp2_with fail
  refine (HSO.out _ HB1.out).mono ?_
  rintro e w2 ⟨vm, V, rfl, hm2, htl, hb2⟩
  have HM2 := Lib.hid hm2
  have HTL := Lib.hid htl
  have HB2 := Lib.hid (HB1.out.trans (hb2.mono HB1.out.size))
  obtain ⟨am, cm, rfl, -, -, -⟩ := hm2.opens
  have HO2 : Hid (MatFresh byteV 5 w2.heap.size 37 (w2.alloc (.cells #[] 37)) (.slice (some ⟨w2.heap.size, 0, none⟩) 0 0) ((List.range 0).map (symE l p sd size V))) := Lib.hid ⟨[], World.ownsRow_made (base := w2.heap.size) (e := 37) (size := 1) w2 #[] 0 (Nat.le_refl _) (by decide) rfl, fun i => by simpa using ElAt.nil _ _ _ _, fun x hx => by cases hx⟩
  clear hm2 htl hb2 c0 c1 c2 c3 c4 c5 c6 c7 c8
  go_wp2_with fail
  obtain ⟨W2, hW2⟩ : ∃ W2, W2 = w2.alloc (.cells #[] 37) := ⟨_, rfl⟩
  have HBW2 : Hid (Below w2.heap.size w2 W2) := Lib.hid (by rw [hW2]; exact (Below.refl _ _).alloc (Nat.le_refl _) _)
  rw [← hW2] at HO2 ⊢
  clear hW2
  go_loopw [5, 6] (fun o i wr => ∃ j : Nat, j ≤ k ∧ i = .int .i64 j ∧ MatFresh byteV 5 w2.heap.size 37 wr o ((List.range j).map (symE l p sd size V)) ∧ Below w2.heap.size w2 wr) (fun _ i _ => k - (intOf i).toNat)
  case atStart => exact ⟨0, Nat.zero_le _, rfl, HO2.out, HBW2.out⟩
  case round =>
    obtain ⟨j, hj, rfl, hmf, hbel⟩ := hrel
    clear HO2 HBW2
    have HMF := Lib.hid hmf
    have HBL := Lib.hid hbel
    have HBW := Lib.hid (HB2.out.trans (hbel.mono HB2.out.size))
    obtain ⟨c0, c1, c2, c3, c4, c5, c6, c7, c8⟩ := (HBX.out.mono HBW.out).cells
    by_cases hlt : j < k
    · have hbd : Below w2.heap.size w2 wr.drew := hbel.drew
      have HBD := Lib.hid hbd
      have HBXD : Hid (∀ Z, Below w2.heap.size w2 Z → Z.cell? ⟨w.heap.size, 6, none⟩ = some (.int .i64 (size : Int))) := Lib.hid fun Z hZ => (HBX.out.mono (HB2.out.trans (hZ.mono HB2.out.size))).cells.2.2.2.2.2.2.1
      have HDR := Lib.hid (HRW.out wr.drew j (by omega))
      have HRS : Hid (symE l p sd size V j = symE l p sd size V j) := Lib.hid rfl
      have hVl := HTL.out.1
      have HSU : Hid (∀ Z x, Below w2.heap.size w2 Z → ListAt colV Z x (rowE l p sd j) → Calls Tryz.prog 48 #[x, .slice am V.length cm, .int .i64 (size : Int)] Z fun e w' => ∃ v', e = .returned v' ∧ w'.ownsRow Z.heap.size 5 1 v' size ((symE l p sd size V j).map byteV) ∧ Below Z.heap.size Z w') :=
        Lib.hid fun Z x hZ hx => r11Sum_any x _ (rowE l p sd j) V size hx (HM2.out.mono hZ) (by rw [hVl]; exact rowE_lt) (by have := HRL.out j; omega) (fun r hm => (HTL.out.row r hm).1) (fun r hm => (HTL.out.row r hm).2) (by omega)
      have HST : Hid ((List.range (j + 1)).map (symE l p sd size V) = (List.range j).map (symE l p sd size V) ++ [symE l p sd size V j]) := Lib.hid (by rw [List.range_succ, List.map_append]; rfl)
      have HLN : Hid (((List.range j).map (symE l p sd size V)).length = j) := Lib.hid (by simp)
      have HMD := Lib.hid (hmf.mono ((Below.refl _ _).drew))
      have hszd : w2.heap.size ≤ wr.drew.heap.size := hbd.size
      have hsl : (symE l p sd size V j).length = size := symE_length _ _ _ _ _ _
      have HSLN := Lib.hid hsl
      have hc6 : wr.drew.cell? ⟨w.heap.size, 6, none⟩ = some (.int .i64 (size : Int)) := HBXD.out _ hbd
      clear hmf hbel hbd hVl hsl
      generalize symE l p sd size V j = SY at *
      generalize rowE l p sd j = PR at *
      generalize (List.range j).map (symE l p sd size V) = RS at *
      go_wp2_with fail
      go_region_law (first
        | (go_simp; go_at_call 41; refine HDR.out.mono ?_; rintro e w5 ⟨v5, rfl, hl5, hb5⟩; have HB5 := Lib.hid (HBD.out.trans (hb5.mono hszd)); have HMD5 := Lib.hid (HMD.out.mono hb5); have HS5 := Lib.hid (HSU.out w5 v5 HB5.out hl5); have hc65 := HBXD.out w5 HB5.out; clear hl5 hb5)
        | (go_simp; go_at_call 48; refine HS5.out.mono ?_; rintro e w6 ⟨v6, rfl, ho6, hb6⟩; rw [← HSLN.out] at ho6; have HO6 := Lib.hid ho6; have HB6 := Lib.hid (HB5.out.trans (hb6.mono HB5.out.size)); have hsz6 := HB6.out.size; obtain ⟨vs6, hv6, he6, hf6⟩ := HMD5.out.mono hb6; rw [HLN.out] at hv6; have HV6 := Lib.hid hv6; have HE6 := Lib.hid he6; have HF6 := Lib.hid hf6; obtain ⟨a6, q6, rfl, -, -⟩ := own_open ho6; have HSZ6 := Lib.hid HB5.out.size; clear ho6 hb6 hv6 he6 hf6)
        | (refine step_append_lies _ rfl (.tmp 22) (.tmp 33) 46 rfl w2.heap.size 37 j0 (.slice none 0 0) 1 24 Tryz.underlying46 hj0 jz0 jz1 jz2 rfl (by decide) u5 j vs6 (by simp [Act.eval]) (HV6.out.alloc _) ⟨w6.heap.size, 0, none⟩ 1 1 [.slice a6 SY.length q6] (by simp [Act.eval]) rfl (cell_one_new _ _ _) (fun x hx => by simp at hx; subst hx; rfl) (by decide) (by unfold maxLen; omega) (by omega) (by simp; omega) _ rfl ?_; intro g2 q2 w7 hown1 hgrow1 _ _; have HB7 := Lib.hid ((HB6.out.alloc hsz6 _).grown hgrow1 (by simp; omega) (fun k hk => (HV6.out.lt k hk).1)); have HM7 : Hid (MatFresh byteV 5 w2.heap.size 37 w7 _ (RS ++ [SY])) := Lib.hid (MatFresh.app HF6.out (fun b hb => Nat.le_trans HSZ6.out (HO6.out.lt b hb).1) (by decide) (by rw [HLN.out]; exact HV6.out) HE6.out (ElAt.own HO6.out) (by rw [HLN.out]; exact hown1) hgrow1); clear hown1 hgrow1))
      all_goals go_wp2
      all_goals exact ⟨⟨j + 1, by omega, by go_num, by rw [HST.out]; exact HM7.out, HB7.out⟩, by simp [intOf]; omega⟩
    · obtain rfl : j = k := by omega
      clear hmf hbel
      go_wp2
      go_ret2
      exact ⟨_, V, rfl, HMF.out.own.at, HTL.out, HB0.out.trans (HBW.out.mono HB0.out.size)⟩
end Go.Proofs.YtkhdjjcflbdegaaGreatDoor
end
