/- slices.Grow of no slice, slices.Concat: at bytes, and at rows of bytes. (Made by gencat.py.) -/
import Derived.Test.YtccnkfblhkncoaaDoorSyMath
import Derived.Test.YtccnkfblhkncoaaDoorOwn
import Derived.Lib.AppendZerosOnto
import Derived.Lib.AppendZeros
import Derived.Laws.Append
namespace Go.Proofs.YtccnkfblhkncoaaDoor
open Go.RowKit Go.Extern.Stop Go.Stop Go.Extern

/-- The elements of the first j lists. -/
def catTo (X : List (List Value)) (j : Nat) : List Value := (X.take j).flatten
theorem catTo_zero (X : List (List Value)) : catTo X 0 = [] := rfl
theorem catTo_succ {X : List (List Value)} {j : Nat} (h : j < X.length) : catTo X (j + 1) = catTo X j ++ X.getD j [] := by
  unfold catTo
  rw [List.take_add_one, List.flatten_append, List.getElem?_eq_getElem h]
  simp [List.getD_eq_getElem?_getD, h]
theorem catTo_all (X : List (List Value)) : catTo X X.length = X.flatten := by unfold catTo; rw [List.take_length]
theorem catTo_le (X : List (List Value)) (j : Nat) : (catTo X j).length ≤ X.flatten.length := by
  unfold catTo
  conv => rhs; rw [← List.take_append_drop j X, List.flatten_append]
  simp
theorem catTo_mem {X : List (List Value)} {p : Value → Prop} (h : ∀ l ∈ X, ∀ y ∈ l, p y) (j : Nat) : ∀ y ∈ catTo X j, p y := fun y hy => by
  obtain ⟨l, hl, hy⟩ := List.mem_flatten.1 hy
  exact h l (List.mem_of_mem_take hl) y hy

set_option maxRecDepth 1000000 in
set_option maxHeartbeats 4000000 in
theorem GrowB_any {w : World} (n : Nat) (hn : n ≤ 140737488351300) : Calls Tryd.prog 29 #[.slice none 0 0, .int .i64 (n : Int)] w fun e w' => ∃ v, e = .returned v ∧ w'.ownsRow w.heap.size 5 1 v 0 [] ∧ Below w.heap.size w w' := by
  obtain ⟨i0, hi0, hz0, hz1, hz2⟩ := info_parts info_u8
  by_cases h : n = 0
  · subst h
    go_enter Tryd.func29, Tryd.ntmps29
    go_wp2
    go_ret
    exact ⟨_, rfl, World.ownsRow_nil _ _ _ _, Below.refl _ _⟩
  · have hp : 0 < n := by omega
    have d1 : decide ((0 : Int) < (n : Int)) = true := decide_eq_true (by omega)
    have HG : Hid (grownCap w (0 + n) 0 5 ≤ maxLen ∧ n ≤ grownCap w (0 + n) 0 5) := Lib.hid ⟨grownCap_le_maxLen w _ _ _ (by unfold maxLen; omega), by have := grownCap_ge w (0 + n) 0 5; omega⟩
    have hrz : ∀ ty, (Builtin.append_ #[22, 3] ty #[.slice none 0 0, .int .i64 (n : Int)]).run Tryd.prog w = .ok (.slice (some ⟨w.heap.size, 0, none⟩) n (grownCap w (0 + n) 0 5)) (w.drew.alloc (.cells (([] : List Value).toArray ++ Builtin.zeroCells (Value.int .u8 0).cells n ++ Builtin.zeroCells (Value.int .u8 0).cells (grownCap w (0 + n) 0 5 - (0 + n))) 5)) := fun ty => by
      have h := Lib.run_append_grow_zeros w 22 3 ty 5 i0 (Value.int .u8 0) .i64 .i64 Tryd.underlying22 Tryd.underlying3 hi0 hz0 none 0 0 [] (run_firstCells_none w.drew i0.size 0 0 0) n hp (by omega) (by omega) (by omega) (by rw [hz2]; omega) (growslice_fits (by omega) (by rw [hz2]; omega))
      rw [Nat.zero_add] at h ⊢
      exact h
    obtain ⟨G, hG⟩ : ∃ G, G = grownCap w (0 + n) 0 5 := ⟨_, rfl⟩
    rw [← hG] at hrz HG
    obtain ⟨W, hW⟩ : ∃ W, W = w.drew.alloc (.cells (([] : List Value).toArray ++ Builtin.zeroCells (Value.int .u8 0).cells n ++ Builtin.zeroCells (Value.int .u8 0).cells (G - (0 + n))) 5) := ⟨_, rfl⟩
    rw [← hW] at hrz
    have hcs : (Value.int .u8 0).cells.size = 1 := rfl
    have hsize : (([] : List Value).toArray ++ Builtin.zeroCells (Value.int .u8 0).cells n ++ Builtin.zeroCells (Value.int .u8 0).cells (G - (0 + n))).size = G * 1 := by
      have h2 := HG.out.2
      rw [Array.size_append, Array.size_append, size_zeroCells, size_zeroCells, hcs]
      simp
      omega
    have hheap : W.heap[w.heap.size]? = some (.cells (([] : List Value).toArray ++ Builtin.zeroCells (Value.int .u8 0).cells n ++ Builtin.zeroCells (Value.int .u8 0).cells (G - (0 + n))) 5 (0, 0)) := by rw [hW]; exact heap_alloc_new w.drew _
    have ho : W.ownsRow w.heap.size 5 1 (.slice (some ⟨w.heap.size, 0, none⟩) 0 G) 0 [] := ⟨rfl, .inr ⟨w.heap.size, G, _, rfl, Nat.le_refl _, hheap, Nat.zero_le _, HG.out.1, hsize, by simp⟩⟩
    have HO := Lib.hid ho
    have HB : Hid (Below w.heap.size w W) := Lib.hid (by rw [hW]; exact ((Below.refl _ _).drew).alloc (Nat.le_refl _) _)
    have hGn : n ≤ G := HG.out.2
    have hGm : G ≤ 9223372036854775807 := HG.out.1
    clear hG hW HG hcs hsize hheap ho
    go_enter Tryd.func29, Tryd.ntmps29
    go_wp2_with (at_builtin; refine Lib.wpList_append_run _ rfl _ _ _ _ rfl _ _ rfl rfl _ _ (hrz _) ?_)
    go_ret
    exact ⟨_, rfl, HO.out, HB.out⟩

set_option maxRecDepth 1000000 in
set_option maxHeartbeats 4000000 in
theorem ConcatB_any {w : World} (v : Value) (X : List (List Value)) (h : MatAt id w v X) (h1 : ∀ l ∈ X, ∀ y ∈ l, y.oneCell' = true) (hX : X.length ≤ 4194304) (ht : X.flatten.length ≤ 140737488351300) :
    Calls Tryd.prog 22 #[v] w fun e w' => ∃ v', e = .returned v' ∧ w'.ownsRow w.heap.size 5 1 v' X.flatten.length X.flatten ∧ Below w.heap.size w w' := by
  obtain ⟨i0, hi0, hz0, hz1, hz2⟩ := info_parts info_u8
  obtain ⟨a, cap, rfl, hc, hm, hcell⟩ := h.opens
  have HM := Lib.hid h
  have HC := Lib.hid hcell
  have H1 := Lib.hid h1
  have HT : Hid (∀ j, (catTo X j).length ≤ 140737488351300) := Lib.hid fun j => Nat.le_trans (catTo_le X j) ht
  have HS : Hid (∀ j, j < X.length → (catTo X (j + 1)).length = (catTo X j).length + (X.getD j []).length) := Lib.hid fun j hj => by rw [catTo_succ hj, List.length_append]
  have HA : Hid (catTo X X.length = X.flatten) := Lib.hid (catTo_all X)
  have HN : Hid (∀ j, j < X.length → catTo X (j + 1) = catTo X j ++ X.getD j []) := Lib.hid fun j hj => catTo_succ hj
  rw [← catTo_all X]
  have HX0 : Hid (catTo X 0 = []) := Lib.hid rfl
  have HEL : Hid (∀ j, j < X.length → ∀ y ∈ X.getD j [], y.oneCell' = true) := Lib.hid fun j hj => h1 _ (by
    rw [List.getD_eq_getElem?_getD, List.getElem?_eq_getElem hj]; exact List.getElem_mem hj)
  clear h h1 ht hcell
  generalize hn : X.length = n at *
  go_enter Tryd.func22, Tryd.ntmps22
  go_wp2_with fail
  go_loopw [3, 11] (fun s i wr => ∃ j : Nat, j ≤ n ∧ i = .int .i64 (j : Int) ∧ s = .int .i64 (((catTo X j).length : Nat) : Int) ∧ w = wr) (fun _ i _ => n - (intOf i).toNat)
  case atStart => exact ⟨0, by omega, rfl, by rw [HX0.out]; rfl, rfl⟩
  case round =>
    obtain ⟨j, hj, rfl, rfl, rfl⟩ := hrel
    by_cases hlt : j < n
    · obtain ⟨b, off, hab, hcc⟩ := HC.out (by omega)
      subst hab
      obtain ⟨x, hx, hxl⟩ := hcc j hlt
      obtain ⟨ax, cx, rfl, hxc, hxm, -⟩ := hxl
      have hst := HS.out j hlt
      have hle := HT.out (j + 1)
      have hle0 := HT.out j
      have HST := Lib.hid hst
      have d1 : decide ((j : Int) < (n : Int)) = true := decide_eq_true (by omega)
      rw [hst] at hle
      clear hst hcc
      generalize (catTo X j).length = t at *
      generalize (X.getD j []).length = c at *
      have d2 : decide ((t : Int) + (c : Int) < 0) = false := decide_eq_false (by omega)
      go_wp2
      go_roundw
      case rel => exact ⟨j + 1, hlt, by go_num, by rw [HST.out]; go_num, trivial⟩
      case measure => simp [intOf]; omega
    · obtain rfl : j = n := by omega
      have d1 : decide ((j : Int) < (j : Int)) = false := decide_eq_false (by omega)
      have hle0 := HT.out j
      have HG : Hid (Calls Tryd.prog 29 #[.slice none 0 0, .int .i64 (((catTo X j).length : Nat) : Int)] w fun e w' => ∃ v, e = .returned v ∧ w'.ownsRow w.heap.size 5 1 v 0 [] ∧ Below w.heap.size w w') := Lib.hid (GrowB_any _ hle0)
      generalize ht : (catTo X j).length = t at HG hle0 ⊢
      go_wp2_with fail
      refine HG.out.mono ?_
      rintro e w1 ⟨g, rfl, ho, hb1⟩
      have HO := Lib.hid ho
      have HB1 := Lib.hid hb1
      clear ho hb1 ht
      go_wp2_with fail
      go_loopw [6, 27] (fun nv i wr => ∃ k : Nat, k ≤ j ∧ i = .int .i64 (k : Int) ∧ wr.ownsRow w.heap.size 5 1 nv (catTo X k).length (catTo X k) ∧ Below w.heap.size w wr) (fun _ i _ => j - (intOf i).toNat)
      case atStart => exact ⟨0, by omega, rfl, by rw [HX0.out]; exact HO.out, HB1.out⟩
      case round =>
        obtain ⟨k, hk, rfl, hown, hbel⟩ := hrel
        have HO2 := Lib.hid hown
        have HB := Lib.hid hbel
        have hsz := hbel.size
        obtain ⟨an, cn, rfl, -, -⟩ := own_open hown
        by_cases hlt : k < j
        · obtain ⟨b, off, hab, hcc⟩ := HC.out (by omega)
          subst hab
          obtain ⟨x, hx, hxl⟩ := hcc k hlt
          have hx' := (hbel.cell (p := ⟨b, off + k, none⟩) (World.block_lt_of_cell? w _ hx)).trans hx
          have HXL := Lib.hid (hxl.mono hbel)
          have hst := HS.out k hlt
          have hle := HT.out (k + 1)
          have hle0 := HT.out k
          have HNX := Lib.hid (HN.out k hlt)
          have HE1 := Lib.hid (HEL.out k hlt)
          have d2 : decide ((k : Int) < (j : Int)) = true := decide_eq_true (by omega)
          rw [hst] at hle
          clear hst hcc hown hbel hx
          generalize X.getD k [] = r at *
          generalize catTo X k = tk at *
          obtain ⟨ax, cx, rfl, hxc, hxm, -⟩ := hxl
          go_wp2_with (at_builtin; refine wpList_append_of _ rfl (.tmp 31) (.tmp 32) 22 rfl w.heap.size 5 i0 (Value.int .u8 0) 1 Tryd.underlying22 hi0 hz0 hz1 hz2 rfl (.slice an tk.length cn) tk.length tk rfl HO2.out (.slice ax r.length cx) r rfl HXL.out HE1.out (by unfold maxLen; omega) (by omega) hsz ?_; intro v' w' ho' hg'; have HO3 := Lib.hid ho'; have HB3 := Lib.hid (HB.out.grown hg' hsz (fun q hq => (HO2.out.lt q hq).1)); clear ho' hg')
          go_roundw
          case rel => exact ⟨k + 1, hlt, by go_num, by rw [HNX.out, List.length_append]; simpa using HO3.out, HB3.out⟩
          case measure => simp [intOf]; omega
        · obtain rfl : k = j := by omega
          have d2 : decide ((k : Int) < (k : Int)) = false := decide_eq_false (by omega)
          clear hown hbel
          go_wp2
          go_ret
          exact ⟨_, rfl, HO2.out, HB.out⟩

end Go.Proofs.YtccnkfblhkncoaaDoor
