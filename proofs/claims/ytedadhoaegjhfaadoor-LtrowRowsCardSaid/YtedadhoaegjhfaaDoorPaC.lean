/- Package params: choose, row by row. -/
import Derived.Test.YtedadhoaegjhfaaDoorPaA
import Derived.Test.YtedadhoaegjhfaaDoorOwn
import Derived.Test.YtedadhoaegjhfaaDoorLists
import Derived.OwnWalk
import Derived.WalkSpells
import Derived.WalkLawsBesides
namespace Go.Proofs.YtedadhoaegjhfaaDoor
open Go.RowKit Go.Extern.Stop Go.Stop Go.Extern

/-- A row of ways to choose of j. -/
def rowC (j : Nat) : List Int := (List.range (j + 1)).map fun i => ((ch j i : Nat) : Int)
theorem rowC_len (j : Nat) : (rowC j).length = j + 1 := by simp [rowC]
theorem rowC_get (j i : Nat) (h : i ≤ j) : (rowC j)[i]? = some ((ch j i : Nat) : Int) := by
  have : i < j + 1 := by omega
  simp [rowC, List.getElem?_range this]
/-- The next row, t of its sums done. -/
def nxt (j t i : Nat) : Int := (if i = 0 then 0 else ((ch j (i - 1) : Nat) : Int)) + (if i < t ∧ i ≤ j then ((ch j i : Nat) : Int) else 0)
def nxtL (j t : Nat) : List Int := (List.range (j + 2)).map (nxt j t)
theorem nxtL_len (j t : Nat) : (nxtL j t).length = j + 2 := by simp [nxtL]
theorem nxtL_get (j t i : Nat) (h : i < j + 2) : (nxtL j t)[i]? = some (nxt j t i) := by
  simp [nxtL, List.getElem?_range h]
theorem nxt_at (j i : Nat) : nxt j i i = if i = 0 then 0 else ((ch j (i - 1) : Nat) : Int) := by
  unfold nxt; rw [if_neg (by omega : ¬ (i < i ∧ i ≤ j))]; omega
theorem nxtL_start (j : Nat) : splice (List.replicate (j + 2) 0) 1 (rowC j) = nxtL j 0 := by
  apply List.ext_getElem?
  intro i
  have hl : (splice (List.replicate (j + 2) 0) 1 (rowC j)).length = j + 2 := by rw [length_splice _ _ _ (by rw [rowC_len]; simp; omega)]; simp
  rcases Nat.lt_or_ge i (j + 2) with h | h
  · rw [nxtL_get j 0 i h]
    unfold nxt
    rw [if_neg (by omega : ¬ (i < 0 ∧ i ≤ j))]
    unfold splice
    cases i with
    | zero => simp
    | succ i =>
      rw [List.getElem?_append_right (by simp), List.getElem?_append_left (by rw [rowC_len]; simp; omega)]
      simp only [List.length_take, List.length_replicate]
      rw [show i + 1 - min 1 (j + 2) = i by omega, rowC_get j i (by omega)]
      simp
  · rw [List.getElem?_eq_none (by omega), List.getElem?_eq_none (by rw [nxtL_len]; omega)]
theorem nxtL_step (j t : Nat) (h : t ≤ j) : (nxtL j t).set t (nxt j t t + ((ch j t : Nat) : Int)) = nxtL j (t + 1) := by
  apply List.ext_getElem?
  intro i
  rw [List.getElem?_set]
  rcases Nat.lt_or_ge i (j + 2) with hi | hi
  · rw [nxtL_get j t i hi, nxtL_get j (t + 1) i hi]
    by_cases e : t = i
    · subst e
      rw [if_pos rfl, if_pos (by rw [nxtL_len]; omega), nxt_at]
      unfold nxt
      rw [if_pos (by omega : t < t + 1 ∧ t ≤ j)]
    · rw [if_neg e]
      unfold nxt
      congr 2
      by_cases h2 : i < t
      · by_cases h3 : i ≤ j
        · rw [if_pos (by omega), if_pos (by omega)]
        · rw [if_neg (by omega), if_neg (by omega)]
      · rw [if_neg (by omega), if_neg (by omega)]
  · rw [List.getElem?_eq_none (by rw [nxtL_len]; omega), List.getElem?_eq_none (by rw [nxtL_len]; omega), if_neg (by omega)]
theorem nxtL_end (j : Nat) : nxtL j (j + 1) = rowC (j + 1) := by
  apply List.ext_getElem?
  intro i
  rcases Nat.lt_or_ge i (j + 2) with hi | hi
  · rw [nxtL_get j _ i hi, rowC_get (j + 1) i (by omega)]
    unfold nxt
    congr 1
    cases i with
    | zero => rw [if_pos rfl, if_pos (by omega), ch_zero, ch_zero]; rfl
    | succ i =>
      rw [if_neg (by omega), ch_succ, show i + 1 - 1 = i by omega]
      by_cases h2 : i + 1 ≤ j
      · rw [if_pos (by omega)]; omega
      · rw [if_neg (by omega), ch_over j (i + 1) (by omega)]; rfl
  · rw [List.getElem?_eq_none (by rw [nxtL_len]; omega), List.getElem?_eq_none (by rw [rowC_len]; omega)]
theorem nxt_bound (j t : Nat) (hj : j ≤ 60) : 0 ≤ nxt j t t ∧ nxt j t t ≤ 283726776524341248 := by
  rw [nxt_at]
  split
  · omega
  · have := ch_bound j (t - 1) hj
    omega

/-- A row of numbers that is a block of its own. -/
def RowIs (w : World) (B g : Nat) (xs : List Int) : Prop := B ≤ g ∧ w.heap[g]? = some (.cells (xs.map intV).toArray 3 (0, 0))
theorem RowIs.cell {w : World} {B g i : Nat} {xs : List Int} {x : Int} (h : RowIs w B g xs) (hi : xs[i]? = some x) : w.cell? ⟨g, i, none⟩ = some (.int .i64 x) :=
  cell_of_heap h.2 (by simp [hi, intV])
theorem RowIs.frozen {w : World} {B g i : Nat} {xs : List Int} (h : RowIs w B g xs) : w.frozen? ⟨g, i, none⟩ = false := frozen_of_heap h.2
theorem RowIs.lt {w : World} {B g : Nat} {xs : List Int} (h : RowIs w B g xs) : g < w.heap.size := (Array.getElem?_eq_some_iff.1 h.2).1
theorem RowIs.mono {w w' : World} {B g : Nat} {xs : List Int} (h : RowIs w B g xs) (hb : Below w.heap.size w w') : RowIs w' B g xs := ⟨h.1, (hb.block g h.lt).trans h.2⟩
theorem RowIs.set {w : World} {B g : Nat} {xs : List Int} (h : RowIs w B g xs) (i : Nat) (x : Int) : RowIs (w.setCell ⟨g, i, none⟩ (.int .i64 x)) B g (xs.set i x) := by
  refine ⟨h.1, ?_⟩
  rw [heap_setCell_at h.2, List.map_set]
  simp [intV]
theorem RowIs.other {w : World} {B g g' : Nat} {xs : List Int} (h : RowIs w B g xs) (hne : g ≠ g') (i : Nat) (u : Value) : RowIs (w.setCell ⟨g', i, none⟩ u) B g xs := by
  refine ⟨h.1, ?_⟩
  rw [← h.2]
  simp only [World.setCell, Array.getElem?_modify]
  rw [if_neg (by simpa using fun e => hne e.symm)]

set_option maxRecDepth 1000000 in
set_option maxHeartbeats 4000000 in
theorem choose_any {w : World} (n k : Nat) (hn : n ≤ 60) (hk : k ≤ n) : Calls Tryd.prog 52 #[.int .i64 (n : Int), .int .i64 (k : Int)] w fun e w' => e = .returned (.int .i64 ((ch n k : Nat) : Int)) ∧ Below w.heap.size w w' := by
  obtain ⟨i0, hi, hz0, hz1, hz2⟩ := info_parts info_int
  go_enter Tryd.func52, Tryd.ntmps52
  go_wp2_with fail
  go_loopw [5, 11] (fun v i wr => ∃ j : Nat, j ≤ n ∧ i = .int .i64 (j : Int) ∧ (∃ g m : Nat, m = j + 1 ∧ v = .slice (some ⟨g, 0, none⟩) m m ∧ RowIs wr w.heap.size g (rowC j)) ∧ Below w.heap.size w wr) (fun _ i _ => n - (intOf i).toNat)
  case atStart =>
    refine ⟨0, by omega, rfl, ⟨w.heap.size, 1, rfl, rfl, Nat.le_refl _, ?_⟩, (Below.refl _ _).alloc (Nat.le_refl _) _⟩
    exact heap_alloc_new w _
  case round =>
    obtain ⟨j, hj, rfl, ⟨g, m, hm, rfl, hrow⟩, hbel⟩ := hrel
    have HR := Lib.hid hrow
    have HB := Lib.hid hbel
    have hsz := hbel.size
    have HM := Lib.hid hm
    have hmb : m ≤ 61 := by omega
    have hglt := hrow.lt
    clear hrow hbel hm
    by_cases hlt : j < n
    · have hm0 : ¬ m = 0 := by have := HM.out; omega
      have hm1 : ¬ m + 1 = 1 := by omega
      have HSRC : Hid (∀ w0, Below wr.heap.size wr w0 → ∀ (i : Nat) (u : Value), ((rowC j).map intV)[i]? = some u → w0.cell? ((⟨g, 0, none⟩ : Addr).add i) = some u) := Lib.hid fun w0 hb i u hu => by
        rw [Go.WideShapes.add_plain, Nat.zero_add]
        exact cell_of_heap (HR.out.mono hb).2 (by simpa using hu)
      go_wp2_with (first
        | (at_make; refine wpList_make_full _ rfl _ _ 35 rfl w.heap.size 3 i0 (.int .i64 0) 1 Tryd.underlying35 hi hz0 hz1 .i64 .i64 _ _ (m + 1) rfl rfl (by omega) (by omega) (by rw [hz2]; omega) (by unfold maxLen; omega) hsz ?_; intro w0 hown0 hgrow0; have hb0 := Lib.hid ((Below.refl wr.heap.size wr).grown hgrow0 (Nat.le_refl _) (fun k hk => by cases hk)); have ho0 := Lib.hid (toList_madeCells_one (.int .i64 0) (m + 1) ▸ (Nat.mul_one (m + 1) ▸ (own_full hown0).2.2)); clear hown0 hgrow0)
        | ((with_reducible show wpList _ _ _ (⟨some 20, _, _, _, _, _⟩ :: _) _ _); refine wpList_copy_splice rfl (.tmp 18) (.tmp 19) 35 35 rfl 3 Tryd.underlying35 (by rw [hi]; exact congrArg some hz1) (some ⟨wr.heap.size, 1, none⟩) (some ⟨g, 0, none⟩) m m m m rfl rfl wr.heap.size 1 (List.replicate (m + 1) (intV 0)) 3 ho0.out ((rowC j).map intV) (by rw [List.length_map, rowC_len, ← HM.out]; simp) (fun hp => ⟨rfl, ⟨g, 0, none⟩, rfl, HSRC.out w0 hb0.out⟩) (by rw [List.length_map, rowC_len, List.length_replicate]; have := HM.out; omega) (fun u hu => by obtain ⟨y, _, rfl⟩ := List.mem_map.1 hu; rfl) wr.heap.size wr hb0.out (Nat.le_refl _) ?_; intro w2 hg2 hb2; have HG2 := hg2; have HB2 := Lib.hid hb2; clear hg2 hb2))
      have hrep : List.replicate (m + 1) (intV 0) = (List.replicate (j + 2) 0).map intV := by rw [List.map_replicate, HM.out]
      have hspl : ∀ (L cs : List Int) (o : Nat), splice (L.map intV) o (cs.map intV) = (splice L o cs).map intV := fun L cs o => by simp [splice]
      have h2 := HG2.out
      rw [hrep, hspl, nxtL_start] at h2
      have HR2 : Hid (RowIs w2 w.heap.size wr.heap.size (nxtL j 0)) := Lib.hid ⟨hsz, h2⟩
      have HR1 := Lib.hid (HR.out.mono HB2.out)
      have HBB := Lib.hid (HB.out.trans (HB2.out.mono hsz))
      clear hrep hspl h2 HG2 HB2 ho0 hb0 HSRC HR HB
      obtain ⟨wo, hwo⟩ : ∃ wo, wo = wr := ⟨_, rfl⟩
      subst hwo
      generalize wo.heap.size = G at *
      go_loopw [23] (fun i wy => ∃ t : Nat, t ≤ m ∧ i = .int .i64 (t : Int) ∧ (RowIs wy w.heap.size G (nxtL j t) ∧ RowIs wy w.heap.size g (rowC j)) ∧ Below w.heap.size w wy) (fun i _ => m - (intOf i).toNat)
      case atStart => exact ⟨0, Nat.zero_le _, rfl, ⟨HR2.out, HR1.out⟩, HBB.out⟩
      case round =>
        clear HR2 HR1 HBB
        obtain ⟨t, ht, rfl, ⟨hr2, hr1⟩, hbel⟩ := hrel
        have HB := Lib.hid hbel
        have HR2 := Lib.hid hr2
        have HR1 := Lib.hid hr1
        clear hr1 hr2 hbel
        by_cases hlt2 : t < m
        · have htj : t ≤ j := by have := HM.out; omega
          have hx1 := HR1.out.cell (rowC_get j t htj)
          have hx2 := HR2.out.cell (nxtL_get j t t (by omega))
          have hf2 : wr.frozen? ⟨G, t, none⟩ = false := HR2.out.frozen
          have hb1 := ch_bound j t (by omega)
          have hb2 := nxt_bound j t (by omega)
          have HSET := Lib.hid (nxtL_step j t htj)
          have HNE : Hid (g ≠ G) := Lib.hid (by omega)
          clear htj
          generalize nxt j t t = Y at *
          generalize ch j t = X at *
          go_wp2
          go_roundw
          case rel => exact ⟨t + 1, by omega, by go_num, ⟨by rw [← HSET.out]; exact HR2.out.set t _, HR1.out.other HNE.out t _⟩, HB.out.setCell (p := ⟨G, t, none⟩) HR2.out.1 _⟩
          case measure => simp [intOf]; omega
        · have htm : t = m := by omega
          have HE : Hid (nxtL j t = rowC (j + 1)) := Lib.hid (by rw [htm, HM.out, nxtL_end])
          clear htm
          go_wp2
          go_roundw
          case rel => exact ⟨j + 1, by omega, by go_num, ⟨G, m + 1, by have := HM.out; omega, rfl, by rw [← HE.out]; exact HR2.out⟩, HB.out⟩
          case measure => simp [intOf]; omega
    · have hkj : k ≤ j := by omega
      have hx := HR.out.cell (rowC_get j k hkj)
      have HJ : Hid (ch n k = ch j k) := Lib.hid (by rw [show j = n by omega])
      have hkm : k < m := by have := HM.out; omega
      go_wp2
      go_ret
      exact ⟨by rw [HJ.out]; rfl, HB.out⟩
end Go.Proofs.YtedadhoaegjhfaaDoor
