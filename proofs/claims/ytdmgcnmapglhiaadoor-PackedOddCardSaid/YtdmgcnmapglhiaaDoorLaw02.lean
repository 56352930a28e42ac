/- The helpers of the second layer's laws: cut, tells, awake. -/
import Derived.Test.YtdmgcnmapglhiaaDoorPkXor
namespace Go.Proofs.YtdmgcnmapglhiaaDoor
open Go.RowKit Go.Extern.Stop Go.Stop Go.Extern

theorem cutW_any {w : World} (v : Value) (ws : List Nat) (h : ListAt wordV w v ws) :
    Calls Tryd.prog 18 #[v] w fun e w' => ∃ v', e = .returned v' ∧ ListAt wordV w v' (ws.take 20) ∧ w = w' := by
  have hlen := h.len
  have H := Lib.hid h
  obtain ⟨a, cap, rfl, hcap, hcm, hcell⟩ := h
  by_cases h20 : ws.length ≤ 20
  · clear hcell
    go_enter Tryd.func18, Tryd.ntmps18
    go_wp2
    go_ret
    exact ⟨_, rfl, by rw [List.take_of_length_le h20]; exact H.out, rfl⟩
  · obtain ⟨b, off, rfl, hc⟩ := hcell (by omega)
    clear hc hcell
    have HT := Lib.hid (H.out.take 20 (by omega))
    have hc20 : (20 : Int) ≤ (cap : Int) := by omega
    go_enter Tryd.func18, Tryd.ntmps18
    go_wp2
    go_ret
    exact ⟨_, rfl, HT.out, rfl⟩

theorem tells_nil {w : World} (c : ByteArray) : Calls Tryd.prog 12 #[.nilIface, .int .i64 0, .string c] w fun e w' => e = .returned (.bool true) ∧ w = w' := by
  go_enter Tryd.func12, Tryd.ntmps12
  go_wp2
  go_ret
  exact ⟨rfl, rfl⟩

set_option maxRecDepth 1000000 in
set_option maxHeartbeats 1000000 in
theorem tells_some {w : World} (n : Int) (hn : n ≠ 0) (c : ByteArray) (E : Value) (h : Chain w n [c] E) (hg : Laid w) :
    Calls Tryd.prog 12 #[E, .int .i64 n, .string c] w fun e w' => e = .returned (.bool true) ∧ Below w.heap.size w w' := by
  have hnb : (n == 0) = false := by simpa using hn
  have HC := Lib.hid h
  cases h with
  | wrap b _ E1 l hc he h1 =>
  have hbl : b < w.heap.size := World.block_lt_of_cell? w ⟨b, 0, none⟩ hc
  have HCC := Lib.hid hc
  have HG := Lib.hid hg
  have hB : Below w.heap.size w ((w.alloc (.cells #[.int .i64 0] 48)).alloc (.cells #[.pointer none] 49)) := ((Below.refl _ _).alloc (Nat.le_refl _) _).alloc (by simp) _
  have HB := Lib.hid hB
  clear hg hc he h1 hB hn
  go_enter Tryd.func12, Tryd.ntmps12
  go_wp2_with fail
  refine (As_num n ⟨w.heap.size, 0, none⟩ (.int .i64 0) _ _ (HC.out.mono HB.out) (by simp) (by simp) (HG.out.mono HB.out)).mono ?_
  rintro e w' ⟨rfl, w1, hb1, rfl⟩
  have hs1 : w.heap.size + 2 ≤ w1.heap.size := by have := hb1.size; simp at this; omega
  have HB1 := Lib.hid ((HB.out.trans (hb1.mono (by simp; omega))).setCell (p := ⟨w.heap.size, 0, none⟩) (Nat.le_refl _) (.int .i64 n))
  have hn1 : w1.cell? ⟨w.heap.size, 0, none⟩ = some (.int .i64 0) := by rw [hb1.cell (p := ⟨w.heap.size, 0, none⟩) (by simp; omega)]; simp
  have hf1 : w1.cell? ⟨w.heap.size + 1, 0, none⟩ = some (.pointer none) := by rw [hb1.cell (p := ⟨w.heap.size + 1, 0, none⟩) (by simp)]; simp
  have hff1 : w1.frozen? ⟨w.heap.size + 1, 0, none⟩ = false := by rw [hb1.frozen (p := ⟨w.heap.size + 1, 0, none⟩) (by simp)]; simp
  have hn2 : (w1.setCell ⟨w.heap.size, 0, none⟩ (.int .i64 n)).cell? ⟨w.heap.size, 0, none⟩ = some (.int .i64 n) := World.cell?_setCell_same' _ _ _ (by rw [hn1]; rfl)
  have hf2 : (w1.setCell ⟨w.heap.size, 0, none⟩ (.int .i64 n)).cell? ⟨w.heap.size + 1, 0, none⟩ = some (.pointer none) := (World.cell?_setCell_other _ _ _ _ (by simp)).trans hf1
  have hff2 : (w1.setCell ⟨w.heap.size, 0, none⟩ (.int .i64 n)).frozen? ⟨w.heap.size + 1, 0, none⟩ = false := by rw [World.frozen?_setCell]; exact hff1
  have hs2 : w.heap.size + 2 ≤ (w1.setCell ⟨w.heap.size, 0, none⟩ (.int .i64 n)).heap.size := by simpa using hs1
  clear hn1 hf1 hff1 hs1 hb1
  generalize w1.setCell ⟨w.heap.size, 0, none⟩ (.int .i64 n) = w2 at *
  have HC2 := Lib.hid ((HB1.out.cell (p := ⟨b, 0, none⟩) hbl).trans HCC.out)
  have HF2 := Lib.hid hf2
  have HFF2 := Lib.hid hff2
  have HN2 := Lib.hid hn2
  clear hf2 hff2 hn2
  go_wp2_with fail
  refine (As_fault ⟨w.heap.size + 1, 0, none⟩ ⟨b, 0, none⟩ (.pointer none) HF2.out HFF2.out (HG.out.mono HB1.out)).mono ?_
  rintro e w' ⟨rfl, w3, hb3, rfl⟩
  have HB3 := Lib.hid ((HB1.out.trans (hb3.mono (by omega))).setCell (p := ⟨w.heap.size + 1, 0, none⟩) (by simp) (.pointer (some ⟨b, 0, none⟩)))
  have hf3 : w3.cell? ⟨w.heap.size + 1, 0, none⟩ = some (.pointer none) := by rw [hb3.cell (p := ⟨w.heap.size + 1, 0, none⟩) (by simp; omega)]; exact HF2.out
  have hn3 : (w3.setCell ⟨w.heap.size + 1, 0, none⟩ (.pointer (some ⟨b, 0, none⟩))).cell? ⟨w.heap.size, 0, none⟩ = some (.int .i64 n) := 
    (World.cell?_setCell_other _ _ _ _ (by simp)).trans ((hb3.cell (p := ⟨w.heap.size, 0, none⟩) (by simp; omega)).trans HN2.out)
  have hf4 : (w3.setCell ⟨w.heap.size + 1, 0, none⟩ (.pointer (some ⟨b, 0, none⟩))).cell? ⟨w.heap.size + 1, 0, none⟩ = some (.pointer (some ⟨b, 0, none⟩)) := World.cell?_setCell_same' _ _ _ (by rw [hf3]; rfl)
  have hc4 : (w3.setCell ⟨w.heap.size + 1, 0, none⟩ (.pointer (some ⟨b, 0, none⟩))).cell? ⟨b, 0, none⟩ = some (.string c) := (HB3.out.cell (p := ⟨b, 0, none⟩) hbl).trans HCC.out
  clear hf3 hb3
  generalize w3.setCell ⟨w.heap.size + 1, 0, none⟩ (.pointer (some ⟨b, 0, none⟩)) = w4 at *
  have hnn : (n == n) = true := by simp
  go_wp2
  go_ret
  exact ⟨rfl, HB3.out⟩

/-! ### awake -/
theorem ex_check : checkI [65, 1] 70 = 0 := by decide +kernel
theorem ex_packs : Packs [2, 2] (sizeI 70).toNat (inP [65, 1]) := by
  refine ⟨by decide +kernel, fun x hx => by simp at hx; omega, ?_⟩
  have : ∀ c : Fin 128, bitW [2, 2] c.val = inP [65, 1] c.val := by decide +kernel
  intro c hc
  have e : 64 * (sizeI 70).toNat = 128 := by decide +kernel
  exact this ⟨c, by omega⟩
theorem ex_first : firstCol [2, 2] = 1 := by decide +kernel
theorem ex_count : (colsOf [2, 2]).length = 2 := by decide +kernel

set_option maxRecDepth 1000000 in
set_option maxHeartbeats 1000000 in
theorem awake2 {w : World} (hT : Tab w) : Calls Tryd.prog 9 #[] w fun e w' => e = .returned (.bool true) ∧ Below w.heap.size w w' := by
  have HT := Lib.hid hT
  clear hT
  have HB0 := Lib.hid ((Below.refl w.heap.size w).alloc (Nat.le_refl _) (.cells #[.int .i64 65, .int .i64 1] 3))
  have HL : Hid (ListAt intV (w.alloc (.cells #[.int .i64 65, .int .i64 1] 3)) (.slice (some ⟨w.heap.size, 0, none⟩) 2 2) [65, 1]) := Lib.hid
    ⟨_, 2, rfl, Nat.le_refl _, by decide, fun _ => ⟨w.heap.size, 0, rfl, fun j hj => by
      match j, hj with
      | 0, _ => simp [intV]
      | 1, _ => simp [intV]⟩⟩
  go_enter Tryd.func9, Tryd.ntmps9
  go_wp2_with fail
  refine (Pack_any _ [65, 1] 70 HL.out (by decide)).mono ?_
  rintro e w1 ⟨v1, E1, rfl, ha, hb1⟩
  unfold packAns at ha
  rw [ex_check, if_pos rfl] at ha
  obtain ⟨rfl, ws, hl, hp⟩ := ha
  obtain rfl := hp.unique ex_packs
  have HW : Hid (Word [2, 2]) := Lib.hid hp.2.1
  have HB1 := Lib.hid (HB0.out.trans (hb1.mono HB0.out.size))
  have HL1 := Lib.hid hl
  obtain ⟨a1, cap1, rfl, -, -, -⟩ := hl
  clear hb1 hp
  have HB2 := Lib.hid ((Below.refl w1.heap.size w1).alloc (Nat.le_refl _) (.cells #[.int .u64 2, .int .u64 2] 43))
  have HL2 : Hid (ListAt wordV (w1.alloc (.cells #[.int .u64 2, .int .u64 2] 43)) (.slice (some ⟨w1.heap.size, 0, none⟩) 2 2) [2, 2]) := Lib.hid
    ⟨_, 2, rfl, Nat.le_refl _, by decide, fun _ => ⟨w1.heap.size, 0, rfl, fun j hj => by
      match j, hj with
      | 0, _ => simp [wordV]
      | 1, _ => simp [wordV]⟩⟩
  go_wp2_with fail
  refine (SameW_any _ _ [2, 2] (HL1.out.mono HB2.out) HL2.out).mono ?_
  rintro e w3 ⟨rfl, hb3⟩
  have HB3 := Lib.hid (HB1.out.trans ((HB2.out.trans (hb3.mono HB2.out.size)).mono HB1.out.size))
  have HL3 := Lib.hid (HL1.out.mono (HB2.out.trans (hb3.mono HB2.out.size)))
  clear hb3
  go_wp2_with fail
  refine (First_any _ [2, 2] HL3.out HW.out (by decide) (HT.out.mono HB3.out)).mono ?_
  rintro e w4 ⟨rfl, rfl⟩
  rw [ex_first]
  go_wp2_with fail
  refine (Count_any _ [2, 2] HL3.out HW.out (by decide)).mono ?_
  rintro e w4 ⟨rfl, rfl⟩
  rw [ex_count]
  go_wp2
  go_ret
  exact ⟨rfl, HB3.out⟩
end Go.Proofs.YtdmgcnmapglhiaaDoor
