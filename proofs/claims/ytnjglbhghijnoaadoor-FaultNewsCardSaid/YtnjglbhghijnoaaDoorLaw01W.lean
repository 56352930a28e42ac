/- The walks of the first layer's laws. -/
import Derived.Test.YtnjglbhghijnoaaDoorLaw01
namespace Go.Proofs.YtnjglbhghijnoaaDoor
open Go.RowKit Go.Extern.Stop Go.Stop Go.Extern

set_option maxHeartbeats 1000000 in
theorem is_chain {w : World} (n : Int) (c : ByteArray) (l : List ByteArray) (E : Value) (h : Chain w n (c :: l) E) (hg : Laid w) :
    Calls Tryd.prog 10 #[E, .int .i64 n, .string c] w fun e w' => e = .returned (.bool true) ∧ Below w.heap.size w w' := by
  have hch := h
  cases h with
  | wrap b _ E1 _ hc he h1 =>
  have hbl : b < w.heap.size := World.block_lt_of_cell? w ⟨b, 0, none⟩ hc
  have hB : Below w.heap.size w ((w.alloc (.cells #[.int .i64 0] 25)).alloc (.cells #[.pointer none] 44)) := ((Below.refl _ _).alloc (Nat.le_refl _) _).alloc (by simp) _
  have HC := Lib.hid (hch.mono hB)
  have HG := Lib.hid (hg.mono hB)
  have HG0 := Lib.hid hg
  have HB := Lib.hid hB
  have Hc := Lib.hid hc
  clear hch hg hB hc he h1
  go_enter Tryd.func10, Tryd.ntmps10
  go_wp2_with fail
  refine (As_num n ⟨w.heap.size, 0, none⟩ (.int .i64 0) _ (c :: l) HC.out (by rw [World.cell?_alloc_lt _ _ ⟨w.heap.size, 0, none⟩ (by simp)]; simp) (by rw [World.frozen?_alloc_old _ _ ⟨w.heap.size, 0, none⟩ (by simp)]; simp) HG.out).mono ?_
  rintro e w' ⟨rfl, w1, hb1, rfl⟩
  have hz : w.heap.size + 1 < w1.heap.size := by have := hb1.size; simp at this; omega
  have hn1 : (w1.setCell ⟨w.heap.size, 0, none⟩ (.int .i64 n)).cell? ⟨w.heap.size, 0, none⟩ = some (.int .i64 n) :=
    World.cell?_setCell_same' _ _ _ (by rw [hb1.cell (p := ⟨w.heap.size, 0, none⟩) (by simp; omega), World.cell?_alloc_lt _ _ ⟨w.heap.size, 0, none⟩ (by simp)]; simp)
  have hf1 : (w1.setCell ⟨w.heap.size, 0, none⟩ (.int .i64 n)).cell? ⟨w.heap.size + 1, 0, none⟩ = some (.pointer none) := by
    rw [World.cell?_setCell_other _ _ _ _ (by simp), hb1.cell (p := ⟨w.heap.size + 1, 0, none⟩) (by simp)]
    rw [World.cell?_alloc_at _ _ _ _ (by simp)]; rfl
  have hf2 : (w1.setCell ⟨w.heap.size, 0, none⟩ (.int .i64 n)).frozen? ⟨w.heap.size + 1, 0, none⟩ = false := by
    simp only [World.frozen?_setCell]
    rw [hb1.frozen (p := ⟨w.heap.size + 1, 0, none⟩) (by simp)]
    exact World.frozen?_alloc_at _ _ _ _ (by simp)
  have hB2 : Below w.heap.size w (w1.setCell ⟨w.heap.size, 0, none⟩ (.int .i64 n)) := (HB.out.trans (hb1.mono (by simp; omega))).setCell (p := ⟨w.heap.size, 0, none⟩) (Nat.le_refl _) _
  have hz2 : w.heap.size + 1 < (w1.setCell ⟨w.heap.size, 0, none⟩ (.int .i64 n)).heap.size := by simpa [World.setCell] using hz
  generalize w1.setCell ⟨w.heap.size, 0, none⟩ (.int .i64 n) = w2 at *
  have HF1 := Lib.hid hf1
  have HF2 := Lib.hid hf2
  have HN1 := Lib.hid hn1
  have HB2 := Lib.hid hB2
  clear hn1 hf1 hf2 hB2 hb1 hz
  go_wp2_with fail
  refine (As_fault ⟨w.heap.size + 1, 0, none⟩ ⟨b, 0, none⟩ (.pointer none) HF1.out HF2.out (HG0.out.mono HB2.out)).mono ?_
  rintro e w' ⟨rfl, w3, hb3, rfl⟩
  have hn3 : (w3.setCell ⟨w.heap.size + 1, 0, none⟩ (.pointer (some ⟨b, 0, none⟩))).cell? ⟨w.heap.size, 0, none⟩ = some (.int .i64 n) := by
    rw [World.cell?_setCell_other _ _ _ _ (by simp), hb3.cell (p := ⟨w.heap.size, 0, none⟩) (by simp; omega)]; exact HN1.out
  have hf3 : (w3.setCell ⟨w.heap.size + 1, 0, none⟩ (.pointer (some ⟨b, 0, none⟩))).cell? ⟨w.heap.size + 1, 0, none⟩ = some (.pointer (some ⟨b, 0, none⟩)) :=
    World.cell?_setCell_same' _ _ _ (by rw [hb3.cell (p := ⟨w.heap.size + 1, 0, none⟩) hz2, HF1.out]; rfl)
  have hB3 : Below w.heap.size w (w3.setCell ⟨w.heap.size + 1, 0, none⟩ (.pointer (some ⟨b, 0, none⟩))) := (HB2.out.trans (hb3.mono (by omega))).setCell (p := ⟨w.heap.size + 1, 0, none⟩) (by simp) _
  have hc3 := (hB3.cell (p := ⟨b, 0, none⟩) hbl).trans Hc.out
  generalize w3.setCell ⟨w.heap.size + 1, 0, none⟩ (.pointer (some ⟨b, 0, none⟩)) = w4 at *
  have HB3 := Lib.hid hB3
  clear hB3 hb3
  go_wp2
  go_ret
  exact ⟨rfl, HB3.out⟩

/-! ### the laws -/
theorem news_zero {w : World} (c : ByteArray) (hg : Laid w) : Calls Tryd.prog 3 #[.string c, .int .i64 0] w fun e w' => e = .returned (.bool true) ∧ Below w.heap.size w w' := by
  have HG := Lib.hid hg
  clear hg
  go_enter Tryd.func3, Tryd.ntmps3
  go_wp2_with fail
  refine (New_zero _ _).mono ?_
  rintro e w1 ⟨rfl, rfl⟩
  go_wp2_with fail
  refine (awake_any HG.out).mono ?_
  rintro e w2 ⟨rfl, hb⟩
  have HB := Lib.hid hb
  clear hb
  go_wp2
  go_ret
  exact ⟨rfl, HB.out⟩

theorem news_some {w : World} (c : ByteArray) (n : Int) (hn : n ≠ 0) (hg : Laid w) : Calls Tryd.prog 3 #[.string c, .int .i64 n] w fun e w' => e = .returned (.bool true) ∧ Below w.heap.size w w' := by
  have hnb : (n == 0) = false := by simpa using hn
  have HG := Lib.hid hg
  have HN := Lib.hid hn
  clear hg hn
  go_enter Tryd.func3, Tryd.ntmps3
  go_wp2_with fail
  refine (New_chain _ n HN.out _).mono ?_
  rintro e w1 ⟨E, rfl, hc1, hb1⟩
  have HC := Lib.hid hc1
  have HB1 := Lib.hid hb1
  clear hc1 hb1
  go_wp2_with fail
  refine (is_chain n _ _ _ HC.out (HG.out.mono HB1.out)).mono ?_
  rintro e w2 ⟨rfl, hb2⟩
  have HB2 := Lib.hid (HB1.out.trans (hb2.mono HB1.out.size))
  clear hb2
  go_wp2_with fail
  refine (awake_any (HG.out.mono HB2.out)).mono ?_
  rintro e w3 ⟨rfl, hb3⟩
  have HB3 := Lib.hid (HB2.out.trans (hb3.mono HB2.out.size))
  clear hb3
  go_wp2
  go_ret
  exact ⟨rfl, HB3.out⟩

theorem wraps_zero {w : World} (c : ByteArray) (v : Value) (ss : List ByteArray) (h : StrsAt w v ss) (hl : ss.length ≤ maxLen) (hg : Laid w) :
    Calls Tryd.prog 4 #[.string c, .int .i64 0, v] w fun e w' => e = .returned (.bool true) ∧ Below w.heap.size w w' := by
  have HG := Lib.hid hg
  have HS := Lib.hid h
  have HL := Lib.hid hl
  clear hg h hl
  go_enter Tryd.func4, Tryd.ntmps4
  go_wp2_with fail
  refine (cut_any v ss HS.out HL.out).mono ?_
  rintro e w1 ⟨v', rfl, hs, rfl⟩
  have HS2 := Lib.hid hs
  clear hs
  go_wp2_with fail
  refine (made_zero _).mono ?_
  rintro e w1 ⟨rfl, rfl⟩
  go_wp2_with fail
  refine (Wrap_nil _ _).mono ?_
  rintro e w1 ⟨rfl, rfl⟩
  go_wp2_with fail
  refine (Wrap_nil _ _).mono ?_
  rintro e w1 ⟨rfl, rfl⟩
  go_wp2_with fail
  refine (awake_any HG.out).mono ?_
  rintro e w2 ⟨rfl, hb⟩
  have HB := Lib.hid hb
  clear hb
  go_wp2
  go_ret
  exact ⟨rfl, HB.out⟩

theorem take60 {ss : List ByteArray} : (ss.take 60).length ≤ 60 := by rw [List.length_take]; omega

theorem wraps_some {w : World} (c : ByteArray) (n : Int) (hn : n ≠ 0) (v : Value) (ss : List ByteArray) (h : StrsAt w v ss) (hl : ss.length ≤ maxLen) (hg : Laid w) :
    Calls Tryd.prog 4 #[.string c, .int .i64 n, v] w fun e w' => e = .returned (.bool true) ∧ Below w.heap.size w w' := by
  have hnb : (n == 0) = false := by simpa using hn
  have HN := Lib.hid hn
  have HG := Lib.hid hg
  have HS := Lib.hid h
  have HL := Lib.hid hl
  clear hg h hl hn
  go_enter Tryd.func4, Tryd.ntmps4
  go_wp2_with fail
  refine (cut_any v ss HS.out HL.out).mono ?_
  rintro e w1 ⟨v', rfl, hs, rfl⟩
  have HS2 := Lib.hid hs
  clear hs
  go_wp2_with fail
  refine (made_any n HN.out _ _ HS2.out take60).mono ?_
  rintro e w1 ⟨E, rfl, hc1, hb1⟩
  have HC := Lib.hid hc1
  have HB1 := Lib.hid hb1
  clear hc1 hb1
  go_wp2_with fail
  refine (Wrap_chain _ n _ _ _ HC.out).mono ?_
  rintro e w2 ⟨E2, rfl, hc2, hb2⟩
  have HC2 := Lib.hid hc2
  have HB2 := Lib.hid (HB1.out.trans (hb2.mono HB1.out.size))
  clear hc2 hb2
  go_wp2_with fail
  refine (is_chain n _ _ _ HC2.out (HG.out.mono HB2.out)).mono ?_
  rintro e w3 ⟨rfl, hb3⟩
  have HB3 := Lib.hid (HB2.out.trans (hb3.mono HB2.out.size))
  clear hb3
  go_wp2_with fail
  refine (awake_any (HG.out.mono HB3.out)).mono ?_
  rintro e w4 ⟨rfl, hb4⟩
  have HB4 := Lib.hid (HB3.out.trans (hb4.mono HB3.out.size))
  clear hb4
  go_wp2
  go_ret
  exact ⟨rfl, HB4.out⟩

/-- The error that made gives: none of 0, else a chain. -/
def MadeOf (w : World) (n : Int) (l : List ByteArray) (E : Value) : Prop := (n = 0 ∧ E = .nilIface) ∨ (n ≠ 0 ∧ Chain w n l E)

theorem MadeOf.mono {w w' : World} {n : Int} {l : List ByteArray} {E : Value} (h : MadeOf w n l E) (hb : Below w.heap.size w w') : MadeOf w' n l E := by
  rcases h with h | ⟨h1, h2⟩
  · exact .inl h
  · exact .inr ⟨h1, h2.mono hb⟩

theorem made_of {w : World} (n : Int) (v : Value) (ss : List ByteArray) (h : StrsAt w v ss) (hl : ss.length ≤ 60) :
    Calls Tryd.prog 12 #[.int .i64 n, v] w fun e w' => ∃ E, e = .returned E ∧ MadeOf w' n ss.reverse E ∧ Below w.heap.size w w' := by
  by_cases hn : n = 0
  · subst hn
    refine (made_zero v).mono ?_
    rintro e w' ⟨rfl, rfl⟩
    exact ⟨_, rfl, .inl ⟨rfl, rfl⟩, Below.refl _ _⟩
  · refine (made_any n hn v ss h hl).mono ?_
    rintro e w' ⟨E, rfl, hc, hb⟩
    exact ⟨_, rfl, .inr ⟨hn, hc⟩, hb⟩

theorem Num_of {w : World} (n : Int) (E : Value) (l : List ByteArray) (h : MadeOf w n l E) (hg : Laid w) :
    Calls Tryd.prog 14 #[E] w fun e w' => e = .returned (.int .i64 n) ∧ Below w.heap.size w w' := by
  rcases h with ⟨rfl, rfl⟩ | ⟨hn, hc⟩
  · exact Num_nil w
  · exact Num_chain n E l hc hg

theorem Call_of {w : World} (n : Int) (E : Value) (ss : List ByteArray) (h : MadeOf w n ss.reverse E) (hg : Laid w) :
    Calls Tryd.prog 15 #[E] w fun e w' => e = .returned (.string (lastOr n ss)) ∧ Below w.heap.size w w' := by
  rcases h with ⟨rfl, rfl⟩ | ⟨hn, hc⟩
  · exact Call_nil w
  · refine (Call_chain n E _ hc hg).mono ?_
    rintro e w' ⟨rfl, hb⟩
    exact ⟨by simp [lastOr, hn, List.headD_eq_head?_getD, List.getLastD_eq_getLast?], hb⟩

theorem Chain_of {w : World} (n : Int) (E : Value) (l : List ByteArray) (h : MadeOf w n l E) (hl : l.length ≤ 60) (hg : Laid w) :
    Calls Tryd.prog 16 #[E] w fun e w' => ∃ v, e = .returned v ∧ StrsAt w' v (if n = 0 then [] else l) ∧ Below w.heap.size w w' := by
  rcases h with ⟨rfl, rfl⟩ | ⟨hn, hc⟩
  · refine (Chain_nil w).mono ?_
    rintro e w' ⟨rfl, hb⟩
    exact ⟨_, rfl, ⟨none, 0, by simp, by simp, fun h => by simp at h⟩, hb⟩
  · refine (Chain_chain n E l hc (by omega) hg).mono ?_
    rintro e w' ⟨v, rfl, hs, hb⟩
    exact ⟨v, rfl, by rw [if_neg hn]; exact hs, hb⟩

theorem refChain_of {w : World} (n : Int) (v : Value) (ss : List ByteArray) (h : StrsAt w v ss) (hl : ss.length ≤ 60) :
    Calls Tryd.prog 20 #[.int .i64 n, v] w fun e w' => ∃ v', e = .returned v' ∧ StrsAt w' v' (if n = 0 then [] else ss.reverse) ∧ Below w.heap.size w w' := by
  by_cases hn : n = 0
  · subst hn
    exact refChain_zero v ss h hl
  · rw [if_neg hn]
    exact refChain_any n hn v ss h hl

set_option maxHeartbeats 1000000 in
theorem nums_any {w : World} (n : Int) (v : Value) (ss : List ByteArray) (h : StrsAt w v ss) (hl : ss.length ≤ maxLen) (hg : Laid w) :
    Calls Tryd.prog 5 #[.int .i64 n, v] w fun e w' => e = .returned (.bool true) ∧ Below w.heap.size w w' := by
  have HG := Lib.hid hg
  have HS := Lib.hid h
  have HL := Lib.hid hl
  clear hg h hl
  go_enter Tryd.func5, Tryd.ntmps5
  go_wp2_with fail
  refine (cut_any v ss HS.out HL.out).mono ?_
  rintro e w1 ⟨v', rfl, hs, rfl⟩
  have HS2 := Lib.hid hs
  clear hs
  go_wp2_with fail
  refine (made_of n _ _ HS2.out take60).mono ?_
  rintro e w1 ⟨E, rfl, hc1, hb1⟩
  have HC := Lib.hid hc1
  have HB1 := Lib.hid hb1
  clear hc1 hb1
  go_wp2_with fail
  refine (Num_nil _).mono ?_
  rintro e w2 ⟨rfl, hb⟩
  have HB2 := Lib.hid (HB1.out.trans (hb.mono HB1.out.size))
  have HC2 := Lib.hid (HC.out.mono hb)
  clear hb
  go_wp2_with fail
  refine (Call_nil _).mono ?_
  rintro e w3 ⟨rfl, hb⟩
  have HB3 := Lib.hid (HB2.out.trans (hb.mono HB2.out.size))
  have HC3 := Lib.hid (HC2.out.mono hb)
  clear hb
  go_wp2_with fail
  refine (Chain_nil _).mono ?_
  rintro e w4 ⟨rfl, hb⟩
  have HB4 := Lib.hid (HB3.out.trans (hb.mono HB3.out.size))
  have HC4 := Lib.hid (HC3.out.mono hb)
  clear hb
  go_wp2_with fail
  refine (FIs_nil _ _).mono ?_
  rintro e w5 ⟨rfl, rfl⟩
  go_wp2_with fail
  refine (Num_of n _ _ HC4.out (HG.out.mono HB4.out)).mono ?_
  rintro e w5 ⟨rfl, hb⟩
  have HB5 := Lib.hid (HB4.out.trans (hb.mono HB4.out.size))
  have HC5 := Lib.hid (HC4.out.mono hb)
  clear hb
  go_wp2_with fail
  refine (Call_of n _ _ HC5.out (HG.out.mono HB5.out)).mono ?_
  rintro e w6 ⟨rfl, hb⟩
  have HB6 := Lib.hid (HB5.out.trans (hb.mono HB5.out.size))
  clear hb
  generalize hlo : lastOr n (ss.take 60) = lo at *
  have HLO := Lib.hid hlo
  clear hlo
  go_wp2_with fail
  refine (refCall_any n _ _ (HS2.out.mono HB6.out) take60).mono ?_
  rw [HLO.out]
  rintro e w7 ⟨rfl, rfl⟩
  go_wp2_with fail
  refine (awake_any (HG.out.mono HB6.out)).mono ?_
  rintro e w8 ⟨rfl, hb⟩
  have HB8 := Lib.hid (HB6.out.trans (hb.mono HB6.out.size))
  clear hb
  go_wp2
  go_ret
  exact ⟨rfl, HB8.out⟩

set_option maxHeartbeats 1000000 in
theorem chains_any {w : World} (n : Int) (v : Value) (ss : List ByteArray) (h : StrsAt w v ss) (hl : ss.length ≤ maxLen) (hg : Laid w) :
    Calls Tryd.prog 6 #[.int .i64 n, v] w fun e w' => e = .returned (.bool true) ∧ Below w.heap.size w w' := by
  have HG := Lib.hid hg
  have HS := Lib.hid h
  have HL := Lib.hid hl
  clear hg h hl
  go_enter Tryd.func6, Tryd.ntmps6
  go_wp2_with fail
  refine (cut_any v ss HS.out HL.out).mono ?_
  rintro e w1 ⟨v', rfl, hs, rfl⟩
  have HS2 := Lib.hid hs
  clear hs
  go_wp2_with fail
  refine (made_of n _ _ HS2.out take60).mono ?_
  rintro e w1 ⟨E, rfl, hc1, hb1⟩
  have HC := Lib.hid hc1
  have HB1 := Lib.hid hb1
  clear hc1 hb1
  go_wp2_with fail
  refine (Chain_of n _ _ HC.out (by rw [List.length_reverse]; exact take60) (HG.out.mono HB1.out)).mono ?_
  rintro e w2 ⟨v2, rfl, hs2, hb⟩
  have HB2 := Lib.hid (HB1.out.trans (hb.mono HB1.out.size))
  have HT := Lib.hid hs2
  clear hb hs2
  go_wp2_with fail
  refine (refChain_of n _ _ (HS2.out.mono HB2.out) take60).mono ?_
  rintro e w3 ⟨v3, rfl, hs3, hb⟩
  have HB3 := Lib.hid (HB2.out.trans (hb.mono HB2.out.size))
  have HT2 := Lib.hid (HT.out.mono hb)
  have HT3 := Lib.hid hs3
  clear hb hs3
  go_wp2_with fail
  refine (Same_refl _ _ _ HT2.out HT3.out (by split <;> simp; omega)).mono ?_
  rintro e w4 ⟨rfl, hb⟩
  have HB4 := Lib.hid (HB3.out.trans (hb.mono HB3.out.size))
  clear hb
  go_wp2_with fail
  refine (awake_any (HG.out.mono HB4.out)).mono ?_
  rintro e w8 ⟨rfl, hb⟩
  have HB8 := Lib.hid (HB4.out.trans (hb.mono HB4.out.size))
  clear hb
  go_wp2
  go_ret
  exact ⟨rfl, HB8.out⟩
end Go.Proofs.YtnjglbhghijnoaaDoor
