/- Package stripe: what gathers chunks (a closure). -/
import Derived.Test.YtlhpkfonffijfaaDoorStLb
namespace Go.Proofs.YtlhpkfonffijfaaDoor
open Go.RowKit Go.Extern.Stop Go.Stop Go.Extern

theorem st_grown {w w' : World} {B n g : Nat} {e t : TypeId} {v : Value} {xs : List Value} {cur : Array Value} {z : Nat × Nat} (hgg : w.heap[g]? = some (Obj.cells cur t z)) (ho : w.ownsRow B e 1 v n xs) (hg : w.grownBy w' v.ownBlock) (hne : t ≠ e) : w'.heap[g]? = some (Obj.cells cur t z) := by
  rw [← hgg]
  exact hg.block g (Array.getElem?_eq_some_iff.1 hgg).1 fun eq => by
    rcases ho.2 with ⟨rfl, _⟩ | ⟨g', cap, cur', rfl, _, hg', _⟩
    · simp [Value.ownBlock] at eq
    · have : g = g' := by simpa [Value.ownBlock] using eq
      rw [this, hg'] at hgg
      simp at hgg
      exact hne hgg.2.1.symm
theorem st_alloc {w : World} {g : Nat} {o u : Obj} (h : w.heap[g]? = some o) : (w.alloc u).heap[g]? = some o := by
  have hl := (Array.getElem?_eq_some_iff.1 h).1
  rw [← h]
  exact ((Below.refl w.heap.size w).alloc (Nat.le_refl _) u).block g hl

/-- A row of the call's own in a box. -/
structure RowBox (w : World) (B bx : Nat) (F : List Nat) : Prop where
  ex : ∃ v, w.heap[bx]? = some (.cells #[v] 32 (0, 0)) ∧ w.ownsRow B 3 1 v F.length (F.map cutV)
  le : B ≤ bx

set_option linter.unusedSimpArgs false in
set_option linter.unusedVariables false in
set_option maxRecDepth 1000000 in
set_option maxHeartbeats 4000000 in
theorem stGather_any {w : World} (bx B a b : Nat) (F : List Nat) (h : RowBox w B bx F) (hB : B ≤ w.heap.size) (hF : F.length ≤ 500) (ha : a ≤ 256) (hb : b ≤ 256) :
    Calls Tryd.prog 26 #[.int .i64 (a : Int), .int .i64 (b : Int), .pointer (some ⟨bx, 0, none⟩)] w fun e w' => (∃ v, e = .returned v) ∧ RowBox w' B bx (F ++ List.range' a (b - a)) ∧ Below B w w' := by
  obtain ⟨i0, hi, hz0, hz1, hz2⟩ := info_parts info_int
  have H := Lib.hid h
  have HSZ := Lib.hid hB
  clear h
  go_enter Tryd.func26, Tryd.ntmps26
  go_wp2_with fail
  go_loopw [5] (fun i wr => ∃ j : Nat, j ≤ b - a ∧ i = .int .i64 ((a + j : Nat) : Int) ∧ RowBox wr B bx (F ++ List.range' a j) ∧ Below B w wr) (fun i _ => a + b - (intOf i).toNat)
  case atStart => exact ⟨0, Nat.zero_le _, rfl, by simpa using H.out, Below.refl _ _⟩
  case round =>
    obtain ⟨j, hj, rfl, hrb, hbel⟩ := hrel
    have HB := Lib.hid hbel
    have HS2 := Lib.hid (Nat.le_trans hB hbel.size)
    have HR := Lib.hid hrb
    clear hrb hbel
    obtain ⟨x, hx⟩ : ∃ x, x = a + j := ⟨_, rfl⟩
    rw [← hx]
    have HX := Lib.hid hx
    by_cases hlt : x < b
    · have d1 : decide ((x : Int) < (b : Int)) = true := decide_eq_true (by omega)
      obtain ⟨v, hbox, how⟩ := HR.out.ex
      have hc := cell_of_heap (j := 0) (u := v) hbox rfl
      have hfz := frozen_of_heap (j := 0) hbox
      obtain ⟨E, hE⟩ : ∃ E, E = F ++ List.range' a j := ⟨_, rfl⟩
      have hEl : E.length ≤ 1000 := by rw [hE, List.length_append, List.length_range']; omega
      have HSN : Hid (F ++ List.range' a (j + 1) = E ++ [x]) := Lib.hid (by rw [hE, List.append_assoc, hx, List.range'_1_concat])
      rw [← hE] at how
      obtain ⟨ao, cap, hv, -, -⟩ := own_open how
      generalize hq : E.length = q at *
      have HQ := Lib.hid hq
      have HO := Lib.hid (how.alloc (.cells #[.int .i64 (x : Int)] 3))
      have HBX := Lib.hid (st_alloc (u := .cells #[.int .i64 (x : Int)] 3) hbox)
      have HBA := Lib.hid (HB.out.alloc HS2.out (.cells #[.int .i64 (x : Int)] 3))
      have HEND : Hid (∀ (v2 : Value) (w2 : World), w2.ownsRow B 3 1 v2 (q + 1) (E.map cutV ++ [.int .i64 (x : Int)]) → (wr.alloc (.cells #[.int .i64 (x : Int)] 3)).grownBy w2 v.ownBlock →
          RowBox (w2.setCell ⟨bx, 0, none⟩ v2) B bx (E ++ [x]) ∧ Below B w (w2.setCell ⟨bx, 0, none⟩ v2) ∧ w2.cell? ⟨bx, 0, none⟩ = some v ∧ w2.frozen? ⟨bx, 0, none⟩ = false) := Lib.hid fun v2 w2 h1 h2 => by
        have k1 := st_grown HBX.out HO.out h2 (by decide)
        refine ⟨⟨⟨v2, ?_, ?_⟩, HR.out.le⟩, ?_, cell_of_heap k1 rfl, frozen_of_heap k1⟩
        · rw [heap_setCell_at k1]; rfl
        · refine own_set ?_ k1 (by decide) _ _
          have := own_snoc HQ.out (f := cutV) (x := x) h1
          exact this
        · exact ((HBA.out).grown h2 (by have := HS2.out; simp; omega) (fun k hk => (HO.out.lt k hk).1)).setCell (p := ⟨bx, 0, none⟩) HR.out.le _
      clear hbox how hx hE hq
      subst hv
      go_wp2_with (at_builtin; refine wpList_append_own _ rfl (.tmp 12) (.tmp 14) 32 rfl B 3 i0 (.int .i64 0) 1 8 Tryd.underlying32 hi hz0 hz1 hz2 rfl (by decide) (.slice ao q cap) q (E.map cutV) rfl HO.out ⟨wr.heap.size, 0, none⟩ 1 1 [.int .i64 (x : Int)] rfl rfl (cell_one_new _ _ _) (fun x hx => by simp at hx; subst hx; rfl) (by unfold maxLen; omega) (by omega) (by have := HS2.out; simp; omega) ?_; intro v5 w5 hown1 hgrow1 _; obtain ⟨a5, c5, hv5, -, -⟩ := own_open hown1; subst hv5; obtain ⟨hE1, hE2, hc1, hc2⟩ := HEND.out _ w5 hown1 hgrow1; have HE1 := Lib.hid hE1; have HE2 := Lib.hid hE2; clear hown1 hgrow1 hE1 hE2)
      go_wp2
      go_roundw
      case rel => exact ⟨j + 1, by have := HX.out; omega, by have := HX.out; subst this; go_num, by rw [HSN.out]; exact HE1.out, HE2.out⟩
      case measure => simp [intOf]; omega
    · have d1 : decide ((x : Int) < (b : Int)) = false := decide_eq_false (by omega)
      have HJ : Hid (j = b - a) := Lib.hid (by omega)
      clear hx
      go_wp2
      go_end0
      rw [← HJ.out]
      exact ⟨⟨_, rfl⟩, HR.out, HB.out⟩
end Go.Proofs.YtlhpkfonffijfaaDoor
