/- The fifth layer's laws: fit. -/
import Derived.Test.YtnkkaggepokjeaaDoorJoinA
import Derived.Deep.Cut
import Derived.Deep.CutBlock
import Derived.Deep.DeepCutAuto
namespace Go.Proofs.YtnkkaggepokjeaaDoor
open Go.RowKit Go.Extern.Stop Go.Stop Go.Extern

/-- Symbols of the call's own, a row each. -/
def SymsAt (w : World) (B : Nat) (v : Value) (S : List (List Nat)) : Prop :=
  ∃ vs : List Value, w.ownsRow B 39 1 v S.length vs ∧ ∀ i, i < S.length → w.ownsRow B 5 1 (vs.getD i nilS) (S.getD i []).length ((S.getD i []).map byteV)

section
variable {w w' : World} {B : Nat} {v : Value} {S : List (List Nat)}
theorem SymsAt.nil (w : World) (B : Nat) : SymsAt w B nilS [] := ⟨[], World.ownsRow_nil _ _ _ _, fun i hi => by simp at hi⟩
theorem SymsAt.same (h : SymsAt w B v S) (hs : ∀ (g : Nat) (e : TypeId) (cur : Array Value), e = 39 ∨ e = 5 → w.heap[g]? = some (Obj.cells cur e (0, 0)) → w'.heap[g]? = w.heap[g]?) : SymsAt w' B v S := by
  obtain ⟨vs, h1, h2⟩ := h
  exact ⟨vs, own_same h1 fun g cur hg => hs g _ cur (.inl rfl) hg, fun i hi => own_same (h2 i hi) fun g cur hg => hs g _ cur (.inr rfl) hg⟩
theorem SymsAt.mono (h : SymsAt w B v S) (hb : Below w.heap.size w w') : SymsAt w' B v S := h.same fun g _ _ _ hg => hb.block g (Array.getElem?_eq_some_iff.1 hg).1
theorem SymsAt.set (h : SymsAt w B v S) {g : Nat} {cur : Array Value} (hg : w.heap[g]? = some (Obj.cells cur 54 (0, 0))) (j : Nat) (u : Value) : SymsAt (w.setCell ⟨g, j, none⟩ u) B v S := by
  obtain ⟨vs, h1, h2⟩ := h
  exact ⟨vs, own_set h1 hg (by decide) j u, fun i hi => own_set (h2 i hi) hg (by decide) j u⟩
theorem SymsAt.at (h : SymsAt w B v S) : MatAt byteV w v S := by
  obtain ⟨vs, h1, h2⟩ := h
  have hl : vs.length = S.length := by have := h1.1; omega
  refine ⟨vs, ListAt.of_owns (n := S.length) (by rw [List.map_id]; exact h1), hl, fun i => ?_⟩
  by_cases hi : i < S.length
  · exact ListAt.of_owns (h2 i hi)
  · rw [List.getD_eq_getElem?_getD, List.getElem?_eq_none (by omega), List.getD_eq_getElem?_getD, List.getElem?_eq_none (by omega)]
    exact ListAt.nil _ _
theorem own_grown_ne {e e' : TypeId} {v v' : Value} {k n B' : Nat} {xs xs' : List Value} (h : w.ownsRow B e 1 v' k xs) (ho : w.ownsRow B' e' 1 v n xs') (hg : w.grownBy w' v.ownBlock) (hne : e ≠ e') : w'.ownsRow B e 1 v' k xs :=
  own_same h fun g cur hgg => hg.block g (Array.getElem?_eq_some_iff.1 hgg).1 fun eq => by
    rcases ho.2 with ⟨rfl, _⟩ | ⟨g', cap, cur', rfl, _, hg', _⟩
    · simp [Value.ownBlock] at eq
    · have : g = g' := by simpa [Value.ownBlock] using eq
      rw [this, hg'] at hgg
      simp at hgg
      exact hne hgg.2.symm
theorem SymsAt.snoc {v' x : Value} {r : List Nat} {vs : List Value} (h1 : w.ownsRow B 39 1 v S.length vs) (h2 : ∀ i, i < S.length → w.ownsRow B 5 1 (vs.getD i nilS) (S.getD i []).length ((S.getD i []).map byteV)) (hx : w.ownsRow B 5 1 x r.length (r.map byteV))
    (ho : w'.ownsRow B 39 1 v' (S.length + 1) (vs ++ [x])) (hg : w.grownBy w' v.ownBlock) : SymsAt w' B v' (S ++ [r]) := by
  have hl : vs.length = S.length := by have := h1.1; omega
  refine ⟨vs ++ [x], by rw [List.length_append]; exact ho, fun i hi => ?_⟩
  rw [getD_snoc, getD_snoc, hl]
  by_cases e : i < S.length
  · rw [if_pos e, if_pos e]; exact own_grown_ne (h2 i e) h1 hg (by decide)
  · have e2 : i = S.length := by rw [List.length_append, List.length_singleton] at hi; omega
    rw [if_neg e, if_neg e, if_pos e2, if_pos e2]
    exact own_grown_ne hx h1 hg (by decide)
end

theorem SymsAt.grown {w w' : World} {B B' n : Nat} {v x : Value} {S : List (List Nat)} {e' : TypeId} {xs : List Value} (h : SymsAt w B v S) (ho : w.ownsRow B' e' 1 x n xs) (hg : w.grownBy w' x.ownBlock) (hne : e' ≠ 39 ∧ e' ≠ 5) : SymsAt w' B v S := by
  obtain ⟨vs, h1, h2⟩ := h
  exact ⟨vs, own_grown_ne h1 ho hg (fun e => hne.1 e.symm), fun i hi => own_grown_ne (h2 i hi) ho hg (fun e => hne.2 e.symm)⟩

/-- fit's boxes: what came in, its result, what it builds. -/
structure FitW (w wr : World) (x1 x2 x3 sz sv rv : Value) : Prop where
  bel : Below w.heap.size w wr
  lt : w.heap.size + 1 + 1 < wr.heap.size
  h0 : wr.heap[w.heap.size]? = some (.cells #[x1, x2, x3] 54 (0, 0))
  h1 : wr.heap[w.heap.size + 1]? = some (.cells #[.int .i64 0, nilS, nilS] 54 (0, 0))
  h2 : wr.heap[w.heap.size + 1 + 1]? = some (.cells #[sz, sv, rv] 54 (0, 0))
theorem fit_laid (w : World) (x1 x2 x3 sz : Value) : ∃ w0, w0 = ((w.alloc (.cells #[x1, x2, x3] 54)).alloc (.cells #[.int .i64 0, nilS, nilS] 54)).alloc (.cells #[sz, nilS, nilS] 54) ∧ FitW w w0 x1 x2 x3 sz nilS nilS := by
  have z1 : (w.alloc (.cells #[x1, x2, x3] 54)).heap.size = w.heap.size + 1 := World.size_alloc _ _
  have z2 : ((w.alloc (.cells #[x1, x2, x3] 54)).alloc (.cells #[.int .i64 0, nilS, nilS] 54)).heap.size = w.heap.size + 1 + 1 := by rw [World.size_alloc, z1]
  have a1 : (w.alloc (.cells #[x1, x2, x3] 54)).heap[w.heap.size]? = some (.cells #[x1, x2, x3] 54 (0, 0)) := heap_alloc_new w _
  have a2 := heap_alloc_new (w.alloc (.cells #[x1, x2, x3] 54)) (.cells #[.int .i64 0, nilS, nilS] 54)
  rw [z1] at a2
  have a3 := heap_alloc_new ((w.alloc (.cells #[x1, x2, x3] 54)).alloc (.cells #[.int .i64 0, nilS, nilS] 54)) (.cells #[sz, nilS, nilS] 54)
  rw [z2] at a3
  refine ⟨_, rfl, (((Below.refl _ _).alloc (Nat.le_refl _) _).alloc (by omega) _).alloc (by omega) _, by rw [World.size_alloc, z2]; omega, ?_, ?_, a3⟩
  · rw [Below.heap_alloc _ _ _ (by omega), Below.heap_alloc _ _ _ (by omega)]; exact a1
  · rw [Below.heap_alloc _ _ _ (by omega)]; exact a2
theorem SymsAt.base {w : World} {B B' : Nat} {v : Value} {S : List (List Nat)} (h : SymsAt w B v S) (hb : B' ≤ B) : SymsAt w B' v S := by
  obtain ⟨vs, h1, h2⟩ := h
  exact ⟨vs, ownsRow_base h1 hb, fun i hi => ownsRow_base (h2 i hi) hb⟩
section
variable {w wr w' : World} {x1 x2 x3 sz sv rv : Value}
theorem FitW.mono (h : FitW w wr x1 x2 x3 sz sv rv) (hb : Below wr.heap.size wr w') : FitW w w' x1 x2 x3 sz sv rv := by
  have hl := h.lt
  exact ⟨h.bel.trans (hb.mono (by omega)), Nat.lt_of_lt_of_le hl hb.size, (hb.block _ (by omega)).trans h.h0, (hb.block _ (by omega)).trans h.h1, (hb.block _ hl).trans h.h2⟩
theorem FitW.grown {row : Option Nat} (h : FitW w wr x1 x2 x3 sz sv rv) (hg : wr.grownBy w' row) (hr : ∀ k, row = some k → w.heap.size + 1 + 1 < k) : FitW w w' x1 x2 x3 sz sv rv := by
  have hl := h.lt
  have ne : ∀ k, k ≤ w.heap.size + 1 + 1 → some k ≠ row := fun k hk e => by have := hr k e.symm; omega
  exact ⟨h.bel.grown hg (by omega) (fun k e => by have := hr k e; omega), Nat.lt_of_lt_of_le hl hg.size, (hg.block _ (by omega) (ne _ (by omega))).trans h.h0, (hg.block _ (by omega) (ne _ (by omega))).trans h.h1, (hg.block _ hl (ne _ (by omega))).trans h.h2⟩
theorem FitW.set1 (h : FitW w wr x1 x2 x3 sz sv rv) (u : Value) : FitW w (wr.setCell ⟨w.heap.size + 1 + 1, 1, none⟩ u) x1 x2 x3 sz u rv := by
  have hl := h.lt
  exact ⟨h.bel.setCell (p := ⟨w.heap.size + 1 + 1, 1, none⟩) (show w.heap.size ≤ w.heap.size + 1 + 1 by omega) u, by rw [World.size_setCell]; exact hl, (Below.heap_setCell _ _ _ _ (show w.heap.size ≠ w.heap.size + 1 + 1 by omega)).trans h.h0,
    (Below.heap_setCell _ _ _ _ (show w.heap.size + 1 ≠ w.heap.size + 1 + 1 by omega)).trans h.h1, heap_setCell_at h.h2⟩
theorem FitW.set2 (h : FitW w wr x1 x2 x3 sz sv rv) (u : Value) : FitW w (wr.setCell ⟨w.heap.size + 1 + 1, 2, none⟩ u) x1 x2 x3 sz sv u := by
  have hl := h.lt
  exact ⟨h.bel.setCell (p := ⟨w.heap.size + 1 + 1, 2, none⟩) (show w.heap.size ≤ w.heap.size + 1 + 1 by omega) u, by rw [World.size_setCell]; exact hl, (Below.heap_setCell _ _ _ _ (show w.heap.size ≠ w.heap.size + 1 + 1 by omega)).trans h.h0,
    (Below.heap_setCell _ _ _ _ (show w.heap.size + 1 ≠ w.heap.size + 1 + 1 by omega)).trans h.h1, heap_setCell_at h.h2⟩
end

/-- A row, cut or filled up. -/
def padRow (r : List Nat) (size : Nat) : List Nat := r.take size ++ List.replicate (size - r.length) 0
theorem padRow_length (r : List Nat) (size : Nat) : (padRow r size).length = size := by unfold padRow; simp; omega
theorem padRow_octets {r : List Nat} {size : Nat} (h : Octets r) : Octets (padRow r size) := fun x hx => by
  rcases List.mem_append.1 hx with h1 | h1
  · exact h x (List.mem_of_mem_take h1)
  · have := (List.mem_replicate.1 h1).2; omega
theorem padRow_splice (r : List Nat) (size : Nat) : splice ((List.replicate size 0).map byteV) 0 ((r.take size).map byteV) = (padRow r size).map byteV := by
  unfold splice padRow
  rw [List.take_zero, List.nil_append, Nat.zero_add, List.length_map, List.length_take, List.map_append, ← List.map_drop, List.drop_replicate]
  congr 3
  omega

theorem SizeOk.snoc {S : List (List Nat)} {size : Nat} {r : List Nat} (h : SizeOk S size) (hr : r.length = size ∧ Octets r) : SizeOk (S ++ [r]) size := fun x hx => by
  rcases List.mem_append.1 hx with h1 | h1
  · exact h x h1
  · rw [List.mem_singleton.1 h1]; exact hr

set_option maxRecDepth 1000000 in
set_option maxHeartbeats 4000000 in
theorem fit_any {w : World} (n : Int) (v1 v2 : Value) (L : List (List Nat)) (R : List Nat) (h1 : MatAt byteV w v1 L) (h2 : ListAt wordV w v2 R) (hL : ∀ r ∈ L, Octets r) (hR : Word R) :
    Calls Tryd.prog 20 #[.agg #[.int .i64 n, v1, v2]] w fun e w' => ∃ (size : Nat) (u1 u2 : Value) (S : List (List Nat)) (Q : List Nat), e = .returned (.agg #[.int .i64 (size : Int), u1, u2]) ∧
      1 ≤ size ∧ size ≤ 4 ∧ 1 ≤ S.length ∧ S.length ≤ 12 ∧ SizeOk S size ∧ Q.length ≤ 24 ∧ (∀ q ∈ Q, q < 2 ^ S.length) ∧ SymsAt w' w.heap.size u1 S ∧ w'.ownsRow w.heap.size 47 1 u2 Q.length (Q.map wordV) ∧ Below w.heap.size w w' := by
  obtain ⟨i0, hi, hz0, hz1, hz2⟩ := info_parts info_u8
  obtain ⟨j0, hj0, jz0, jz1, jz2⟩ := info_parts info_sym
  obtain ⟨k0, hk0, kz0, kz1, kz2⟩ := info_parts info_u64
  obtain ⟨size, hsize, hs1, hs2⟩ : ∃ size : Nat, wrap64 (1 + wrap64 ((IntKind.u64.wrap n).tmod 4)) = (size : Int) ∧ 1 ≤ size ∧ size ≤ 4 := by
    have hw : 0 ≤ IntKind.u64.wrap n := by rw [IntKind.wrap_u64]; omega
    have e : (IntKind.u64.wrap n).tmod 4 = (IntKind.u64.wrap n) % 4 := Int.tmod_eq_emod_of_nonneg hw
    have h0 : 0 ≤ (IntKind.u64.wrap n) % 4 := Int.emod_nonneg _ (by decide)
    have h4 : (IntKind.u64.wrap n) % 4 < 4 := Int.emod_lt_of_pos _ (by decide)
    rw [e, IntWalk.wrap64_in ((IntKind.u64.wrap n) % 4) (by omega), IntWalk.wrap64_in _ (by omega)]
    exact ⟨(1 + (IntKind.u64.wrap n) % 4).toNat, by omega, by omega, by omega⟩
  have HSIZE := Lib.hid hsize
  obtain ⟨w0, hw0, hf0⟩ := fit_laid w (.int .i64 n) v1 v2 (.int .i64 (size : Int))
  have HW0 := Lib.hid hw0
  have HF0 := Lib.hid hf0
  have HOL := Lib.hid hL
  have HWR := Lib.hid hR
  have hlenL := h1.len
  have hlenR := h2.len
  obtain ⟨al, cl, rfl, hcl, -, hcellL⟩ := h1.opens
  obtain ⟨ar, cr, rfl, hcr, -, hcellR⟩ := h2.wordsN R.length rfl
  have HCL := Lib.hid hcellL
  have HCR := Lib.hid hcellR
  clear hsize hw0 hf0 hL hR hcellL hcellR h1 h2
  have hsI : (1 : Int) ≤ (size : Int) := by omega
  go_enter Tryd.func20, Tryd.ntmps20
  go_upto_block 0 with fail
  simp only [HSIZE.out]
  rw [← HW0.out]
  go_cut [5] from 6 (fun _ wx => ∃ sv S, S.length ≤ 12 ∧ SizeOk S size ∧ SymsAt wx (w.heap.size + 1 + 1 + 1) sv S ∧ FitW w wx (.int .i64 n) (.slice al L.length cl) (.slice ar R.length cr) (.int .i64 (size : Int)) sv nilS)
  case first =>
    go_wp2_with fail
    go_loopw [5] (fun i wr => ∃ k : Nat, k ≤ L.length ∧ k ≤ 12 ∧ i = .int .i64 k ∧ ∃ sv S, S.length = k ∧ SizeOk S size ∧ SymsAt wr (w.heap.size + 1 + 1 + 1) sv S ∧ FitW w wr (.int .i64 n) (.slice al L.length cl) (.slice ar R.length cr) (.int .i64 (size : Int)) sv nilS) (fun i _ => 12 - (intOf i).toNat)
    case atStart => exact ⟨0, Nat.zero_le _, Nat.zero_le _, rfl, nilS, [], rfl, fun r hr => by simp at hr, SymsAt.nil _ _, HF0.out⟩
    case round =>
      obtain ⟨k, hk, hk12, rfl, sv, S, hSl, hSok, hSat, hfw⟩ := hrel
      have hx1 := cell_of_heap (j := 1) (u := .slice al L.length cl) hfw.h0 rfl
      have hx2 := cell_of_heap (j := 2) (u := .slice ar R.length cr) hfw.h0 rfl
      by_cases hlt : k < L.length ∧ k < 12
      · obtain ⟨hlt, hlt12⟩ := hlt
        obtain ⟨b, off, rfl, hcc⟩ := HCL.out (by omega)
        obtain ⟨x, hx, hlx⟩ := hcc k hlt
        have hblt : b < w.heap.size := World.block_lt_of_cell? w _ hx
        have hxr := (hfw.bel.cell (p := ⟨b, off + k, none⟩) hblt).trans hx
        have HRO := Lib.hid (HOL.out _ (getD_mem_row hlt))
        obtain ⟨ra, rc, rfl, hrc, -, hrcell⟩ := hlx.bytes _ rfl
        obtain ⟨vs, hown, hels⟩ := hSat
        rw [hSl] at hown hels
        have HOWN := Lib.hid hown
        have HELS := Lib.hid hels
        obtain ⟨asx, csx, rfl, hsc, -⟩ := own_open hown
        have HFW := Lib.hid hfw
        have HSL := Lib.hid hSl
        have HSOK := Lib.hid hSok
        have hlt3 := hfw.lt
        have hrl := hlx.len
        have HSRC : Hid (∀ wA, Below wr.heap.size wr wA → 0 < (((L.getD k []).take size).map byteV).length → ∃ ad, ra = some ad ∧ ∀ j u, (((L.getD k []).take size).map byteV)[j]? = some u → wA.cell? (ad.add j) = some u) := Lib.hid fun wA hbA hp => by
          rw [List.length_map, List.length_take] at hp
          obtain ⟨b2, off2, e2, h2⟩ := hrcell (by omega)
          refine ⟨⟨b2, off2, none⟩, e2, fun j u hu => ?_⟩
          have hj : j < ((L.getD k []).take size).length := by have := (List.getElem?_eq_some_iff.1 hu).1; rwa [List.length_map] at this
          rw [List.length_take] at hj
          have hj2 : j < (L.getD k []).length := by omega
          have hj3 : j < size := by omega
          have h3 := h2 j hj2
          have hb2 : b2 < w.heap.size := World.block_lt_of_cell? w _ h3
          rw [Go.WideShapes.add_plain, (hfw.bel.trans (hbA.mono (by omega))).cell (p := ⟨b2, off2 + j, none⟩) hb2, h3, ← hu, List.getElem?_map, List.getElem?_take, if_pos hj3, List.getElem?_eq_getElem hj2, List.getD_eq_getElem?_getD, List.getElem?_eq_getElem hj2]
          rfl
        clear hcc hx hlx hrcell hown hels hfw hSok
        generalize hr : L.getD k [] = r at *
        clear hr
        go_wp2_with (first
          | (at_make; refine wpList_make_full _ rfl _ _ 39 rfl wr.heap.size 5 i0 (.int .u8 0) 1 Tryd.underlying39 hi hz0 hz1 .i64 .i64 _ _ size rfl rfl rfl rfl (by rw [hz2]; omega) (by unfold maxLen; omega) (Nat.le_refl _) ?_; intro wA hownA hgrowA; have HBA := Lib.hid ((Below.refl wr.heap.size wr).grown hgrowA (Nat.le_refl _) (fun k hk => by cases hk)); have hownA' : wA.ownsRow wr.heap.size 5 1 (.slice (some ⟨wr.heap.size, 0, none⟩) size size) size ((List.replicate size 0).map byteV) := (by rw [List.map_replicate]; rw [Nat.mul_one] at hownA; exact toList_madeCells_one (.int .u8 0) size ▸ hownA); have HHA := Lib.hid (own_full hownA').2.2; have hxA := (HBA.out.cell (p := ⟨w.heap.size, 1, none⟩) (show w.heap.size < wr.heap.size by omega)).trans hx1; have hxB := (HBA.out.cell (p := ⟨b, off + k, none⟩) (show b < wr.heap.size by omega)).trans hxr; clear hownA hgrowA hownA')
          | ((with_reducible show wpList _ _ _ (⟨some 35, _, _, _, _, _⟩ :: _) _ _); go_loud (refine wpList_copy_splice rfl (.tmp 29) (.tmp 34) 39 39 rfl 5 Tryd.underlying39 (by rw [hi]; exact congrArg some hz1) (some ⟨wr.heap.size, 0, none⟩) ra size size r.length rc rfl rfl wr.heap.size 0 ((List.replicate size 0).map byteV) 5 HHA.out ((r.take size).map byteV) (by rw [List.length_map, List.length_take]; exact Nat.min_comm _ _) (fun hp => ⟨rfl, HSRC.out wA HBA.out hp⟩) (by simp; omega) (fun u hu => by obtain ⟨y, _, rfl⟩ := List.mem_map.1 hu; rfl) wr.heap.size wr HBA.out (Nat.le_refl _) ?_); intro wB hgB hbB; have HGB := hgB; have HBB := Lib.hid hbB; have HFB := Lib.hid (HFW.out.mono hbB); have hsB := hbB.size; have hcB := cell_of_heap (j := 1) (u := .slice asx k csx) HFB.out.h2 rfl; have HNB : Hid (wB.ownsRow (w.heap.size + 1 + 1 + 1) 5 1 (.slice (some ⟨wr.heap.size, 0, none⟩) size size) size ((padRow r size).map byteV)) := Lib.hid (by
              have h := HGB.out
              rw [padRow_splice] at h
              exact own_of_heap (by omega) (by rw [List.length_map, padRow_length]) (by unfold maxLen; omega) h); clear hgB hbB HGB)
          | (at_builtin; refine wpList_append_own _ rfl (.tmp 37) (.tmp 39) 52 rfl (w.heap.size + 1 + 1 + 1) 39 j0 (.slice none 0 0) 1 24 Tryd.underlying52 hj0 jz0 jz1 jz2 rfl (by decide) (.slice asx k csx) k vs rfl ((owns_kept HOWN.out HBB.out).alloc _) ⟨wB.heap.size, 0, none⟩ 1 1 [.slice (some ⟨wr.heap.size, 0, none⟩) size size] rfl rfl (cell_one_new _ _ _) (fun x hx => by simp at hx; subst hx; rfl) (by unfold maxLen; omega) (by omega) (by simp; omega) ?_; intro vC wC hownC hgrowC _; have HFC := Lib.hid ((HFB.out.mono ((Below.refl _ _).alloc (Nat.le_refl _) _)).grown hgrowC (fun k hk => by have := (HOWN.out.lt k hk).1; omega)); have HSC : Hid (SymsAt wC (w.heap.size + 1 + 1 + 1) vC (S ++ [padRow r size])) := Lib.hid (SymsAt.snoc (by rw [HSL.out]; exact (owns_kept HOWN.out HBB.out).alloc _) (fun i hi => (owns_kept (HELS.out i (by rw [← HSL.out]; exact hi)) HBB.out).alloc _) (by rw [padRow_length]; exact HNB.out.alloc _) (by rw [HSL.out]; exact hownC) hgrowC); have hcC := cell_of_heap (j := 1) (u := .slice asx k csx) HFC.out.h2 rfl; have hfC := frozen_of_heap (j := 1) HFC.out.h2; obtain ⟨aC, cC, rfl, -, -⟩ := own_open hownC; clear hownC hgrowC))
        go_wp2
        go_roundw
        case rel => exact ⟨k + 1, by omega, by omega, by go_num, _, S ++ [padRow r size], by rw [List.length_append, HSL.out]; rfl, HSOK.out.snoc ⟨padRow_length _ _, padRow_octets HRO.out⟩, HSC.out.set HFC.out.h2 1 _, HFC.out.set1 _⟩
        case measure => simp [intOf]; omega
      · obtain ⟨vs, hown, hels⟩ := hSat
        have HSAT : Hid (SymsAt wr (w.heap.size + 1 + 1 + 1) sv S) := Lib.hid ⟨vs, hown, hels⟩
        have hlt3 := hfw.lt
        have HFW := Lib.hid hfw
        have HSL := Lib.hid hSl
        have HSOK := Lib.hid hSok
        clear hown hels hfw hSok
        by_cases hk1 : k < L.length
        · have hk2 : ¬ k < 12 := by omega
          clear hlt
          go_wp2_with fail
          go_meet
          case rel => exact ⟨sv, S, by rw [HSL.out]; exact hk12, HSOK.out, HSAT.out, HFW.out⟩
        · clear hlt
          go_wp2_with fail
          go_meet
          case rel => exact ⟨sv, S, by rw [HSL.out]; exact hk12, HSOK.out, HSAT.out, HFW.out⟩
  case rest =>
    clear HF0 HW0 HCL HOL
    obtain ⟨sv, S, hS12, hSok, hSat, hfw⟩ := hcut
    obtain ⟨vs, hown, hels⟩ := hSat
    have HSAT : Hid (SymsAt wc (w.heap.size + 1 + 1 + 1) sv S) := Lib.hid ⟨vs, hown, hels⟩
    obtain ⟨asx, csx, rfl, hsc, -⟩ := own_open hown
    have hc1 := cell_of_heap (j := 1) (u := .slice asx S.length csx) hfw.h2 rfl
    have hf1 := frozen_of_heap (j := 1) hfw.h2
    have hlt3 := hfw.lt
    have HFW := Lib.hid hfw
    have HSOK := Lib.hid hSok
    clear hown hels hfw hSok
    go_upto_if 45 with fail
    go_cut [5] from 6 (fun _ wx => ∃ (ax : Option Addr) (m cx : Nat) (S : List (List Nat)), 1 ≤ m ∧ m ≤ 12 ∧ S.length = m ∧ SizeOk S size ∧ SymsAt wx (w.heap.size + 1 + 1 + 1) (.slice ax m cx) S ∧ FitW w wx (.int .i64 n) (.slice al L.length cl) (.slice ar R.length cr) (.int .i64 (size : Int)) (.slice ax m cx) nilS)
    case first =>
      by_cases hz : S.length = 0
      · have hzb : ((S.length : Int) == 0) = true := by simp [hz]
        have hcw := hc1
        clear hz
        go_wp2_with (at_make; refine wpList_make_full _ rfl _ _ 39 rfl wc.heap.size 5 i0 (.int .u8 0) 1 Tryd.underlying39 hi hz0 hz1 .i64 .i64 _ _ size rfl rfl rfl rfl (by rw [hz2]; omega) (by unfold maxLen; omega) (Nat.le_refl _) ?_; intro wA hownA hgrowA; have HBA := Lib.hid ((Below.refl wc.heap.size wc).grown hgrowA (Nat.le_refl _) (fun k hk => by cases hk)); have hownA' : wA.ownsRow wc.heap.size 5 1 (.slice (some ⟨wc.heap.size, 0, none⟩) size size) size ((List.replicate size 0).map byteV) := (by rw [List.map_replicate]; rw [Nat.mul_one] at hownA; exact toList_madeCells_one (.int .u8 0) size ▸ hownA); have HOA := Lib.hid hownA'; have HFA := Lib.hid (HFW.out.mono HBA.out); have hcA := cell_of_heap (j := 1) (u := .slice asx S.length csx) HFA.out.h2 rfl; have hfA := frozen_of_heap (j := 1) HFA.out.h2; have hlA := HBA.out.size; have hltA := HFA.out.lt; clear hownA hgrowA hownA')
        go_meet
        case rel =>
          have hF1 := HFA.out.set1 (.slice (some ⟨wA.heap.size, 0, none⟩) 1 1)
          have ho1 := own_set (ownsRow_base HOA.out (show w.heap.size + 1 + 1 + 1 ≤ wc.heap.size by omega)) HFA.out.h2 (by decide) 1 (.slice (some ⟨wA.heap.size, 0, none⟩) 1 1)
          have hsz : (wA.setCell ⟨w.heap.size + 1 + 1, 1, none⟩ (.slice (some ⟨wA.heap.size, 0, none⟩) 1 1)).heap.size = wA.heap.size := World.size_setCell _ _ _
          generalize wA.setCell ⟨w.heap.size + 1 + 1, 1, none⟩ (.slice (some ⟨wA.heap.size, 0, none⟩) 1 1) = wS at *
          have hlit := World.ownsRow_lit (base := w.heap.size + 1 + 1 + 1) (e := 39) (size := 1) wS #[.slice (some ⟨wc.heap.size, 0, none⟩) size size] 1 (by omega) (by decide) rfl
          rw [hsz] at hlit
          have hbl : Below wS.heap.size wS (wS.alloc (.cells #[.slice (some ⟨wc.heap.size, 0, none⟩) size size] 39)) := (Below.refl _ _).alloc (Nat.le_refl _) _
          refine ⟨_, 1, 1, [List.replicate size 0], by decide, by decide, rfl, fun r hr => by rw [List.mem_singleton.1 hr]; exact ⟨List.length_replicate .., Octets.replicate size⟩, ⟨[.slice (some ⟨wc.heap.size, 0, none⟩) size size], hlit, fun i hi => ?_⟩, hF1.mono hbl⟩
          obtain rfl : i = 0 := by simpa using hi
          have h := owns_kept ho1 hbl
          show World.ownsRow _ _ _ 1 _ (List.replicate size 0).length _
          rw [List.length_replicate]
          exact h
      · have hzb : ((S.length : Int) == 0) = false := by rw [beq_eq_false_iff_ne]; omega
        have hS1 : 1 ≤ S.length := by omega
        clear hz
        go_wp2_with fail
        go_meet
        case rel => exact ⟨_, _, _, S, hS1, hS12, rfl, HSOK.out, HSAT.out, HFW.out⟩
    case rest =>
      clear HFW HSAT HSOK hc1 hf1 hlt3 hS12
      obtain ⟨ax, m, cx, S, hm1, hm2, hSm, hSok, hSX, hFX⟩ := hcut
      have HFX := Lib.hid hFX
      have HSX := Lib.hid hSX
      have HSM := Lib.hid hSm
      have HSOK := Lib.hid hSok
      clear hFX hSX hSm hSok
      go_wp2_with fail

      have HPOW : Hid (∃ P : Nat, P = 2 ^ m ∧ 1 ≤ P ∧ P ≤ 4096) := Lib.hid ⟨_, rfl, Nat.one_le_two_pow, by have := Nat.pow_le_pow_right (n := 2) (by decide) hm2; simpa using this⟩
      obtain ⟨P, hP, hP1, hP2⟩ := HPOW.out
      have HP := Lib.hid hP
      have hsh : IntKind.u64.wrap ((2 : Int) ^ m) = (P : Int) := by
        rw [show ((2 : Int) ^ m) = ((2 ^ m : Nat) : Int) by simp, ← hP]
        exact wrap_nat _ (by omega)
      have hconv : IntKind.u64.wrap (m : Int) = (m : Int) := by rw [IntKind.wrap_u64]; omega
      have hsub : IntKind.u64.wrap ((P : Int) - 1) = ((P - 1 : Nat) : Int) := by rw [IntKind.wrap_u64]; omega
      clear hP
      go_loopw [7] (fun i wr => ∃ j : Nat, j ≤ R.length ∧ j ≤ 24 ∧ i = .int .i64 j ∧ ∃ (rv : Value) (Q : List Nat), Q.length = j ∧ (∀ q ∈ Q, q < P) ∧ wr.ownsRow (w.heap.size + 1 + 1 + 1) 47 1 rv j (Q.map wordV) ∧ SymsAt wr (w.heap.size + 1 + 1 + 1) (.slice ax m cx) S ∧ FitW w wr (.int .i64 n) (.slice al L.length cl) (.slice ar R.length cr) (.int .i64 (size : Int)) (.slice ax m cx) rv) (fun i _ => 24 - (intOf i).toNat)
      case atStart => exact ⟨0, Nat.zero_le _, Nat.zero_le _, rfl, nilS, [], rfl, fun r hr => by simp at hr, World.ownsRow_nil _ _ _ _, HSX.out, HFX.out⟩
      case round =>
        clear HFX HSX
        obtain ⟨j, hj, hj24, rfl, rv, Q, hQl, hQok, hown, hSat, hfw⟩ := hrel
        have hx2 := cell_of_heap (j := 2) (u := .slice ar R.length cr) hfw.h0 rfl
        have hy1 := cell_of_heap (j := 1) (u := .slice ax m cx) hfw.h2 rfl
        have hy2 := cell_of_heap (j := 2) (u := rv) hfw.h2 rfl
        have hfz := frozen_of_heap (j := 2) hfw.h2
        have hlt3 := hfw.lt
        have HFW := Lib.hid hfw
        have HSAT := Lib.hid hSat
        have HOWN := Lib.hid hown
        have HQL := Lib.hid hQl
        have HQOK := Lib.hid hQok
        by_cases hlt : j < R.length ∧ j < 24
        · obtain ⟨hlt, hlt24⟩ := hlt
          obtain ⟨b, off, rfl, hcc⟩ := HCR.out (by omega)
          have hx := hcc j hlt
          have hblt : b < w.heap.size := World.block_lt_of_cell? w _ hx
          have hxr := (hfw.bel.cell (p := ⟨b, off + j, none⟩) hblt).trans hx
          have hyw := HWR.out.getD j
          have hand := bits_and_u64_nat (R.getD j 0) (P - 1) hyw (by omega)
          have hzl : R.getD j 0 &&& (P - 1) < P := by have := Nat.and_le_right (n := R.getD j 0) (m := P - 1); omega
          have HZL := Lib.hid hzl
          obtain ⟨ao, co, rfl, -, -⟩ := own_open hown
          clear hcc hx hfw hSat hown hQl hQok hzl
          generalize R.getD j 0 &&& (P - 1) = z at *
          generalize R.getD j 0 = y at *
          go_wp2_with fail
          go_region_law (first
                      | (refine step_append_lies _ rfl (.tmp 62) (.tmp 75) 38 rfl (w.heap.size + 1 + 1 + 1) 47 k0 (.int .u64 0) 1 8 Tryd.underlying38 hk0 kz0 kz1 kz2 rfl (by decide) (.slice ao j co) j (Q.map wordV) (by simp [Act.eval]) ((HOWN.out.alloc _).drew) ⟨wr.heap.size, 0, none⟩ 1 1 [.int .u64 (z : Int)] (by simp [Act.eval]) rfl (fun j u hu => cell_one_new wr _ _ j u hu) (fun x hx => by simp at hx; subst hx; rfl) (by decide) (by unfold maxLen; omega) (by omega) (by simp; omega) _ rfl ?_; intro g2 c2 wC hownC hgrowC _ _; have HFC := Lib.hid ((HFW.out.mono ((Below.refl _ _).alloc (Nat.le_refl _) _).drew).grown hgrowC (fun k hk => by have := (HOWN.out.lt k hk).1; omega)); have HSC := Lib.hid (SymsAt.grown (HSAT.out.mono ((Below.refl _ _).alloc (Nat.le_refl _) _).drew) ((HOWN.out.alloc _).drew) hgrowC ⟨by decide, by decide⟩); have HOC : Hid (wC.ownsRow (w.heap.size + 1 + 1 + 1) 47 1 (.slice (some ⟨g2, 0, none⟩) (j + 1) c2) (j + 1) ((Q ++ [z]).map wordV)) := Lib.hid (by rw [List.map_append]; exact hownC); have hcC := cell_of_heap (j := 2) (u := .slice ao j co) HFC.out.h2 rfl; have hfC := frozen_of_heap (j := 2) HFC.out.h2; clear hownC hgrowC))
          all_goals
            go_wp2
            go_roundw
            case rel => exact ⟨j + 1, by omega, by omega, by go_num, _, Q ++ [z], by rw [List.length_append, HQL.out]; rfl, fun q hq => by
              rcases List.mem_append.1 hq with h | h
              · exact HQOK.out q h
              · rw [List.mem_singleton.1 h]; exact HZL.out, own_set HOC.out HFC.out.h2 (by decide) 2 _, HSC.out.set HFC.out.h2 2 _, HFC.out.set2 _⟩
            case measure => simp [intOf]; omega
        · have hr0 := cell_of_heap (j := 0) (u := .int .i64 0) hfw.h1 rfl
          have hr1 := cell_of_heap (j := 1) (u := nilS) hfw.h1 rfl
          have hr2 := cell_of_heap (j := 2) (u := nilS) hfw.h1 rfl
          have hfr0 := frozen_of_heap (j := 0) hfw.h1
          have hfr1 := frozen_of_heap (j := 1) hfw.h1
          have hfr2 := frozen_of_heap (j := 2) hfw.h1
          have hs0 := cell_of_heap (j := 0) (u := .int .i64 (size : Int)) hfw.h2 rfl
          obtain ⟨ao, co, rfl, -, -⟩ := own_open hown
          have HH1 := Lib.hid (heap_setCell_at (j := 2) (u := .slice ao j co) (heap_setCell_at (j := 1) (u := .slice ax m cx) (heap_setCell_at (j := 0) (u := .int .i64 (size : Int)) hfw.h1)))
          have e1 := heap_setCell_at (j := 0) (u := .int .i64 (size : Int)) hfw.h1
          have e2 := heap_setCell_at (j := 1) (u := .slice ax m cx) e1
          have HSF := Lib.hid (((hSat.set hfw.h1 0 (.int .i64 (size : Int))).set e1 1 (.slice ax m cx)).set e2 2 (.slice ao j co))
          have HOF := Lib.hid (own_set (own_set (own_set hown hfw.h1 (by decide) 0 (.int .i64 (size : Int))) e1 (by decide) 1 (.slice ax m cx)) e2 (by decide) 2 (.slice ao j co))
          have HBF := Lib.hid (((hfw.bel.setCell (p := ⟨w.heap.size + 1, 0, none⟩) (show w.heap.size ≤ w.heap.size + 1 by omega) (.int .i64 (size : Int))).setCell (p := ⟨w.heap.size + 1, 1, none⟩) (show w.heap.size ≤ w.heap.size + 1 by omega) (.slice ax m cx)).setCell (p := ⟨w.heap.size + 1, 2, none⟩) (show w.heap.size ≤ w.heap.size + 1 by omega) (.slice ao j co))
          clear hfw hSat hown hQl hQok e1 e2 HFW HSAT HOWN
          by_cases hk1 : j < R.length
          · have hk2 : ¬ j < 24 := by omega
            clear hlt
            go_wp2
            refine bodyPost_ret (results_cell_row rfl _ _ (w.heap.size + 1) 54 _ (0, 0) _ rfl HH1.out Tryd.underlying54 rfl (by kernel_rfl)) rfl ?_
            exact ⟨size, _, _, S, Q, rfl, hs1, hs2, by rw [HSM.out]; exact hm1, by rw [HSM.out]; exact hm2, HSOK.out, by rw [HQL.out]; exact hj24, fun q hq => by rw [HSM.out, ← HP.out]; exact HQOK.out q hq, SymsAt.base HSF.out (by omega), by rw [HQL.out]; exact ownsRow_base HOF.out (by omega), HBF.out⟩
          · clear hlt
            go_wp2
            refine bodyPost_ret (results_cell_row rfl _ _ (w.heap.size + 1) 54 _ (0, 0) _ rfl HH1.out Tryd.underlying54 rfl (by kernel_rfl)) rfl ?_
            exact ⟨size, _, _, S, Q, rfl, hs1, hs2, by rw [HSM.out]; exact hm1, by rw [HSM.out]; exact hm2, HSOK.out, by rw [HQL.out]; exact hj24, fun q hq => by rw [HSM.out, ← HP.out]; exact HQOK.out q hq, SymsAt.base HSF.out (by omega), by rw [HQL.out]; exact ownsRow_base HOF.out (by omega), HBF.out⟩


end Go.Proofs.YtnkkaggepokjeaaDoor
