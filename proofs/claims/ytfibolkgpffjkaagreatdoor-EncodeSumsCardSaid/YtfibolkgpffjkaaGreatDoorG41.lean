import Derived.Test.YtfibolkgpffjkaaGreatDoorG28
import Derived.Test.YtfibolkgpffjkaaGreatDoorG09
import Derived.Test.YtfibolkgpffjkaaGreatDoorG13
import Derived.Test.YtfibolkgpffjkaaGreatDoorG17
import Derived.Test.YtfibolkgpffjkaaGreatDoorG14
import Derived.Test.YtfibolkgpffjkaaGreatDoorG24
import Derived.Test.YtfibolkgpffjkaaGreatDoorG22
import Derived.Deep.Cut
import Derived.Deep.CutBlock
import Derived.Deep.DeepCutAuto

section
/- The twelfth layer's laws: fit. -/
namespace Go.Proofs.YtfibolkgpffjkaaGreatDoor
open Go.RowKit Go.Extern.Stop Go.Stop Go.Extern

section
variable {w : World} {B : Nat} {v : Value} {S : List (List Nat)}
theorem SymsAt.set (h : SymsAt w B v S) {g : Nat} {cur : Array Value} (hg : w.heap[g]? = some (Obj.cells cur 24 (0, 0))) (j : Nat) (u : Value) : SymsAt (w.setCell ⟨g, j, none⟩ u) B v S := by
  obtain ⟨vs, h1, h2⟩ := h
  exact ⟨vs, own_set h1 hg (by decide) j u, fun i hi => own_set (h2 i hi) hg (by decide) j u⟩
end
/-- fit's boxes: what came in, its result, what it builds. -/
structure FitB (w wr : World) (x1 x2 sz sv : Value) : Prop where
  bel : Below w.heap.size w wr
  lt : w.heap.size + 1 + 1 < wr.heap.size
  h0 : wr.heap[w.heap.size]? = some (.cells #[x1, x2] 24 (0, 0))
  h1 : wr.heap[w.heap.size + 1]? = some (.cells #[.int .i64 0, nilS] 24 (0, 0))
  h2 : wr.heap[w.heap.size + 1 + 1]? = some (.cells #[sz, sv] 24 (0, 0))
theorem fit12_laid (w : World) (x1 x2 sz : Value) : ∃ w0, w0 = ((w.alloc (.cells #[x1, x2] 24)).alloc (.cells #[.int .i64 0, nilS] 24)).alloc (.cells #[sz, nilS] 24) ∧ FitB w w0 x1 x2 sz nilS := by
  have z1 : (w.alloc (.cells #[x1, x2] 24)).heap.size = w.heap.size + 1 := World.size_alloc _ _
  have z2 : ((w.alloc (.cells #[x1, x2] 24)).alloc (.cells #[.int .i64 0, nilS] 24)).heap.size = w.heap.size + 1 + 1 := by rw [World.size_alloc, z1]
  have a1 : (w.alloc (.cells #[x1, x2] 24)).heap[w.heap.size]? = some (.cells #[x1, x2] 24 (0, 0)) := heap_alloc_new w _
  have a2 := heap_alloc_new (w.alloc (.cells #[x1, x2] 24)) (.cells #[.int .i64 0, nilS] 24)
  rw [z1] at a2
  have a3 := heap_alloc_new ((w.alloc (.cells #[x1, x2] 24)).alloc (.cells #[.int .i64 0, nilS] 24)) (.cells #[sz, nilS] 24)
  rw [z2] at a3
  refine ⟨_, rfl, (((Below.refl _ _).alloc (Nat.le_refl _) _).alloc (by omega) _).alloc (by omega) _, by rw [World.size_alloc, z2]; omega, ?_, ?_, a3⟩
  · rw [Below.heap_alloc _ _ _ (by omega), Below.heap_alloc _ _ _ (by omega)]; exact a1
  · rw [Below.heap_alloc _ _ _ (by omega)]; exact a2
section
variable {w wr w' : World} {x1 x2 sz sv : Value}
theorem FitB.mono (h : FitB w wr x1 x2 sz sv) (hb : Below wr.heap.size wr w') : FitB w w' x1 x2 sz sv := by
  have hl := h.lt
  exact ⟨h.bel.trans (hb.mono (by omega)), Nat.lt_of_lt_of_le hl hb.size, (hb.block _ (by omega)).trans h.h0, (hb.block _ (by omega)).trans h.h1, (hb.block _ hl).trans h.h2⟩
theorem FitB.grown {row : Option Nat} (h : FitB w wr x1 x2 sz sv) (hg : wr.grownBy w' row) (hr : ∀ k, row = some k → w.heap.size + 1 + 1 < k) : FitB w w' x1 x2 sz sv := by
  have hl := h.lt
  have ne : ∀ k, k ≤ w.heap.size + 1 + 1 → some k ≠ row := fun k hk e => by have := hr k e.symm; omega
  exact ⟨h.bel.grown hg (by omega) (fun k e => by have := hr k e; omega), Nat.lt_of_lt_of_le hl hg.size, (hg.block _ (by omega) (ne _ (by omega))).trans h.h0, (hg.block _ (by omega) (ne _ (by omega))).trans h.h1, (hg.block _ hl (ne _ (by omega))).trans h.h2⟩
theorem FitB.set1 (h : FitB w wr x1 x2 sz sv) (u : Value) : FitB w (wr.setCell ⟨w.heap.size + 1 + 1, 1, none⟩ u) x1 x2 sz u := by
  have hl := h.lt
  exact ⟨h.bel.setCell (p := ⟨w.heap.size + 1 + 1, 1, none⟩) (show w.heap.size ≤ w.heap.size + 1 + 1 by omega) u, by rw [World.size_setCell]; exact hl, (Below.heap_setCell _ _ _ _ (show w.heap.size ≠ w.heap.size + 1 + 1 by omega)).trans h.h0,
    (Below.heap_setCell _ _ _ _ (show w.heap.size + 1 ≠ w.heap.size + 1 + 1 by omega)).trans h.h1, heap_setCell_at h.h2⟩
end

set_option maxRecDepth 1000000 in
set_option maxHeartbeats 4000000 in
theorem fit12 {w : World} (n : Int) (v1 : Value) (L : List (List Nat)) (h1 : MatAt byteV w v1 L) (hL : ∀ r ∈ L, Octets r) :
    Calls Tryz.prog 10 #[.agg #[.int .i64 n, v1]] w fun e w' => ∃ (size : Nat) (u1 : Value) (S : List (List Nat)), e = .returned (.agg #[.int .i64 (size : Int), u1]) ∧
      1 ≤ size ∧ size ≤ 4 ∧ 1 ≤ S.length ∧ S.length ≤ 20 ∧ SizeOk S size ∧ SymsAt w' w.heap.size u1 S ∧ Below w.heap.size w w' := by
  obtain ⟨i0, hi, hz0, hz1, hz2⟩ := info_parts info_u8
  obtain ⟨j0, hj0, jz0, jz1, jz2⟩ := info_parts info_sym
  obtain ⟨size, hsize, hs1, hs2⟩ : ∃ size : Nat, wrap64 (1 + wrap64 ((IntKind.u64.wrap n).tmod 4)) = (size : Int) ∧ 1 ≤ size ∧ size ≤ 4 := by
    have hw : 0 ≤ IntKind.u64.wrap n := by rw [IntKind.wrap_u64]; omega
    have e : (IntKind.u64.wrap n).tmod 4 = (IntKind.u64.wrap n) % 4 := Int.tmod_eq_emod_of_nonneg hw
    have h0 : 0 ≤ (IntKind.u64.wrap n) % 4 := Int.emod_nonneg _ (by decide)
    have h4 : (IntKind.u64.wrap n) % 4 < 4 := Int.emod_lt_of_pos _ (by decide)
    rw [e, IntWalk.wrap64_in ((IntKind.u64.wrap n) % 4) (by omega), IntWalk.wrap64_in _ (by omega)]
    exact ⟨(1 + (IntKind.u64.wrap n) % 4).toNat, by omega, by omega, by omega⟩
  have HSIZE := Lib.hid hsize
  obtain ⟨w0, hw0, hf0⟩ := fit12_laid w (.int .i64 n) v1 (.int .i64 (size : Int))
  have HW0 := Lib.hid hw0
  have HF0 := Lib.hid hf0
  have HOL := Lib.hid hL
  have hlenL := h1.len
  obtain ⟨al, cl, rfl, hcl, -, hcellL⟩ := h1.opens
  have HCL := Lib.hid hcellL
  clear hsize hw0 hf0 hL hcellL h1
  have hsI : (1 : Int) ≤ (size : Int) := by omega
  go_enter Tryz.func10, Tryz.ntmps10
  go_upto_block 0 with fail
  simp only [HSIZE.out]
  rw [← HW0.out]
  go_cut [4] from 5 (fun _ wx => ∃ sv S, S.length ≤ 20 ∧ SizeOk S size ∧ SymsAt wx (w.heap.size + 1 + 1 + 1) sv S ∧ FitB w wx (.int .i64 n) (.slice al L.length cl) (.int .i64 (size : Int)) sv)
  case first =>
    go_wp2_with fail
    go_loopw [4] (fun i wr => ∃ k : Nat, k ≤ L.length ∧ k ≤ 20 ∧ i = .int .i64 k ∧ ∃ sv S, S.length = k ∧ SizeOk S size ∧ SymsAt wr (w.heap.size + 1 + 1 + 1) sv S ∧ FitB w wr (.int .i64 n) (.slice al L.length cl) (.int .i64 (size : Int)) sv) (fun i _ => 20 - (intOf i).toNat)
    case atStart => exact ⟨0, Nat.zero_le _, Nat.zero_le _, rfl, nilS, [], rfl, fun r hr => by simp at hr, SymsAt.nil _ _, HF0.out⟩
    case round =>
      obtain ⟨k, hk, hk20, rfl, sv, S, hSl, hSok, hSat, hfw⟩ := hrel
      have hx1 := cell_of_heap (j := 1) (u := .slice al L.length cl) hfw.h0 rfl
      have hy0 := cell_of_heap (j := 0) (u := .int .i64 (size : Int)) hfw.h2 rfl
      by_cases hlt : k < L.length ∧ k < 20
      · obtain ⟨hlt, hlt20⟩ := hlt
        obtain ⟨b, off, rfl, hcc⟩ := HCL.out (by omega)
        obtain ⟨x, hx, hlx⟩ := hcc k hlt
        have hblt : b < w.heap.size := World.block_lt_of_cell? w _ hx
        have hxr := (hfw.bel.cell (p := ⟨b, off + k, none⟩) hblt).trans hx
        have HRO := Lib.hid (HOL.out _ (getD_mem_row hlt))
        obtain ⟨ra, rc, rfl, hrc, -, hrcell⟩ := hlx.bytes _ rfl
        obtain ⟨vs, hown, hels⟩ := hSat
        rw [hSl] at hown hels
        have HOWN := Lib.hid hown
        have HELS := Lib.hid hels
        obtain ⟨asx, csx, rfl, hsc, -⟩ := own_open hown
        have HFW := Lib.hid hfw
        have HSL := Lib.hid hSl
        have HSOK := Lib.hid hSok
        have hlt3 := hfw.lt
        have hrl := hlx.len
        have HSRC : Hid (∀ wA, Below wr.heap.size wr wA → 0 < (((L.getD k []).take size).map byteV).length → ∃ ad, ra = some ad ∧ ∀ j u, (((L.getD k []).take size).map byteV)[j]? = some u → wA.cell? (ad.add j) = some u) := Lib.hid fun wA hbA hp => by
          rw [List.length_map, List.length_take] at hp
          obtain ⟨b2, off2, e2, h2⟩ := hrcell (by omega)
          refine ⟨⟨b2, off2, none⟩, e2, fun j u hu => ?_⟩
          have hj : j < ((L.getD k []).take size).length := by have := (List.getElem?_eq_some_iff.1 hu).1; rwa [List.length_map] at this
          rw [List.length_take] at hj
          have hj2 : j < (L.getD k []).length := by omega
          have hj3 : j < size := by omega
          have h3 := h2 j hj2
          have hb2 : b2 < w.heap.size := World.block_lt_of_cell? w _ h3
          rw [Go.WideShapes.add_plain, (hfw.bel.trans (hbA.mono (by omega))).cell (p := ⟨b2, off2 + j, none⟩) hb2, h3, ← hu, List.getElem?_map, List.getElem?_take, if_pos hj3, List.getElem?_eq_getElem hj2, List.getD_eq_getElem?_getD, List.getElem?_eq_getElem hj2]
          rfl
        clear hcc hx hlx hrcell hown hels hfw hSok
        generalize hr : L.getD k [] = r at *
        clear hr
        go_wp2_with (first
          | (at_make; refine wpList_make_full _ rfl _ _ 38 rfl wr.heap.size 5 i0 (.int .u8 0) 1 Tryz.underlying38 hi hz0 hz1 .i64 .i64 _ _ size rfl rfl rfl rfl (by rw [hz2]; omega) (by unfold maxLen; omega) (Nat.le_refl _) ?_; intro wA hownA hgrowA; have HBA := Lib.hid ((Below.refl wr.heap.size wr).grown hgrowA (Nat.le_refl _) (fun k hk => by cases hk)); have hownA' : wA.ownsRow wr.heap.size 5 1 (.slice (some ⟨wr.heap.size, 0, none⟩) size size) size ((List.replicate size 0).map byteV) := (by rw [List.map_replicate]; rw [Nat.mul_one] at hownA; exact toList_madeCells_one (.int .u8 0) size ▸ hownA); have HHA := Lib.hid (own_full hownA').2.2; have hxA := (HBA.out.cell (p := ⟨w.heap.size, 1, none⟩) (show w.heap.size < wr.heap.size by omega)).trans hx1; have hxB := (HBA.out.cell (p := ⟨b, off + k, none⟩) (show b < wr.heap.size by omega)).trans hxr; clear hownA hgrowA hownA')
          | ((with_reducible show wpList _ _ _ (⟨some 33, _, _, _, _, _⟩ :: _) _ _); go_loud (refine wpList_copy_splice rfl (.tmp 27) (.tmp 32) 38 38 rfl 5 Tryz.underlying38 (by rw [hi]; exact congrArg some hz1) (some ⟨wr.heap.size, 0, none⟩) ra size size r.length rc rfl rfl wr.heap.size 0 ((List.replicate size 0).map byteV) 5 HHA.out ((r.take size).map byteV) (by rw [List.length_map, List.length_take]; exact Nat.min_comm _ _) (fun hp => ⟨rfl, HSRC.out wA HBA.out hp⟩) (by simp; omega) (fun u hu => by obtain ⟨y, _, rfl⟩ := List.mem_map.1 hu; rfl) wr.heap.size wr HBA.out (Nat.le_refl _) ?_); intro wB hgB hbB; have HGB := hgB; have HBB := Lib.hid hbB; have HFB := Lib.hid (HFW.out.mono hbB); have hsB := hbB.size; have hcB := cell_of_heap (j := 1) (u := .slice asx k csx) HFB.out.h2 rfl; have HNB : Hid (wB.ownsRow (w.heap.size + 1 + 1 + 1) 5 1 (.slice (some ⟨wr.heap.size, 0, none⟩) size size) size ((padRow r size).map byteV)) := Lib.hid (by
              have h := HGB.out
              rw [padRow_splice] at h
              exact own_of_heap (by omega) (by rw [List.length_map, padRow_length]) (by unfold maxLen; omega) h); clear hgB hbB HGB)
          | (at_builtin; refine wpList_append_own _ rfl (.tmp 35) (.tmp 37) 22 rfl (w.heap.size + 1 + 1 + 1) 38 j0 (.slice none 0 0) 1 24 Tryz.underlying22 hj0 jz0 jz1 jz2 rfl (by decide) (.slice asx k csx) k vs rfl ((owns_kept HOWN.out HBB.out).alloc _) ⟨wB.heap.size, 0, none⟩ 1 1 [.slice (some ⟨wr.heap.size, 0, none⟩) size size] rfl rfl (cell_one_new _ _ _) (fun x hx => by simp at hx; subst hx; rfl) (by unfold maxLen; omega) (by omega) (by simp; omega) ?_; intro vC wC hownC hgrowC _; have HFC := Lib.hid ((HFB.out.mono ((Below.refl _ _).alloc (Nat.le_refl _) _)).grown hgrowC (fun k hk => by have := (HOWN.out.lt k hk).1; omega)); have HSC : Hid (SymsAt wC (w.heap.size + 1 + 1 + 1) vC (S ++ [padRow r size])) := Lib.hid (SymsAt.snoc (by rw [HSL.out]; exact (owns_kept HOWN.out HBB.out).alloc _) (fun i hi => (owns_kept (HELS.out i (by rw [← HSL.out]; exact hi)) HBB.out).alloc _) (by rw [padRow_length]; exact HNB.out.alloc _) (by rw [HSL.out]; exact hownC) hgrowC); have hcC := cell_of_heap (j := 1) (u := .slice asx k csx) HFC.out.h2 rfl; have hfC := frozen_of_heap (j := 1) HFC.out.h2; obtain ⟨aC, cC, rfl, -, -⟩ := own_open hownC; clear hownC hgrowC))
        go_wp2
        go_roundw
        case rel => exact ⟨k + 1, by omega, by omega, by go_num, _, S ++ [padRow r size], by rw [List.length_append, HSL.out]; rfl, HSOK.out.snoc ⟨padRow_length _ _, padRow_octets HRO.out⟩, HSC.out.set HFC.out.h2 1 _, HFC.out.set1 _⟩
        case measure => simp [intOf]; omega
      · obtain ⟨vs, hown, hels⟩ := hSat
        have HSAT : Hid (SymsAt wr (w.heap.size + 1 + 1 + 1) sv S) := Lib.hid ⟨vs, hown, hels⟩
        have hlt3 := hfw.lt
        have HFW := Lib.hid hfw
        have HSL := Lib.hid hSl
        have HSOK := Lib.hid hSok
        clear hown hels hfw hSok
        by_cases hk1 : k < L.length
        · have hk2 : ¬ k < 20 := by omega
          clear hlt
          go_wp2_with fail
          go_meet
          case rel => exact ⟨sv, S, by rw [HSL.out]; exact hk20, HSOK.out, HSAT.out, HFW.out⟩
        · clear hlt
          go_wp2_with fail
          go_meet
          case rel => exact ⟨sv, S, by rw [HSL.out]; exact hk20, HSOK.out, HSAT.out, HFW.out⟩
  case rest =>
    clear HF0 HW0 HCL HOL
    obtain ⟨sv, S, hS20, hSok, hSat, hfw⟩ := hcut
    obtain ⟨vs, hown, hels⟩ := hSat
    have HSAT : Hid (SymsAt wc (w.heap.size + 1 + 1 + 1) sv S) := Lib.hid ⟨vs, hown, hels⟩
    obtain ⟨asx, csx, rfl, hsc, -⟩ := own_open hown
    have hc1 := cell_of_heap (j := 1) (u := .slice asx S.length csx) hfw.h2 rfl
    have hy0 := cell_of_heap (j := 0) (u := .int .i64 (size : Int)) hfw.h2 rfl
    have hf1 := frozen_of_heap (j := 1) hfw.h2
    have hlt3 := hfw.lt
    have HFW := Lib.hid hfw
    have HSOK := Lib.hid hSok
    clear hown hels hfw hSok
    go_upto_if 43 with fail
    go_cut [4] from 5 (fun _ wx => ∃ (ax : Option Addr) (m cx : Nat) (S : List (List Nat)), 1 ≤ m ∧ m ≤ 20 ∧ S.length = m ∧ SizeOk S size ∧ SymsAt wx (w.heap.size + 1 + 1 + 1) (.slice ax m cx) S ∧ FitB w wx (.int .i64 n) (.slice al L.length cl) (.int .i64 (size : Int)) (.slice ax m cx))
    case first =>
      by_cases hz : S.length = 0
      · have hzb : ((S.length : Int) == 0) = true := by simp [hz]
        have hcw := hc1
        clear hz
        go_wp2_with (at_make; refine wpList_make_full _ rfl _ _ 38 rfl wc.heap.size 5 i0 (.int .u8 0) 1 Tryz.underlying38 hi hz0 hz1 .i64 .i64 _ _ size rfl rfl rfl rfl (by rw [hz2]; omega) (by unfold maxLen; omega) (Nat.le_refl _) ?_; intro wA hownA hgrowA; have HBA := Lib.hid ((Below.refl wc.heap.size wc).grown hgrowA (Nat.le_refl _) (fun k hk => by cases hk)); have hownA' : wA.ownsRow wc.heap.size 5 1 (.slice (some ⟨wc.heap.size, 0, none⟩) size size) size ((List.replicate size 0).map byteV) := (by rw [List.map_replicate]; rw [Nat.mul_one] at hownA; exact toList_madeCells_one (.int .u8 0) size ▸ hownA); have HOA := Lib.hid hownA'; have HFA := Lib.hid (HFW.out.mono HBA.out); have hcA := cell_of_heap (j := 1) (u := .slice asx S.length csx) HFA.out.h2 rfl; have hfA := frozen_of_heap (j := 1) HFA.out.h2; have hlA := HBA.out.size; have hltA := HFA.out.lt; clear hownA hgrowA hownA')
        go_meet
        case rel =>
          have hF1 := HFA.out.set1 (.slice (some ⟨wA.heap.size, 0, none⟩) 1 1)
          have ho1 := own_set (ownsRow_base HOA.out (show w.heap.size + 1 + 1 + 1 ≤ wc.heap.size by omega)) HFA.out.h2 (by decide) 1 (.slice (some ⟨wA.heap.size, 0, none⟩) 1 1)
          have hsz : (wA.setCell ⟨w.heap.size + 1 + 1, 1, none⟩ (.slice (some ⟨wA.heap.size, 0, none⟩) 1 1)).heap.size = wA.heap.size := World.size_setCell _ _ _
          generalize wA.setCell ⟨w.heap.size + 1 + 1, 1, none⟩ (.slice (some ⟨wA.heap.size, 0, none⟩) 1 1) = wS at *
          have hlit := World.ownsRow_lit (base := w.heap.size + 1 + 1 + 1) (e := 38) (size := 1) wS #[.slice (some ⟨wc.heap.size, 0, none⟩) size size] 1 (by omega) (by decide) rfl
          rw [hsz] at hlit
          have hbl : Below wS.heap.size wS (wS.alloc (.cells #[.slice (some ⟨wc.heap.size, 0, none⟩) size size] 38)) := (Below.refl _ _).alloc (Nat.le_refl _) _
          refine ⟨_, 1, 1, [List.replicate size 0], by decide, by decide, rfl, fun r hr => by rw [List.mem_singleton.1 hr]; exact ⟨List.length_replicate .., Octets.replicate size⟩, ⟨[.slice (some ⟨wc.heap.size, 0, none⟩) size size], hlit, fun i hi => ?_⟩, hF1.mono hbl⟩
          obtain rfl : i = 0 := by simpa using hi
          have h := owns_kept ho1 hbl
          show World.ownsRow _ _ _ 1 _ (List.replicate size 0).length _
          rw [List.length_replicate]
          exact h
      · have hzb : ((S.length : Int) == 0) = false := by rw [beq_eq_false_iff_ne]; omega
        have hS1 : 1 ≤ S.length := by omega
        clear hz
        go_wp2_with fail
        go_meet
        case rel => exact ⟨_, _, _, S, hS1, hS20, rfl, HSOK.out, HSAT.out, HFW.out⟩
    case rest =>
      clear HFW HSAT HSOK hc1 hf1 hlt3 hS20
      obtain ⟨ax, m, cx, S, hm1, hm2, hSm, hSok, hSat, hfw⟩ := hcut
      have hr0 := cell_of_heap (j := 0) (u := .int .i64 0) hfw.h1 rfl
      have hr1 := cell_of_heap (j := 1) (u := nilS) hfw.h1 rfl
      have hfr0 := frozen_of_heap (j := 0) hfw.h1
      have hfr1 := frozen_of_heap (j := 1) hfw.h1
      have hs0 := cell_of_heap (j := 0) (u := .int .i64 (size : Int)) hfw.h2 rfl
      have hs1' := cell_of_heap (j := 1) (u := .slice ax m cx) hfw.h2 rfl
      have HH1 := Lib.hid (heap_setCell_at (j := 1) (u := .slice ax m cx) (heap_setCell_at (j := 0) (u := .int .i64 (size : Int)) hfw.h1))
      have e1 := heap_setCell_at (j := 0) (u := .int .i64 (size : Int)) hfw.h1
      have HSF := Lib.hid ((hSat.set hfw.h1 0 (.int .i64 (size : Int))).set e1 1 (.slice ax m cx))
      have HBF := Lib.hid ((hfw.bel.setCell (p := ⟨w.heap.size + 1, 0, none⟩) (show w.heap.size ≤ w.heap.size + 1 by omega) (.int .i64 (size : Int))).setCell (p := ⟨w.heap.size + 1, 1, none⟩) (show w.heap.size ≤ w.heap.size + 1 by omega) (.slice ax m cx))
      have HSOK := Lib.hid hSok
      have HSM := Lib.hid hSm
      clear hfw hSat e1 hSok hSm
      go_wp2
      refine bodyPost_ret (results_row1 rfl _ _ (w.heap.size + 1) 24 _ (0, 0) _ rfl HH1.out Tryz.underlying24 rfl (by kernel_rfl)) rfl ?_
      exact ⟨size, _, S, rfl, hs1, hs2, by rw [HSM.out]; exact hm1, by rw [HSM.out]; exact hm2, HSOK.out, SymsAt.base HSF.out (by omega), HBF.out⟩
end Go.Proofs.YtfibolkgpffjkaaGreatDoor
end
