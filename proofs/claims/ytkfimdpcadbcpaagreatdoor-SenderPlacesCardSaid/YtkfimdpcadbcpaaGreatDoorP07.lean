import Derived.Test.YtkfimdpcadbcpaaGreatDoorChecked
import Derived.WalkKit
import Derived.ProofKit
import Derived.OpenShut
import Derived.Lib.Hide
import Derived.Laws.AppendOwn
import Derived.Laws.OwnMore
import Derived.Laws.MakeOwn
import Derived.Laws.CopyOwn
import Derived.Deep.AppendLies
import Derived.Lib.BitFns
import Derived.Lib.TrailingZeros
import Derived.Laws.Bits64b
import Derived.Laws.Bits128
import Derived.BigQuiet
import Derived.WalkSmall
import Derived.Deep.QuietTactic
import Derived.Laws.ShiftsVar
import Derived.OwnWalk
import Derived.WalkSpells
import Derived.WalkLawsBesides
import Derived.Deep.LoopGhost
import Derived.Deep.DeepHandedRow
import Derived.Deep.Strs
import Derived.LaidHandle
import Derived.ChangeSlices
import Derived.SizedLaws
import Derived.Deep.Matrix
import Derived.Deep.Grids
import Derived.Lib.SmallJoins
import Derived.LaidEql
import Derived.Stop.Asserts
import Derived.RowKitTokens
import Derived.Elder7
import Derived.Defers
import Derived.Recover
import Derived.Laws.Pointers
import Derived.Deep.RegionLaw
import Derived.Deep.RegionHeld3
import Derived.Maps.AppendAt
import Derived.LaidLaws
import Derived.ChangeArms
import Derived.ChangeSame
import Derived.FnData
import Derived.Shelf.Strconv.Itoa0
import Derived.Shelf.Spec.TrailingZeros
import Derived.Lib.SlBytesConst
import Derived.WalkMore
import Derived.Lib.AppendZerosOnto
import Derived.Lib.AppendZeros
import Derived.Laws.Append
import Derived.Deep.RegionHeld
import Derived.Deep.MidRow
import Derived.Deep.Cut
import Derived.Deep.CutBlock
import Derived.Deep.CutRange
import Derived.Deep.DeepCutAuto
import Derived.Laws.Bits64
import Derived.RangeFuncNested
import Derived.RangeFuncBound
import Derived.RangeFuncCalls
import Derived.RangeFuncLeaves
import Derived.Shelf.Abstract
import Derived.Shelf.RegionOpen
import Derived.OwnWalkIn
import Derived.TacticsInMore
import Derived.LoopNIn
import Derived.LoopIn
import Derived.StillTailTactics
import Derived.OrdersIn
import Derived.Shelf.Sort.Plain
import Derived.Sort.OwnSortedInts
import Derived.Laws.AppendOwnNone
import Derived.Lib.SliceRun
import Derived.Laws.Rows
import Derived.Deep.RegionWith
import Derived.StillTactics
import Derived.Test.YtkfimdpcadbcpaaGreatDoorP01
import Derived.Test.YtkfimdpcadbcpaaGreatDoorP03
import Derived.Test.YtkfimdpcadbcpaaGreatDoorP06
import Derived.Test.YtkfimdpcadbcpaaGreatDoorP02
import Derived.Test.YtkfimdpcadbcpaaGreatDoorA33
set_option linter.unusedSimpArgs false
set_option linter.unusedVariables false
set_option maxRecDepth 1000000
set_option maxHeartbeats 8000000
namespace Go.Proofs.YtkfimdpcadbcpaaGreatDoor
section
open Go.RowKit Go.Extern.Stop Go.Stop Go.Extern
def turnTo (k j : Nat) : List Nat := (List.range j).map fun i => (k + i) % 256
theorem yB7 {w : World} (v : Value) (p : Pkt) (hl : ListAt byteV w v (putP p)) (hck : ckN p = 0) (ho : Octets p.data) :
    Calls Tryz.prog 26 #[v] w fun e w' => ∃ D, e = .returned (.tuple #[.agg (pktC p D), .int .i64 0]) ∧ ListAt byteV w' D p.data ∧ Below w.heap.size w w' := by
  refine (yBB v (putP p) hl (yAW ho) (by have := yA3 hck; omega)).mono ?_
  rintro e w' ⟨v', k, q, rfl, hp, hg, hb⟩
  obtain ⟨rfl, rfl⟩ := yBP hck hg
  obtain ⟨D, rfl, hD⟩ := hp
  exact ⟨D, rfl, hD, hb⟩
theorem yBk : (Tryz.prog.info? 5).map (fun i => (i.zero, i.size, i.bytes)) = some (some (.int .u8 0), 1, 1) := by kernel_rfl
theorem yBZ {w w' : World} {e : TypeId} {v : Value} {k n base : Nat} {xs : List Value} (h : w.ownsRow base e k v n xs) (hs : ∀ b, v.ownBlock = some b → w'.heap[b]? = w.heap[b]?) : w'.ownsRow base e k v n xs := by
  refine ⟨h.1, ?_⟩
  rcases h.2 with h1 | ⟨g, cap, cur, rfl, h2, h3, h4⟩
  · exact .inl h1
  · exact .inr ⟨g, cap, cur, rfl, h2, (hs g rfl).trans h3, h4⟩
def rowF (G : Nat) (f : Nat → Nat) : List Value := (List.range G).map fun k => .int .i64 (f k : Int)
theorem yAm {G : Nat} {f : Nat → Nat} {k : Nat} (h : k < G) : (rowF G f).toArray[k]? = some (.int .i64 (f k : Int)) := by simp [rowF, h]
theorem yA8 (G : Nat) (f f' : Nat → Nat) (k : Nat) (v : Nat) (hv : f' k = v) (ho : ∀ x, x ≠ k → f' x = f x) : (rowF G f).toArray.setIfInBounds k (.int .i64 (v : Int)) = (rowF G f').toArray := by
  apply Array.ext'
  rw [Array.toList_setIfInBounds]
  apply List.ext_getElem?
  intro i
  show ((rowF G f).set k _)[i]? = (rowF G f')[i]?
  rw [List.getElem?_set]
  unfold rowF
  rw [List.length_map, List.length_range]
  by_cases hk : k = i
  · subst hk
    rw [if_pos rfl]
    by_cases hG : k < G
    · rw [if_pos hG, List.getElem?_map, List.getElem?_range hG, ← hv]; rfl
    · rw [if_neg hG, List.getElem?_eq_none (by simp; omega)]
  · rw [if_neg hk, List.getElem?_map, List.getElem?_map]
    by_cases hG : i < G
    · rw [List.getElem?_range hG]
      show some (Value.int .i64 (f i : Int)) = some (Value.int .i64 (f' i : Int))
      rw [ho i (fun e => hk e.symm)]
    · rw [List.getElem?_eq_none (by simp; omega)]
      rfl
theorem yAx {G : Nat} {f f' : Nat → Nat} (h : ∀ k, k < G → f k = f' k) : rowF G f = rowF G f' := List.map_congr_left fun k hk => by rw [h k (List.mem_range.1 hk)]
theorem yAL (G : Nat) : List.replicate G (Value.int .i64 0) = rowF G fun _ => 0 := by
  apply List.ext_getElem?
  intro i
  unfold rowF
  rw [List.getElem?_map, List.getElem?_replicate]
  by_cases hG : i < G
  · rw [if_pos hG, List.getElem?_range hG]; rfl
  · rw [if_neg hG, List.getElem?_eq_none (by simp; omega)]; rfl
theorem yB9 {B : Nat} {w : World} {v : Value} {L : List (Nat × List Nat)} {ln : Nat} (h : DgsNew B w v L) (hl : ln = L.length) (hp : 0 < ln) : ∃ b off cap, v = .slice (some ⟨b, off, none⟩) ln cap ∧ ∀ j x, L[j]? = some x → ∃ D, ∀ V, Below w.heap.size w V → V.cell? ⟨b, off + j * 2, none⟩ = some (.int .i64 (x.1 : Int)) ∧ V.cell? ⟨b, off + j * 2 + 1, none⟩ = some D ∧ ListAt byteV V D x.2 := by
  subst hl
  obtain ⟨a, cap, rfl, -, -, hc⟩ := (DgsNew.at h).opens
  obtain ⟨b, off, rfl, hcc⟩ := hc hp
  refine ⟨b, off, cap, rfl, fun j x hj => ?_⟩
  obtain ⟨cs, ⟨D, rfl, hD⟩, hcs⟩ := hcc j x hj
  have h0 := hcs 0 _ rfl
  have h1 := hcs 1 _ rfl
  exact ⟨D, fun V hV => ⟨(hV.cell (p := ⟨b, off + j * 2, none⟩) (World.block_lt_of_cell? w _ h0)).trans h0, (hV.cell (p := ⟨b, off + j * 2 + 1, none⟩) (World.block_lt_of_cell? w _ h1)).trans h1, hD.1.mono hV⟩⟩
theorem yBj {w : World} (k l : Nat) (hk : k < 256) (hl : l < 256) : Calls Tryz.prog 23 #[.int .u8 (k : Int), .int .u8 (l : Int)] w fun e w' => ∃ v, e = .returned (.tuple #[.agg (cfgC (turnC k l)), v]) ∧ w'.ownsRow w.heap.size 5 1 v (turnL k).length ((turnL k).map byteV) ∧ Below w.heap.size w w' := by
  obtain ⟨i0, hi, hz0, hz1, hz2⟩ := info_parts yBk
  obtain ⟨w0, hw0, hb0, hp0⟩ := zAM w ⟨0, 0, 0, 0, 0, 0, 0, 0⟩
  have HW0 := lhd hw0
  have HB0 := lhd hb0
  have HP0 := lhd hp0
  obtain ⟨l4, h4⟩ : ∃ x, l % 4 = x := ⟨_, rfl⟩
  obtain ⟨k3, h3⟩ : ∃ x, k % 3 = x := ⟨_, rfl⟩
  obtain ⟨k5, h5⟩ : ∃ x, k % 5 = x := ⟨_, rfl⟩
  obtain ⟨k4, hk4⟩ : ∃ x, k % 4 = x := ⟨_, rfl⟩
  obtain ⟨k2, h2⟩ : ∃ x, k % 2 = x := ⟨_, rfl⟩
  obtain ⟨k7, h7⟩ : ∃ x, k % 7 = x := ⟨_, rfl⟩
  obtain ⟨k6, h6⟩ : ∃ x, k % 6 = x := ⟨_, rfl⟩
  have bl4 : l4 < 4 := by omega
  have tl4 : (l : Int).tmod 4 = (l4 : Int) := by rw [← h4]; rfl
  have el4 : (l : Int) % 4 = (l4 : Int) := by rw [← h4]; rfl
  have bk3 : k3 < 3 := by omega
  have tk3 : (k : Int).tmod 3 = (k3 : Int) := by rw [← h3]; rfl
  have ek3 : (k : Int) % 3 = (k3 : Int) := by rw [← h3]; rfl
  have bk5 : k5 < 5 := by omega
  have tk5 : (k : Int).tmod 5 = (k5 : Int) := by rw [← h5]; rfl
  have ek5 : (k : Int) % 5 = (k5 : Int) := by rw [← h5]; rfl
  have bk4 : k4 < 4 := by omega
  have tk4 : (k : Int).tmod 4 = (k4 : Int) := by rw [← hk4]; rfl
  have ek4 : (k : Int) % 4 = (k4 : Int) := by rw [← hk4]; rfl
  have bk2 : k2 < 2 := by omega
  have tk2 : (k : Int).tmod 2 = (k2 : Int) := by rw [← h2]; rfl
  have ek2 : (k : Int) % 2 = (k2 : Int) := by rw [← h2]; rfl
  have bk7 : k7 < 7 := by omega
  have tk7 : (k : Int).tmod 7 = (k7 : Int) := by rw [← h7]; rfl
  have ek7 : (k : Int) % 7 = (k7 : Int) := by rw [← h7]; rfl
  have bk6 : k6 < 6 := by omega
  have tk6 : (k : Int).tmod 6 = (k6 : Int) := by rw [← h6]; rfl
  have ek6 : (k : Int) % 6 = (k6 : Int) := by rw [← h6]; rfl
  have HK6 : Hid (k % 6 = k6) := lhd h6
  have HTL : Hid (turnL k = turnTo k (2 + k6)) := lhd (by unfold turnL turnTo; rw [h6])
  have HTC : Hid (turnC k l = ⟨k, 1 + (l4 : Int), 16, 1 + (k3 : Int), 2 + (k5 : Int), 2 + (k4 : Int), if 2 + k4 ≤ 1 + k2 then 1 else 1 + (k2 : Int), 1 + (k7 : Int)⟩) := lhd (by
    unfold turnC turnM
    rw [h4, h3, h5, hk4, h2, h7]
    push_cast
    rfl)
  clear hw0 hb0 hp0 h4 h3 h5 hk4 h2 h7 h6
  have HC1 : Hid (∀ W : World, W.alloc (.cells (cfgC ⟨k, 1 + (l4 : Int), 16, 1 + (k3 : Int), 2 + (k5 : Int), 2 + (k4 : Int), 1 + (k2 : Int), 1 + (k7 : Int)⟩) 23) = W.alloc (.cells #[.int .i64 (k : Int), .int .i64 (1 + (l4 : Int)), .int .i64 16, .int .i64 (1 + (k3 : Int)), .int .i64 (2 + (k5 : Int)), .int .i64 (2 + (k4 : Int)), .int .i64 (1 + (k2 : Int)), .int .i64 (1 + (k7 : Int))] 23)) := lhd fun _ => rfl
  obtain ⟨w1, hw1⟩ : ∃ W, W = w0.alloc (.cells (cfgC ⟨k, 1 + (l4 : Int), 16, 1 + (k3 : Int), 2 + (k5 : Int), 2 + (k4 : Int), 1 + (k2 : Int), 1 + (k7 : Int)⟩) 23) := ⟨_, rfl⟩
  have hb1 : Below w0.heap.size w0 w1 := by rw [hw1]; exact (Below.refl _ _).alloc (Nat.le_refl _) _
  obtain ⟨gq, hgq⟩ : ∃ gq, gq = w0.heap.size := ⟨_, rfl⟩
  have HGQ := lhd hgq
  have HW1 := lhd hw1
  have HB1 := lhd (HB0.out.trans (hb1.mono HB0.out.size))
  have HQ1 : Hid (CfgBox w1 gq ⟨k, 1 + (l4 : Int), 16, 1 + (k3 : Int), 2 + (k5 : Int), 2 + (k4 : Int), 1 + (k2 : Int), 1 + (k7 : Int)⟩) := lhd (by rw [hw1, hgq]; exact heap_alloc_new _ _)
  have HP1 := lhd (HP0.out.mono hb1)
  have HZ0 := lhd HB0.out.size
  have HNE : Hid (w.heap.size ≠ gq) := lhd (by have := HP0.out.lt; omega)
  clear hw1 hb1 hgq
  by_cases hbb : 2 + k4 ≤ 1 + k2
  · have hd : decide ((2 : Int) + (k4 : Int) ≤ 1 + (k2 : Int)) = true := decide_eq_true (by omega)
    have HCF : Hid (turnC k l = ⟨k, 1 + (l4 : Int), 16, 1 + (k3 : Int), 2 + (k5 : Int), 2 + (k4 : Int), 1, 1 + (k7 : Int)⟩) := lhd (by rw [HTC.out, if_pos hbb])
    obtain ⟨w2, hw2⟩ : ∃ W, W = w1.setCell ⟨gq, 6, none⟩ (.int .i64 1) := ⟨_, rfl⟩
    have HB2 : Hid (Below w.heap.size w w2) := lhd (by rw [hw2]; exact HB1.out.setCell (p := ⟨gq, 6, none⟩) (by have := HGQ.out; have := HZ0.out; show w.heap.size ≤ gq; omega) _)
    have HQ2 : Hid (CfgBox w2 gq ⟨k, 1 + (l4 : Int), 16, 1 + (k3 : Int), 2 + (k5 : Int), 2 + (k4 : Int), 1, 1 + (k7 : Int)⟩) := lhd (by
      have h := HQ1.out
      unfold CfgBox at *
      rw [hw2, zAc h]
      rfl)
    have HP2 : Hid (CfgBox w2 w.heap.size ⟨0, 0, 0, 0, 0, 0, 0, 0⟩) := lhd (by
      have h := HP1.out
      unfold CfgBox at *
      rw [hw2, Below.heap_setCell _ _ _ _ HNE.out]
      exact h)
    have HW2 : Hid (w1.setCell ⟨gq, 6, none⟩ (.int .i64 1) = w2) := lhd hw2.symm
    clear hw2 hbb
    go_enter Tryz.func23, Tryz.ntmps23
    go_upto_region 1 with fail
    rw [← HW0.out]
    go_upto_region 3 with ((with_reducible show wpList _ _ _ (⟨none, _, _, _, _, _⟩ :: _) _ _); refine zAf (cfgC ⟨k, 1 + (l4 : Int), 16, 1 + (k3 : Int), 2 + (k5 : Int), 2 + (k4 : Int), 1 + (k2 : Int), 1 + (k7 : Int)⟩) rfl 23 (.tmp 7) (.tmp 37) rfl rfl rfl (by kernel_rfl) (by rfl) (by kernel_rfl) ?_)
    rw [← HW1.out, ← HGQ.out]
    have f6 := zAb (j := 6) HQ1.out
    obtain ⟨c0, c1, c2, c3, c4, c5, c6, c7⟩ := HQ1.out.cells
    go_upto_region 5 with fail
    rw [HW2.out]
    clear c0 c1 c2 c3 c4 c5 c6 c7 f6
    go_wp2_with (at_make; refine wpList_make_full _ rfl _ _ 31 rfl w2.heap.size 5 i0 (.int .u8 0) 1 Tryz.underlying31 hi hz0 hz1 .i64 .i64 _ _ (2 + k6) rfl rfl (by push_cast; rfl) (by push_cast; rfl) (by rw [hz2]; omega) (by unfold maxLen; omega) (Nat.le_refl _) ?_; intro w3 hown0 hgrow0; have HO3 := lhd hown0; have HB23 := lhd ((Below.refl w2.heap.size w2).grown hgrow0 (Nat.le_refl _) (fun k hk => by cases hk)); clear hown0 hgrow0)
    obtain ⟨gr, hgr⟩ : ∃ gr, gr = w2.heap.size := ⟨_, rfl⟩
    have HGR := lhd hgr
    have HH3 : Hid (w3.heap[gr]? = some (.cells ((turnTo k 0).map byteV ++ List.replicate (2 + k6 - 0) (Value.int .u8 0)).toArray 5 (0, 0))) := lhd (by
      have := (zAQ HO3.out).2.2
      rw [Nat.mul_one, show (Value.int .u8 0).cells = #[Value.int .u8 0] from rfl, toList_madeCells_one] at this
      rw [hgr, this]
      rfl)
    rw [← hgr]
    clear HO3 hgr
    go_loopw [9] (fun i wr => ∃ j : Nat, j ≤ 2 + k6 ∧ i = .int .i64 (j : Int) ∧ wr.heap[gr]? = some (.cells ((turnTo k j).map byteV ++ List.replicate (2 + k6 - j) (Value.int .u8 0)).toArray 5 (0, 0)) ∧ Below w2.heap.size w2 wr) (fun i _ => 2 + k6 - (intOf i).toNat)
    case atStart => exact ⟨0, Nat.zero_le _, rfl, HH3.out, HB23.out⟩
    case round =>
      obtain ⟨j, hj, rfl, hrow, hbel⟩ := hrel
      have HR := lhd hrow
      have HB := lhd hbel
      by_cases hlt : j < 2 + k6
      · have d1 : decide ((j : Int) < 2 + (k6 : Int)) = true := decide_eq_true (by omega)
        have hwj : IntKind.u8.wrap (j : Int) = (j : Int) := by rw [IntKind.wrap_u8]; omega
        have hwk : IntKind.u8.wrap ((k : Int) + (j : Int)) = (((k + j) % 256 : Nat) : Int) := by rw [IntKind.wrap_u8]; omega
        obtain ⟨r, hr⟩ : ∃ r, 2 + k6 - j = r + 1 := ⟨2 + k6 - j - 1, by omega⟩
        have HRR := lhd hr
        have HR2 : Hid (2 + k6 - (j + 1) = r) := lhd (by omega)
        have HL : Hid (((turnTo k j).map byteV).length = j) := lhd (by simp [turnTo])
        have HTS : Hid ((turnTo k (j + 1)).map byteV = (turnTo k j).map byteV ++ [.int .u8 (((k + j) % 256 : Nat) : Int)]) := lhd (by unfold turnTo; rw [List.range_succ, List.map_append, List.map_append]; rfl)
        have cr : wr.cell? ⟨gr, j, none⟩ = some (.int .u8 0) := zAa hrow (by
          rw [hr]
          have := HL.out
          simp [List.getElem?_append_right, this])
        have fr := zAb (j := j) hrow
        generalize (k + j) % 256 = y at *
        clear hrow hbel hr
        go_wp2_with fail
        go_roundw
        case rel =>
          refine ⟨j + 1, by omega, by go_num, ?_, HB.out.setCell (p := ⟨gr, j, none⟩) (by have := HGR.out; show w2.heap.size ≤ gr; omega) _⟩
          rw [zAc HR.out, HRR.out, HR2.out, HTS.out]
          have := zKR ((turnTo k j).map byteV) (.int .u8 (y : Int)) (Value.int .u8 0) r
          rw [HL.out] at this
          rw [this]
        case measure => simp [intOf]; omega
      · obtain rfl : j = 2 + k6 := by omega
        have d1 : decide ((2 : Int) + (k6 : Int) < 2 + (k6 : Int)) = false := decide_eq_false (by omega)
        have HQ4 := lhd (HQ2.out.mono HB.out)
        have HP4 := lhd (HP2.out.mono HB.out)
        have HZ2 := lhd HB2.out.size
        have HBW := lhd (HB2.out.trans (HB.out.mono HB2.out.size))
        have HRO : Hid (wr.ownsRow w.heap.size 5 1 (.slice (some ⟨gr, 0, none⟩) (2 + k6) (2 + k6)) (2 + k6) ((turnL k).map byteV)) := lhd (zAq (by have := HGR.out; have := HZ2.out; omega) (by rw [List.length_map, yAf, HK6.out]) (by unfold maxLen; omega) (by
          have := HR.out
          rw [Nat.sub_self, List.replicate_zero, List.append_nil] at this
          rw [HTL.out]
          exact this))
        clear hrow hbel
        go_wp2_with (first
          | ((with_reducible show wpList _ _ _ (⟨some 62, _, _, _, _, _⟩ :: _) _ _); refine wpList_load_row rfl 23 (.tmp 7) rfl gq rfl 23 _ (0, 0) _ HQ4.out Tryz.underlying23 rfl (by kernel_rfl) ?_)
          | ((with_reducible show wpList _ _ _ (⟨none, _, _, _, _, _⟩ :: _) _ _); refine wpList_store_row rfl 23 (.tmp 4) (.tmp 62) rfl w.heap.size _ rfl rfl 23 _ HP4.out (by kernel_rfl) (by rfl) (by kernel_rfl) ?_))
        refine bodyPost_ret (zAg rfl _ _ w.heap.size 23 _ (0, 0) _ rfl (setRow_heap _ _ _ _ _ _ HP4.out) Tryz.underlying23 rfl (by kernel_rfl)) rfl ?_
        refine ⟨_, by rw [HCF.out], ?_, below_setRow HBW.out (Nat.le_refl _) _⟩
        rw [yAf, HK6.out]
        refine zAp HRO.out fun g cur hg => setRow_other _ _ _ _ ?_
        rintro rfl
        have hp4 := HP4.out
        unfold CfgBox at hp4
        rw [hp4] at hg
        simp at hg
  · have hd : decide ((2 : Int) + (k4 : Int) ≤ 1 + (k2 : Int)) = false := decide_eq_false (by omega)
    have HCF : Hid (turnC k l = ⟨k, 1 + (l4 : Int), 16, 1 + (k3 : Int), 2 + (k5 : Int), 2 + (k4 : Int), 1 + (k2 : Int), 1 + (k7 : Int)⟩) := lhd (by rw [HTC.out, if_neg hbb])
    obtain ⟨w2, hw2⟩ : ∃ W, W = w1 := ⟨_, rfl⟩
    have HB2 : Hid (Below w.heap.size w w2) := lhd (by rw [hw2]; exact HB1.out)
    have HQ2 : Hid (CfgBox w2 gq ⟨k, 1 + (l4 : Int), 16, 1 + (k3 : Int), 2 + (k5 : Int), 2 + (k4 : Int), 1 + (k2 : Int), 1 + (k7 : Int)⟩) := lhd (by rw [hw2]; exact HQ1.out)
    have HP2 : Hid (CfgBox w2 w.heap.size ⟨0, 0, 0, 0, 0, 0, 0, 0⟩) := lhd (by rw [hw2]; exact HP1.out)
    have HW2 : Hid (w1 = w2) := lhd hw2.symm
    clear hw2 hbb
    go_enter Tryz.func23, Tryz.ntmps23
    go_upto_region 1 with fail
    rw [← HW0.out]
    go_upto_region 3 with ((with_reducible show wpList _ _ _ (⟨none, _, _, _, _, _⟩ :: _) _ _); refine zAf (cfgC ⟨k, 1 + (l4 : Int), 16, 1 + (k3 : Int), 2 + (k5 : Int), 2 + (k4 : Int), 1 + (k2 : Int), 1 + (k7 : Int)⟩) rfl 23 (.tmp 7) (.tmp 37) rfl rfl rfl (by kernel_rfl) (by rfl) (by kernel_rfl) ?_)
    rw [← HW1.out, ← HGQ.out]
    obtain ⟨c0, c1, c2, c3, c4, c5, c6, c7⟩ := HQ1.out.cells
    go_upto_region 5 with fail
    rw [HW2.out]
    clear c0 c1 c2 c3 c4 c5 c6 c7
    go_wp2_with (at_make; refine wpList_make_full _ rfl _ _ 31 rfl w2.heap.size 5 i0 (.int .u8 0) 1 Tryz.underlying31 hi hz0 hz1 .i64 .i64 _ _ (2 + k6) rfl rfl (by push_cast; rfl) (by push_cast; rfl) (by rw [hz2]; omega) (by unfold maxLen; omega) (Nat.le_refl _) ?_; intro w3 hown0 hgrow0; have HO3 := lhd hown0; have HB23 := lhd ((Below.refl w2.heap.size w2).grown hgrow0 (Nat.le_refl _) (fun k hk => by cases hk)); clear hown0 hgrow0)
    obtain ⟨gr, hgr⟩ : ∃ gr, gr = w2.heap.size := ⟨_, rfl⟩
    have HGR := lhd hgr
    have HH3 : Hid (w3.heap[gr]? = some (.cells ((turnTo k 0).map byteV ++ List.replicate (2 + k6 - 0) (Value.int .u8 0)).toArray 5 (0, 0))) := lhd (by
      have := (zAQ HO3.out).2.2
      rw [Nat.mul_one, show (Value.int .u8 0).cells = #[Value.int .u8 0] from rfl, toList_madeCells_one] at this
      rw [hgr, this]
      rfl)
    rw [← hgr]
    clear HO3 hgr
    go_loopw [9] (fun i wr => ∃ j : Nat, j ≤ 2 + k6 ∧ i = .int .i64 (j : Int) ∧ wr.heap[gr]? = some (.cells ((turnTo k j).map byteV ++ List.replicate (2 + k6 - j) (Value.int .u8 0)).toArray 5 (0, 0)) ∧ Below w2.heap.size w2 wr) (fun i _ => 2 + k6 - (intOf i).toNat)
    case atStart => exact ⟨0, Nat.zero_le _, rfl, HH3.out, HB23.out⟩
    case round =>
      obtain ⟨j, hj, rfl, hrow, hbel⟩ := hrel
      have HR := lhd hrow
      have HB := lhd hbel
      by_cases hlt : j < 2 + k6
      · have d1 : decide ((j : Int) < 2 + (k6 : Int)) = true := decide_eq_true (by omega)
        have hwj : IntKind.u8.wrap (j : Int) = (j : Int) := by rw [IntKind.wrap_u8]; omega
        have hwk : IntKind.u8.wrap ((k : Int) + (j : Int)) = (((k + j) % 256 : Nat) : Int) := by rw [IntKind.wrap_u8]; omega
        obtain ⟨r, hr⟩ : ∃ r, 2 + k6 - j = r + 1 := ⟨2 + k6 - j - 1, by omega⟩
        have HRR := lhd hr
        have HR2 : Hid (2 + k6 - (j + 1) = r) := lhd (by omega)
        have HL : Hid (((turnTo k j).map byteV).length = j) := lhd (by simp [turnTo])
        have HTS : Hid ((turnTo k (j + 1)).map byteV = (turnTo k j).map byteV ++ [.int .u8 (((k + j) % 256 : Nat) : Int)]) := lhd (by unfold turnTo; rw [List.range_succ, List.map_append, List.map_append]; rfl)
        have cr : wr.cell? ⟨gr, j, none⟩ = some (.int .u8 0) := zAa hrow (by
          rw [hr]
          have := HL.out
          simp [List.getElem?_append_right, this])
        have fr := zAb (j := j) hrow
        generalize (k + j) % 256 = y at *
        clear hrow hbel hr
        go_wp2_with fail
        go_roundw
        case rel =>
          refine ⟨j + 1, by omega, by go_num, ?_, HB.out.setCell (p := ⟨gr, j, none⟩) (by have := HGR.out; show w2.heap.size ≤ gr; omega) _⟩
          rw [zAc HR.out, HRR.out, HR2.out, HTS.out]
          have := zKR ((turnTo k j).map byteV) (.int .u8 (y : Int)) (Value.int .u8 0) r
          rw [HL.out] at this
          rw [this]
        case measure => simp [intOf]; omega
      · obtain rfl : j = 2 + k6 := by omega
        have d1 : decide ((2 : Int) + (k6 : Int) < 2 + (k6 : Int)) = false := decide_eq_false (by omega)
        have HQ4 := lhd (HQ2.out.mono HB.out)
        have HP4 := lhd (HP2.out.mono HB.out)
        have HZ2 := lhd HB2.out.size
        have HBW := lhd (HB2.out.trans (HB.out.mono HB2.out.size))
        have HRO : Hid (wr.ownsRow w.heap.size 5 1 (.slice (some ⟨gr, 0, none⟩) (2 + k6) (2 + k6)) (2 + k6) ((turnL k).map byteV)) := lhd (zAq (by have := HGR.out; have := HZ2.out; omega) (by rw [List.length_map, yAf, HK6.out]) (by unfold maxLen; omega) (by
          have := HR.out
          rw [Nat.sub_self, List.replicate_zero, List.append_nil] at this
          rw [HTL.out]
          exact this))
        clear hrow hbel
        go_wp2_with (first
          | ((with_reducible show wpList _ _ _ (⟨some 62, _, _, _, _, _⟩ :: _) _ _); refine wpList_load_row rfl 23 (.tmp 7) rfl gq rfl 23 _ (0, 0) _ HQ4.out Tryz.underlying23 rfl (by kernel_rfl) ?_)
          | ((with_reducible show wpList _ _ _ (⟨none, _, _, _, _, _⟩ :: _) _ _); refine wpList_store_row rfl 23 (.tmp 4) (.tmp 62) rfl w.heap.size _ rfl rfl 23 _ HP4.out (by kernel_rfl) (by rfl) (by kernel_rfl) ?_))
        refine bodyPost_ret (zAg rfl _ _ w.heap.size 23 _ (0, 0) _ rfl (setRow_heap _ _ _ _ _ _ HP4.out) Tryz.underlying23 rfl (by kernel_rfl)) rfl ?_
        refine ⟨_, by rw [HCF.out], ?_, below_setRow HBW.out (Nat.le_refl _) _⟩
        rw [yAf, HK6.out]
        refine zAp HRO.out fun g cur hg => setRow_other _ _ _ _ ?_
        rintro rfl
        have hp4 := HP4.out
        unfold CfgBox at hp4
        rw [hp4] at hg
        simp at hg
end
end Go.Proofs.YtkfimdpcadbcpaaGreatDoor
