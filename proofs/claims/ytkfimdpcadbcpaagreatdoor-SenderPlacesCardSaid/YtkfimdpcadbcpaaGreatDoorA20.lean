import Derived.Test.YtkfimdpcadbcpaaGreatDoorA18
import Derived.Test.YtkfimdpcadbcpaaGreatDoorA19
import Derived.RangeFuncNested
import Derived.RangeFuncBound
import Derived.RangeFuncCalls
import Derived.RangeFuncLeaves
import Derived.Shelf.Abstract
import Derived.Shelf.RegionOpen
import Derived.OwnWalkIn
import Derived.TacticsInMore
import Derived.LoopNIn
import Derived.LoopIn
import Derived.Test.YtkfimdpcadbcpaaGreatDoorA15
import Derived.Test.YtkfimdpcadbcpaaGreatDoorA07
import Derived.Test.YtkfimdpcadbcpaaGreatDoorA01
set_option linter.unusedSimpArgs false
set_option linter.unusedVariables false
set_option maxRecDepth 1000000
set_option maxHeartbeats 8000000
namespace Go.Proofs.YtkfimdpcadbcpaaGreatDoor
section
open Go.RowKit Go.Extern.Stop Go.Stop Go.Extern
theorem zK0 {w w' : World} {b n size r kb : Nat} {K : List Vec} {cl : Bool} (hs : Sys w b n size K r cl kb) (ht : Touch b kb w w') {g : Nat} {cur : Array Value} {e : TypeId} (he : e ≠ 242 ∧ e ≠ 244) (hg : w.heap[g]? = some (.cells cur e (0, 0))) : w'.heap[g]? = w.heap[g]? := by
  obtain ⟨f, rv, sv, h1, -, -⟩ := hs
  refine ht.block g (Array.getElem?_eq_some_iff.1 hg).1 (fun e1 => ?_) (fun e1 => ?_)
  · have := h1.obj
    rw [← e1, hg] at this
    simp at this
    exact he.1 this.2
  · obtain ⟨cur', hc⟩ := h1.kobj
    rw [← e1, hg] at hc
    simp at hc
    exact he.2 hc.2
theorem MatFresh.same {α : Type} {f : α → Value} {w w' : World} {te e : TypeId} {base : Nat} {v : Value} {L : List (List α)} (h : MatFresh f te base e w v L) (hs : ∀ (g : Nat) (cur : Array Value) (t : TypeId), t = te ∨ t = e → w.heap[g]? = some (.cells cur t (0, 0)) → w'.heap[g]? = w.heap[g]?) : MatFresh f te base e w' v L := by
  obtain ⟨vs, h1, h2, h3⟩ := h
  refine ⟨vs, zAp h1 fun g cur hg => hs g cur e (.inr rfl) hg, fun i => ?_, h3⟩
  obtain ⟨⟨a, cap, ev, k1, k2, k3⟩, k4⟩ := h2 i
  by_cases hp : 0 < (L.getD i []).length
  · obtain ⟨b, off, rfl, hc⟩ := k3 hp
    have hob : (vs.getD i nilS).ownBlock = some b := by rw [ev]; rfl
    have hlt : base ≤ b := by
      by_cases hi : i < vs.length
      · have e1 : vs.getD i nilS = vs[i] := by simp [List.getD_eq_getElem?_getD, hi]
        exact h3 _ (List.getElem_mem hi) b (by rw [← e1]; exact hob)
      · rw [List.getD_eq_getElem?_getD, List.getElem?_eq_none (by omega)] at hob
        cases hob
    obtain ⟨cur, hcur⟩ := (k4 hp b hob).resolve_left (by omega)
    have hb := hs b cur te (.inl rfl) hcur
    refine ⟨⟨_, cap, ev, k1, k2, fun _ => ⟨b, off, rfl, fun j hj => ?_⟩⟩, fun _ b' hb' => ?_⟩
    · rw [World.cell?_of_block (w := w) (a := ⟨b, off + j, none⟩) hb]
      exact hc j hj
    · rw [hob] at hb'
      cases hb'
      exact .inr ⟨cur, hb.trans hcur⟩
  · exact ⟨⟨a, cap, ev, k1, k2, fun hp' => absurd hp' hp⟩, fun hp' => absurd hp' hp⟩
theorem MatFresh.touch {α : Type} {f : α → Value} {w w' : World} {te e : TypeId} {base b n size r kb : Nat} {K : List Vec} {cl : Bool} {v : Value} {L : List (List α)} (h : MatFresh f te base e w v L) (hs : Sys w b n size K r cl kb) (ht : Touch b kb w w')
    (he : (te ≠ 242 ∧ te ≠ 244) ∧ e ≠ 242 ∧ e ≠ 244) : MatFresh f te base e w' v L :=
  h.same fun g cur t ht2 hg => zK0 hs ht (by rcases ht2 with rfl | rfl; exact he.1; exact he.2) hg
theorem zE9 {w : World} (b n size : Nat) (K : List Vec) (r kb : Nat) (v1 v2 : Value) (row sym : List Nat) (hS : Sys w b n size K r false kb) (hT : Tab w) (h1 : ListAt wordV w v1 row) (h2 : ListAt byteV w v2 sym) (hok : EqOk n size (row, sym)) (hf : kindV n K (longV row sym n) = 1) :
    Calls Tryz.prog 153 #[sysP b, v1, v2] w fun e w' => e = .returned (.tuple #[.int .i64 1, .nilIface]) ∧ Touch b kb w w' ∧ Sys w' b n size (K ++ [longV row sym n]) (r + 1) false kb := by
  refine (zMf b n size K r kb v1 v2 row sym hS hT h1 h2 hok).mono ?_
  rintro e w' ⟨rfl, h3, h4⟩
  unfold addV addR at h4
  rw [hf] at h4 ⊢
  exact ⟨rfl, h3, h4⟩
theorem zG2 {w : World} (k s h l p size : Nat) (H : OfP k s h l p) (hk1 : 1 ≤ k) (hk2 : k ≤ 128) (hs1 : 1 ≤ size) (hs2 : size ≤ 64) (hT : Tab w) :
    Calls Tryz.prog 120 #[parV k s h l p, .int .i64 (size : Int)] w fun e w' => ∃ b kb, e = .returned (.tuple #[sysP b, .nilIface]) ∧ Sys w' b l size (sysF k s h l size) (s + h) false kb ∧ w.heap.size ≤ b ∧ w.heap.size ≤ kb ∧ Below w.heap.size w w' := by
  obtain ⟨i0, hi, hz0, hz1, hz2⟩ := info_parts zAY
  obtain ⟨b1, b2, b3, b4, b5, b6, b7⟩ := H.bounds hk1 hk2
  have hl := H.2.2.1
  obtain ⟨w0, hw0, hb0, hbx⟩ := zAi w k s h l p
  have HW0 := lhd hw0
  have HB0 := lhd hb0
  have HBX := lhd hbx
  have HTW := lhd hT
  obtain ⟨c0, c1, c2, c3, c4⟩ := hbx.cells
  have HN : Hid (Calls Tryz.prog 151 #[.int .i64 (l : Int), .int .i64 (size : Int)] w0 fun e w' => ∃ b kb, e = .returned (.tuple #[sysP b, .nilIface]) ∧ Sys w' b l size [] 0 false kb ∧ w0.heap.size ≤ b ∧ w0.heap.size ≤ kb ∧ Below w0.heap.size w0 w') := lhd (zNB l size (by omega) (by omega) hs1 hs2)
  have HF : Hid (∀ V, Calls Tryz.prog 152 #[.agg #[.int .i64 (k : Int), .int .i64 (s : Int), .int .i64 (h : Int), .int .i64 (l : Int), .int .i64 (p : Int)]] V fun e w' => ∃ g, e = .returned (.tuple #[.slice (some ⟨g, 0, none⟩) (s + h) (s + h), .nilIface]) ∧ MatFresh wordV 258 V.heap.size 217 w' (.slice (some ⟨g, 0, none⟩) (s + h) (s + h)) (packL l (rowsF0 k s h)) ∧ Below V.heap.size V w') := lhd fun V => zLL k s h l p H hk1 hk2
  have HRW : Hid (∀ i, i < s + h → (packL l (rowsF0 k s h)).getD i [] = packR l ((rowsF0 k s h).getD i [])) := lhd fun i hi => zHB _ _ (by rw [zAj]; exact hi)
  have HLT : Hid (∀ i, i < s + h → ∀ c ∈ (rowsF0 k s h).getD i [], c < l) := lhd fun i hi => by
    rw [hl]
    exact (zBe (by rw [zAj]; exact hi) _ rfl).1
  have HK0 : Hid ((((rowsF0 k s h).take 0).map fun r => eqL l r (List.replicate size 0)) = []) := lhd rfl
  have HKS : Hid (∀ i, i < s + h → (((rowsF0 k s h).take (i + 1)).map fun r => eqL l r (List.replicate size 0)) = (((rowsF0 k s h).take i).map fun r => eqL l r (List.replicate size 0)) ++ [eqL l ((rowsF0 k s h).getD i []) (List.replicate size 0)]) := lhd fun i hi => zHE hi
  have HKN : Hid ((((rowsF0 k s h).take (s + h)).map fun r => eqL l r (List.replicate size 0)) = sysF k s h l size) := lhd zI2
  have HKF : Hid (∀ i, i < s + h → kindV l (((rowsF0 k s h).take i).map fun r => eqL l r (List.replicate size 0)) (eqL l ((rowsF0 k s h).getD i []) (List.replicate size 0)) = 1) := lhd fun i hi => zNW hl hi _
  have hsh : s + h ≤ 40 := by omega
  have hll : (packL l (rowsF0 k s h)).length = s + h := by rw [zFk, zAj]
  have HLL := lhd hll
  obtain ⟨n, hn⟩ : ∃ n, s + h = n := ⟨_, rfl⟩
  rw [hn] at HF HRW HLT HKS HKN HKF hsh HLL ⊢
  have hb2w : w.heap.size ≤ w0.heap.size := hb0.size
  clear hw0 hb0 hbx H hT hk1 hk2 b1 b2 b3 b4 b5 b6 b7 hl hn hll
  generalize rowsF0 k s h = R at *
  generalize sysF k s h l size = KF at *
  unfold parV parC
  go_enter Tryz.func120, Tryz.ntmps120
  go_upto_region 1 with fail
  rw [← HW0.out]
  go_wp2_with fail
  refine HN.out.mono ?_
  rintro e w1 ⟨b, kb, rfl, hsys, hgb, hgk, hb1⟩
  have HS := lhd hsys
  have HGB := lhd (Nat.le_trans hb2w hgb)
  have HGK := lhd (Nat.le_trans hb2w hgk)
  have HB1 := lhd (HB0.out.trans (hb1.mono HB0.out.size))
  have hxc := HBX.out.mono hb1
  clear c0 c1 c2 c3 c4 hsys hgb hgk hb1 hb2w
  obtain ⟨c0, c1, c2, c3, c4⟩ := hxc.cells
  clear hxc
  go_wp2_with fail
  refine (HF.out _).mono ?_
  rintro e w2 ⟨g, rfl, hm, hb2⟩
  have HS2 := lhd (HS.out.mono hb2)
  have HM := lhd hm
  have HB2 := lhd (HB1.out.trans (hb2.mono HB1.out.size))
  have hsz2 := HB2.out.size
  clear c0 c1 c2 c3 c4 hm hb2
  go_wp2_with (at_make; refine wpList_make_full _ rfl _ _ 31 rfl w.heap.size 5 i0 (.int .u8 0) 1 Tryz.underlying31 hi hz0 hz1 .i64 .i64 _ _ size rfl rfl rfl rfl (by rw [hz2]; omega) (by unfold maxLen; omega) hsz2 ?_; intro w3 hown0 hgrow0; have hb3 := lhd ((Below.refl w2.heap.size w2).grown hgrow0 (Nat.le_refl _) (fun k hk => by cases hk)); have ho3 := lhd hown0; clear hown0 hgrow0)
  have HS3 := lhd (HS2.out.mono hb3.out)
  have HM3 := lhd (HM.out.mono hb3.out)
  have HB3 := lhd (HB2.out.trans (hb3.out.mono hsz2))
  have HO3 : Hid (w3.ownsRow w.heap.size 5 1 (.slice (some ⟨w2.heap.size, 0, none⟩) size size) size ((List.replicate size 0).map byteV)) := lhd (by
    have := ho3.out
    rw [Nat.mul_one] at this
    rw [List.map_replicate]
    exact toList_madeCells_one (.int .u8 0) size ▸ this)
  have hlz : (List.replicate size 0).length = size := List.length_replicate
  have HLZ := lhd hlz
  have HOZ := lhd (zC3 size)
  clear hb3 ho3 hlz HS HS2 HM
  generalize List.replicate size 0 = Z at *
  generalize w2.heap.size = g2 at *
  go_loopw [36] (fun i wr => ∃ j : Nat, j ≤ n ∧ i = .int .i64 j ∧ Sys wr b l size ((R.take j).map fun r => eqL l r Z) j false kb ∧ Touch b kb w3 wr) (fun i _ => n - (intOf i).toNat)
  case atStart => exact ⟨0, Nat.zero_le _, rfl, by rw [HK0.out]; exact HS3.out, Touch.of (Below.refl _ _)⟩
  case round =>
    obtain ⟨j, hj, rfl, hsys, htch⟩ := hrel
    have HSR := lhd hsys
    have HTC := lhd htch
    have hmr := HM3.out.touch HS3.out htch ⟨by decide, by decide⟩
    have HOR := lhd (Sys.own HS3.out htch (by decide) HO3.out)
    have HBR := lhd (HB3.out.trans (htch.below HGB.out HGK.out HB3.out.size))
    by_cases hlt : j < n
    · obtain ⟨vs, hv1, hv2, -⟩ := hmr
      rw [HLL.out] at hv1
      have hcs := hv1.cellAt j (by omega)
      have hel := (hv2 j).1
      rw [HRW.out j hlt] at hel
      have hvl : j < vs.length := by have := hv1.1; omega
      rw [List.getElem?_eq_getElem hvl] at hcs
      rw [List.getD_eq_getElem?_getD, List.getElem?_eq_getElem hvl, Option.getD_some] at hel
      have HAD : Hid (Calls Tryz.prog 153 #[sysP b, vs[j], .slice (some ⟨g2, 0, none⟩) size size] wr fun e w' => e = .returned (.tuple #[.int .i64 1, .nilIface]) ∧ Touch b kb wr w' ∧ Sys w' b l size ((R.take (j + 1)).map fun r => eqL l r Z) (j + 1) false kb) := lhd (by
        rw [HKS.out j hlt]
        exact zE9 b l size _ j kb _ _ (packR l (R.getD j [])) Z hsys (HTW.out.mono HBR.out) hel (ListAt.of_owns HOR.out) (zL4 (HLT.out j hlt) HLZ.out HOZ.out) (HKF.out j hlt))
      obtain ⟨ae, ce, hxe, -, -, -⟩ := hel
      clear hv1 hv2 hsys htch
      generalize vs[j] = x at *
      subst hxe
      go_wp2_with fail
      refine HAD.out.mono ?_
      rintro e w5 ⟨rfl, ht5, hs5⟩
      have HT5 := lhd (HTC.out.trans ht5)
      have HS5 := lhd hs5
      clear ht5 hs5 hcs
      go_wp2
      go_roundw
      case rel => exact ⟨j + 1, by omega, by go_num, HS5.out, HT5.out⟩
      case measure => simp [intOf]; omega
    · obtain rfl : j = n := by omega
      clear hmr hsys htch
      go_wp2
      go_ret2
      exact ⟨b, kb, rfl, by rw [← HKN.out]; exact HSR.out, HGB.out, HGK.out, HBR.out⟩
end

section
open Go.RowKit Go.Extern.Stop Go.Stop Go.Extern
def formedB (L : List (List Nat)) (k n : Int) : Bool := decide ((L.length : Int) = k) && L.all (fun r => decide ((r.length : Int) = n))
theorem zFX {L : List (List Nat)} {k n : Int} (h : formedB L k n = true) : (L.length : Int) = k ∧ ∀ r ∈ L, (r.length : Int) = n := by
  unfold formedB at h
  rw [Bool.and_eq_true, List.all_eq_true] at h
  exact ⟨of_decide_eq_true h.1, fun r hr => of_decide_eq_true (h.2 r hr)⟩
theorem zFK {w : World} (v : Value) (L : List (List Nat)) (k n : Int) (h : MatAt byteV w v L) :
    Calls Tryz.prog 124 #[v, .int .i64 k, .int .i64 n] w fun e w' => e = .returned (.bool (formedB L k n)) ∧ w = w' := by
  have hlen := h.len
  obtain ⟨a, cap, rfl, hcap, hcm, hcell⟩ := h.opens
  clear h
  by_cases h0 : (L.length : Int) = k
  · have HR : Hid (∀ b, L.all (fun r => decide ((r.length : Int) = n)) = b → formedB L k n = b) := lhd fun b e => by
      unfold formedB
      rw [decide_eq_true h0, e]; rfl
    have hb1 : ((L.length : Int) == k) = true := by simpa using h0
    have hb2 : ((L.length : Int) != k) = false := by simpa using h0
    have HC := lhd hcell
    clear hcell h0
    go_enter Tryz.func124, Tryz.ntmps124
    go_wp2
    go_loopw [15] (fun i wr => ∃ j : Nat, j ≤ L.length ∧ i = .int .i64 j ∧ (∀ t, t < j → ((L.getD t []).length : Int) = n) ∧ w = wr) (fun i _ => L.length - (intOf i).toNat)
    case atStart => exact ⟨0, Nat.zero_le _, rfl, fun j hj => by omega, rfl⟩
    case round =>
      obtain ⟨j, hk, rfl, hz, rfl⟩ := hrel
      clear hb1 hb2
      by_cases hlt : j < L.length
      · obtain ⟨b, off, rfl, hcc⟩ := HC.out (by omega)
        obtain ⟨x, hx, hlx⟩ := hcc j hlt
        have hx' : w.cell? ⟨b, off + j, none⟩ = some x := hx
        have HF : Hid (((L.getD j []).length : Int) ≠ n → L.all (fun r => decide ((r.length : Int) = n)) = false) := lhd fun h => by
          rw [List.all_eq_false]; exact ⟨_, zAt hlt, by simpa using h⟩
        have HT : Hid (((L.getD j []).length : Int) = n → ∀ t, t < j + 1 → ((L.getD t []).length : Int) = n) := lhd fun h t ht => by
          by_cases e : t = j
          · rw [e]; exact h
          · exact hz t (by omega)
        have hrl := hlx.len
        obtain ⟨ra, rc, rfl, -, -, -⟩ := hlx
        clear hcc hx hz
        generalize (L.getD j []).length = m at *
        by_cases he : (m : Int) = n
        · have hb2 : ((m : Int) != n) = false := by simpa using he
          have hb1 : ((m : Int) == n) = true := by simpa using he
          have HT' := lhd (HT.out he)
          clear HF HT he
          go_wp2
          go_roundw
          case rel => exact ⟨j + 1, by omega, by go_num, HT'.out, trivial⟩
          case measure => simp [intOf]; omega
        · have hb2 : ((m : Int) != n) = true := by simpa using he
          have hb1 : ((m : Int) == n) = false := by simpa using he
          have HF' := lhd (HF.out he)
          clear HF HT he
          go_wp2
          go_ret
          exact ⟨by rw [HR.out _ HF'.out]; rfl, rfl⟩
      · have hk' : j = L.length := by omega
        have HA : Hid (L.all (fun r => decide ((r.length : Int) = n)) = true) := lhd (by
          rw [List.all_eq_true]
          intro r hr
          obtain ⟨t, ht, rfl⟩ := List.getElem_of_mem hr
          have := hz t (by omega)
          simp only [List.getD_eq_getElem?_getD, List.getElem?_eq_getElem ht, Option.getD_some] at this
          exact decide_eq_true this)
        clear hz
        go_wp2
        go_ret
        exact ⟨by rw [HR.out _ HA.out]; rfl, rfl⟩
  · have HR : Hid (formedB L k n = false) := lhd (by
      unfold formedB
      rw [decide_eq_false h0]; rfl)
    have hb1 : ((L.length : Int) == k) = false := by simpa using h0
    have hb2 : ((L.length : Int) != k) = true := by simpa using h0
    clear hcell h0
    go_enter Tryz.func124, Tryz.ntmps124
    go_wp2
    go_ret
    exact ⟨by rw [HR.out]; rfl, rfl⟩
theorem zLU {w : World} (b : Nat) (K : List Vec) (r kb : Nat) (k s h l p seed esi size : Nat) (v : Value) (y : List Nat) (hS : Sys w b l size K r false kb) (H : OfP k s h l p) (hk1 : 1 ≤ k) (hk2 : k ≤ 128) (hs : seed < 65536) (he : esi < 65536) (hv : ListAt byteV w v y) (hy : y.length = size) (ho : Octets y) (hT : DgTab w) (hB : Tab w) :
    Calls Tryz.prog 122 #[sysP b, parV k s h l p, .int .i64 (seed : Int), .int .i64 (esi : Int), v] w fun e w' => e = .returned (.tuple #[.int .i64 (kindV l K (eqL l (rowE l p seed esi) y) : Nat), .nilIface]) ∧ Touch b kb w w' ∧
      Sys w' b l size (addV l K (eqL l (rowE l p seed esi) y)) (addR l K (eqL l (rowE l p seed esi) y) r) (decide (kindV l K (eqL l (rowE l p seed esi) y) = 3)) kb := by
  obtain ⟨w0, hw0, hb0, hbx⟩ := zAi w k s h l p
  have HW0 := lhd hw0
  have HB0 := lhd hb0
  obtain ⟨c0, c1, c2, c3, c4⟩ := hbx.cells
  have HD : Hid (Calls Tryz.prog 155 #[.agg #[.int .i64 (k : Int), .int .i64 (s : Int), .int .i64 (h : Int), .int .i64 (l : Int), .int .i64 (p : Int)], .int .i64 (seed : Int), .int .i64 (esi : Int)] w0 fun e' w' => ∃ a c, e' = .returned (.tuple #[.slice a (kOf l) c, .nilIface]) ∧ w'.ownsRow w0.heap.size 258 1 (.slice a (kOf l) c) (kOf l) ((packR l (rowE l p seed esi)).map wordV) ∧ Below w0.heap.size w0 w') := lhd (zLo k s h l p seed esi H hk1 hk2 hs he (PairsAt.mono hT hb0))
  have HA : Hid (∀ V a c, Below w.heap.size w V → ListAt wordV V (.slice a (kOf l) c) (packR l (rowE l p seed esi)) → Calls Tryz.prog 153 #[sysP b, .slice a (kOf l) c, v] V fun e w' => e = .returned (.tuple #[.int .i64 (kindV l K (eqL l (rowE l p seed esi) y) : Nat), .nilIface]) ∧ Touch b kb V w' ∧ Sys w' b l size (addV l K (eqL l (rowE l p seed esi) y)) (addR l K (eqL l (rowE l p seed esi) y) r) (decide (kindV l K (eqL l (rowE l p seed esi) y) = 3)) kb) := lhd fun V a c hV hL =>
    zMf b l size K r kb _ _ (packR l (rowE l p seed esi)) y (hS.mono hV) (hB.mono hV) hL (hv.mono hV) (zL4 zCr hy ho)
  obtain ⟨av, cv, hve, -, -, -⟩ := hv
  subst hve
  clear hw0 hb0 hbx H hT hB hk1 hk2 hs he hy ho hS
  generalize addV l K (eqL l (rowE l p seed esi) y) = K' at *
  generalize addR l K (eqL l (rowE l p seed esi) y) r = r' at *
  generalize kindV l K (eqL l (rowE l p seed esi) y) = kd at *
  unfold parV parC
  go_enter Tryz.func122, Tryz.ntmps122
  go_upto_region 1 with fail
  rw [← HW0.out]
  go_wp2_with fail
  refine HD.out.mono ?_
  rintro e w1 ⟨a1, q1, rfl, ho1, hb1⟩
  have HB1 := lhd (HB0.out.trans (hb1.mono HB0.out.size))
  have HL1 := lhd (ListAt.of_owns ho1)
  clear c0 c1 c2 c3 c4 ho1 hb1
  go_wp2_with fail
  refine (HA.out _ _ _ HB1.out HL1.out).mono ?_
  rintro e w2 ⟨rfl, ht2, hs2⟩
  have HT2 := lhd ht2
  have HS2 := lhd hs2
  clear ht2 hs2
  go_wp2
  go_ret2
  exact ⟨rfl, (Touch.of HB1.out).trans HT2.out, HS2.out⟩
end

section
open Go.RowKit Go.Extern.Stop Go.Stop Go.Extern
def dnN (N k : Nat) : List Nat := (List.range k).map fun j => N - 1 - j
theorem zGZ (N k : Nat) : dnN N (k + 1) = dnN N k ++ [N - 1 - k] := by unfold dnN; rw [List.range_succ, List.map_append]; rfl
theorem zDE (N k : Nat) : (dnN N k).length = k := by simp [dnN]
def KpB (Bs S : Nat) (W W' : World) : Prop := W'.heap[Bs]? = W.heap[Bs]? ∧ W'.heap[S]? = W.heap[S]?
theorem KpB.refl (Bs S : Nat) (W : World) : KpB Bs S W W := ⟨rfl, rfl⟩
theorem KpB.trans {Bs S : Nat} {A B C : World} (h : KpB Bs S A B) (k : KpB Bs S B C) : KpB Bs S A C := ⟨k.1.trans h.1, k.2.trans h.2⟩
theorem KpB.book {Bs S : Nat} {w : World} (h1 : Bs < w.heap.size) (h2 : S < w.heap.size) (W : World) (l : Nat) (o o' : Obj) (hl : w.heap.size ≤ l) (_ : W.heap[l]? = some o) (_ : o.isCells = false) (_ : o.isWalk = false) : KpB Bs S W (W.putObj l o') :=
  ⟨World.putObj_heap_other (by omega), World.putObj_heap_other (by omega)⟩
theorem zIx {n : Nat} {pre : List (Fin n)} {x : Fin n} (h : (pre ++ [x]).map (·.1) = dnN n (pre ++ [x]).length) : pre.map (·.1) = dnN n pre.length ∧ x.1 = n - 1 - pre.length := by
  rw [List.map_append, List.length_append] at h
  have e : dnN n (pre.length + [x].length) = dnN n pre.length ++ [n - 1 - pre.length] := zGZ n pre.length
  rw [e] at h
  obtain ⟨h1, h2⟩ := List.append_inj' h rfl
  exact ⟨h1, by simpa using h2⟩
end

section
open Go.RowKit Go.Extern.Stop Go.Stop Go.Extern
section
open Go.Shelf
attribute [local go_sem] Oper.semAt_some
theorem zJr (F : Fence) (n : Nat) (hf : F.fn 191) (hro : F.round = none) (_hn : 1 ≤ n) (l Bs S N : Nat) (rv sv : Nat → Value) (hN : N ≤ 100000) (J Jx : List (Fin N) → World → Prop)
    (hY : ∀ pre x W, J pre W → pre.length < N → YieldAt F (n - 1) Tryz.prog l #[.int .i64 (x.1 : Int), .agg #[rv x.1, sv x.1]] W fun e W' =>
      (e = .returned (.bool true) ∧ J (pre ++ [x]) W' ∧ KpB Bs S W W') ∨ (e = .returned (.bool false) ∧ Jx (pre ++ [x]) W'))
    (W : World) (hBs : W.cell? ⟨Bs, 0, none⟩ = some (.slice (some ⟨S, 0, none⟩) N N)) (hc : ∀ j, j < N → W.cell? ⟨S, j * 2, none⟩ = some (rv j) ∧ W.cell? ⟨S, j * 2 + 1, none⟩ = some (sv j)) (h0 : J [] W) :
    CallsIn F n Tryz.prog 191 #[.func (.yield l) #[] #[], .pointer (some ⟨Bs, 0, none⟩)] W fun e W' => (∃ v, e = .returned v) ∧
      ((∃ ys : List (Fin N), ys.map (·.1) = dnN N N ∧ J ys W') ∨ (∃ pre : List (Fin N), (∃ k, k ≤ N ∧ pre.map (·.1) = dnN N k) ∧ Jx pre W')) := by
  have HC := lhd hc
  have HB := lhd hBs
  clear hc
  refine callsIn_of_wp Tryz.func191 rfl hf ?_ hro
  simp only [Tryz.ntmps191, List.size_toArray, List.length_cons, List.length_nil, Nat.reduceAdd, Nat.reduceSub, Array.replicate_succ, Array.replicate_zero, List.push_toArray, List.append_toArray, List.nil_append, List.cons_append]
  gi_wp2
  gi_loopw [3] (fun i wr => ∃ (m : Nat) (z : Int) (pre : List (Fin N)), m ≤ N ∧ i = .int .i64 z ∧ z = (m : Int) - 1 ∧ pre.map (·.1) = dnN N (N - m) ∧ J pre wr ∧ KpB Bs S W wr) (fun i _ => (intOf i + 1).toNat)
  case atStart => exact ⟨N, _, [], Nat.le_refl _, rfl, by omega, by rw [Nat.sub_self]; rfl, h0, KpB.refl _ _ _⟩
  case round =>
    obtain ⟨m, z, pre, hm, rfl, hz, hpre, hJs, hk⟩ := hrel
    have HK := lhd hk
    have HP := lhd hpre
    have hpl : pre.length = N - m := by rw [← List.length_map (f := fun x : Fin N => x.1), hpre, zDE]
    cases m with
    | zero =>
      have hz1 : z = -1 := by omega
      subst hz1
      have HJ : Hid (J pre wr) := lhd hJs
      clear hJs hk hz hBs hpre hpl
      gi_wp2
      go_end0
      exact ⟨⟨_, rfl⟩, .inl ⟨pre, HP.out, HJ.out⟩⟩
    | succ q =>
      have hz1 : z = (q : Int) := by omega
      subst hz1
      have eq : N - 1 - (N - (q + 1)) = q := by omega
      have hcb : wr.cell? ⟨Bs, 0, none⟩ = some (.slice (some ⟨S, 0, none⟩) N N) := (World.cell?_of_block (w := W) (a := ⟨Bs, 0, none⟩) hk.1).trans HB.out
      have hcs : wr.cell? ⟨S, q * 2, none⟩ = some (rv q) := (World.cell?_of_block (w := W) (a := ⟨S, q * 2, none⟩) hk.2).trans (HC.out q (by omega)).1
      have hcs2 : wr.cell? ⟨S, q * 2 + 1, none⟩ = some (sv q) := (World.cell?_of_block (w := W) (a := ⟨S, q * 2 + 1, none⟩) hk.2).trans (HC.out q (by omega)).2
      have hq : q < N := by omega
      have HP2 : Hid ((pre ++ [(⟨q, hq⟩ : Fin N)]).map (fun x : Fin N => x.1) = dnN N (N - q)) := lhd (by
        have := zGZ N (N - (q + 1))
        rw [eq] at this
        rw [List.map_append, hpre, show N - q = N - (q + 1) + 1 by omega, this]
        rfl)
      obtain ⟨fn, tmps, assign, body, hy, hR⟩ := hY _ ⟨q, hq⟩ wr hJs (by omega)
      dsimp only at hy
      clear hJs hk hz eq hBs hpre hpl
      generalize rv q = vq at *
      generalize sv q = uq at *
      gi_wp2
      refine hR.mono ?_
      rintro e W3 (⟨rfl, hJ3, hk3⟩ | ⟨rfl, hJx3⟩)
      · have HJ3 := lhd hJ3
        have HK3 := lhd (HK.out.trans hk3)
        clear hJ3 hk3
        gi_wp2
        go_roundw
        case rel => exact ⟨q, (q : Int) - 1, _, by omega, rfl, rfl, HP2.out, HJ3.out, HK3.out⟩
        case measure => simp [intOf]
      · have HJ3 := lhd hJx3
        clear hJx3
        gi_wp2
        refine bodyPost_ret (results_none rfl _ _ _) rfl ?_
        exact ⟨⟨_, rfl⟩, .inr ⟨_, ⟨N - q, by omega, HP2.out⟩, HJ3.out⟩⟩
theorem zKL (F : Fence) (n : Nat) (hf : F.fn 159) (hro : F.round = none) (a : Option Addr) (len cap : Nat) (w : World) :
    CallsIn F n Tryz.prog 159 #[.slice a len cap] w fun e w' => e = .returned (.func (.func 191) #[] #[.pointer (some ⟨w.heap.size, 0, none⟩)]) ∧ w' = w.alloc (.cells #[.slice a len cap] 240) := by
  refine callsIn_of_wp Tryz.func159 rfl hf ?_ hro
  simp only [Tryz.ntmps159, List.size_toArray, List.length_cons, List.length_nil, Nat.reduceAdd, Nat.reduceSub, Array.replicate_succ, Array.replicate_zero, List.push_toArray, List.append_toArray, List.nil_append, List.cons_append]
  gi_wp2
  go_ret
  exact ⟨rfl, rfl⟩
theorem zFR (F : Fence) (n : Nat) (hf : F.fn 191) (hro : F.round = none) (hn : 1 ≤ n) (Bs S N : Nat) (rv sv : Nat → Value) (hN : N ≤ 100000) (w : World) (h1 : Bs < w.heap.size) (h2 : S < w.heap.size)
    (hBs : w.cell? ⟨Bs, 0, none⟩ = some (.slice (some ⟨S, 0, none⟩) N N)) (hc : ∀ j, j < N → w.cell? ⟨S, j * 2, none⟩ = some (rv j) ∧ w.cell? ⟨S, j * 2 + 1, none⟩ = some (sv j)) :
    SeqStopsK F n Tryz.prog 191 #[.pointer (some ⟨Bs, 0, none⟩)] (fun x : Fin N => #[Value.int .i64 (x.1 : Int), .agg #[rv x.1, sv x.1]]) (KpB Bs S) (fun ys => ys.map (·.1) = dnN N N) (fun pre => ∃ k, k ≤ N ∧ pre.map (·.1) = dnN N k) N w := fun l J Jx W hW _ _ hY h0 =>
  zJr F n hf hro hn l Bs S N rv sv hN J Jx hY W ((hW.cell (p := ⟨Bs, 0, none⟩) h1).trans hBs) (fun j hj => ⟨(hW.cell (p := ⟨S, j * 2, none⟩) h2).trans (hc j hj).1, (hW.cell (p := ⟨S, j * 2 + 1, none⟩) h2).trans (hc j hj).2⟩) h0
end
end
end Go.Proofs.YtkfimdpcadbcpaaGreatDoor
