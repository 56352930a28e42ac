import Derived.Test.YtkhdjjcflbdegaaGreatDoorG10
import Derived.Test.YtkhdjjcflbdegaaGreatDoorG20
import Derived.Test.YtkhdjjcflbdegaaGreatDoorG51
import Derived.Test.YtkhdjjcflbdegaaGreatDoorG30
import Derived.Test.YtkhdjjcflbdegaaGreatDoorG16
import Derived.Test.YtkhdjjcflbdegaaGreatDoorG17
import Derived.Deep.RegionHeld3
import Derived.Test.YtkhdjjcflbdegaaGreatDoorG08
import Derived.Deep.AppendLies
import Derived.Deep.RegionLaw

section
/- The document's answers for layer 11: Check, First, Places. -/
namespace Go.Proofs.YtkhdjjcflbdegaaGreatDoor
open Go.RowKit Go.Extern.Stop Go.Stop Go.Extern

set_option maxRecDepth 1000000 in
set_option maxHeartbeats 4000000 in
theorem r11First_any {w : World} (k : Nat) (hk : k ≤ 1000) :
    Calls Tryz.prog 74 #[.int .i64 (k : Int)] w fun e w' => ∃ v, e = .returned v ∧ ListAt colV w' v (List.range k) ∧ Below w.heap.size w w' := by
  obtain ⟨i0, hi, hz0, hz1, hz2⟩ := info_parts info_int
  go_enter Tryz.func74, Tryz.ntmps74
  go_wp2_with fail
  go_loopw [3, 4] (fun o i wr => ∃ j : Nat, j ≤ k ∧ i = .int .i64 j ∧ wr.ownsRow w.heap.size 3 1 o j ((List.range j).map colV) ∧ Below w.heap.size w wr) (fun _ i _ => k - (intOf i).toNat)
  case atStart => exact ⟨0, Nat.zero_le _, rfl, World.ownsRow_made (base := w.heap.size) (e := 3) (size := 1) w #[] 0 (Nat.le_refl _) (by decide) rfl, (Below.refl _ _).alloc (Nat.le_refl _) _⟩
  case round =>
    obtain ⟨j, hj, rfl, hown, hbel⟩ := hrel
    have HO := Lib.hid hown
    have HB := Lib.hid hbel
    have hsz := hbel.size
    by_cases hlt : j < k
    · obtain ⟨ao, co, rfl, -, -⟩ := own_open hown
      clear hown hbel
      go_wp2_with (at_builtin; refine wpList_append_own _ rfl (.tmp 11) (.tmp 13) 55 rfl w.heap.size 3 i0 (.int .i64 0) 1 8 Tryz.underlying55 hi hz0 hz1 hz2 rfl (by decide) (.slice ao j co) j ((List.range j).map colV) rfl (HO.out.alloc _) ⟨wr.heap.size, 0, none⟩ 1 1 [.int .i64 (j : Int)] rfl rfl (cell_one_new _ _ _) (fun x hx => by simp at hx; subst hx; rfl) (by unfold maxLen; omega) (by omega) (by simp; omega) ?_; intro v2 w4 hown1 hgrow1 _; have hb3 := Lib.hid ((HB.out.alloc hsz _).grown hgrow1 (by simp; omega) (fun k hk => (HO.out.lt k hk).1)); have ho2 := Lib.hid hown1; clear hown1 hgrow1)
      go_roundw
      case rel => exact ⟨j + 1, by omega, by go_num, by rw [List.range_succ, List.map_append]; exact ho2.out, hb3.out⟩
      case measure => simp [intOf]; omega
    · obtain rfl : j = k := by omega
      clear hown hbel
      go_wp2
      go_ret
      exact ⟨_, rfl, ListAt.of_owns HO.out, HB.out⟩
end Go.Proofs.YtkhdjjcflbdegaaGreatDoor
end

section
/- The document's answers for layer 11: Places, Rows. -/
namespace Go.Proofs.YtkhdjjcflbdegaaGreatDoor
open Go.RowKit Go.Extern.Stop Go.Stop Go.Extern

theorem listAt_col {w : World} {v : Value} {l : List Nat} (h : ListAt intV w v (l.map Int.ofNat)) : ListAt colV w v l := by
  obtain ⟨a, cap, rfl, h1, h2, h3⟩ := h
  refine ⟨a, cap, by rw [List.length_map], by simpa using h1, h2, fun hp => ?_⟩
  obtain ⟨b, off, rfl, hc⟩ := h3 (by simpa using hp)
  refine ⟨b, off, rfl, fun j hj => ?_⟩
  have := hc j (by simpa using hj)
  simpa [intV, colV] using this
/-- The picked rows, from the front. -/
theorem picked_at {α : Type} {f : α → Value} {w : World} {x : Value} {vs : List Value} {L : List (List α)} {cs : List Nat} {n : Nat} (hn : cs.length = n) (hx : ListAt id w x (fillTo (fun j => vs.getD (cs.getD j 0) nilS) nilS n n)) (h : ∀ i, ListAt f w (vs.getD i nilS) (L.getD i [])) :
    MatAt f w x (cs.map fun c => L.getD c []) := by
  refine ⟨_, hx, by rw [fillTo_length, List.length_map, hn], fun i => ?_⟩
  rw [fillTo_all]
  by_cases hi : i < n
  · rw [range_getD, if_pos hi]
    have e : (cs.map fun c => L.getD c []).getD i [] = L.getD (cs.getD i 0) [] := by
      have : i < cs.length := by omega
      simp [List.getD_eq_getElem?_getD, this]
    rw [e]
    exact h _
  · rw [range_getD, if_neg hi, List.getD_eq_getElem?_getD, List.getElem?_eq_none (by rw [List.length_map]; omega)]
    exact ListAt.nil _ _

theorem takeP_succ {k s h l p seed : Nat} {ns : List Nat} {j : Nat} (hj : j < ns.length) : rowsA k s h l p seed (ns.take (j + 1)) = rowsA k s h l p seed (ns.take j) ++ [rowE l p seed (ns.getD j 0)] := by
  rw [List.take_succ_eq_append_getElem hj, rowsA_snoc]
  simp [List.getD_eq_getElem?_getD, hj]
theorem takeP_len {k s h l p seed : Nat} {ns : List Nat} {j : Nat} (hj : j ≤ ns.length) : (rowsA k s h l p seed (ns.take j)).length = s + h + j := by
  rw [rowsA_length, List.length_take]
  omega
theorem ElAt.any {α : Type} {f : α → Value} {te : TypeId} {base : Nat} {w : World} {x : Value} {r : List α} (h : ElAt f te base w x r) (hf : ∀ b, x.ownBlock = some b → base ≤ b) (base' : Nat) : ElAt f te base' w x r :=
  ⟨h.1, fun hp b hx => .inr ((h.2 hp b hx).resolve_left (by have := hf b hx; omega))⟩
theorem map_colV (l : List Nat) : (l.map Int.ofNat).map intV = l.map colV := by
  rw [List.map_map]
  rfl

set_option maxRecDepth 1000000 in
set_option maxHeartbeats 4000000 in
theorem rPlaces_any {w : World} (k s h l p seed : Nat) (v : Value) (ns : List Nat) (H : OfP k s h l p) (hk1 : 1 ≤ k) (hk2 : k ≤ 128) (hs : seed < 65536) (hv : ListAt colV w v ns) (he : ∀ e ∈ ns, e < 65536) (hl : ns.length ≤ 4096) :
    Calls Tryz.prog 39 #[parV k s h l p, .int .i64 (seed : Int), v] w fun e w' => ∃ v', e = .returned v' ∧ MatFresh colV 3 w.heap.size 55 w' v' (rowsA k s h l p seed ns) ∧ Below w.heap.size w w' := by
  obtain ⟨j0, hj0, jz0, jz1, jz2⟩ := info_parts info_ints
  obtain ⟨b1, b2, b3, b4, b5, b6, b7⟩ := H.bounds hk1 hk2
  obtain ⟨w0, hw0, hb0, hbx⟩ := par_laid w k s h l p
  have HW0 := Lib.hid hw0
  have HB0 := Lib.hid hb0
  have HBX := Lib.hid hbx
  have HV := Lib.hid hv
  have hba : Below w0.heap.size w0 (w0.alloc (.cells #[] 55)) := (Below.refl _ _).alloc (Nat.le_refl _) _
  obtain ⟨c0, c1, c2, c3, c4⟩ := (hbx.mono hba).cells
  have HF : Hid (∀ V, Calls Tryz.prog 75 #[.agg #[.int .i64 (k : Int), .int .i64 (s : Int), .int .i64 (h : Int), .int .i64 (l : Int), .int .i64 (p : Int)]] V fun e w' => ∃ v, e = .returned v ∧ MatFresh colV 3 V.heap.size 55 w' v (rowsF0 k s h) ∧ Below V.heap.size V w') := Lib.hid fun V => by
    refine (rRows_new k s h l p H hk1 hk2).mono ?_
    rintro e w' ⟨v, g, rfl, h1, h2, h3⟩
    obtain rfl := graysE_eq h1
    exact ⟨v, rfl, h2, h3⟩
  have HD : Hid (∀ (V : World) (e : Nat), e < 65536 → Calls Tryz.prog 41 #[.agg #[.int .i64 (k : Int), .int .i64 (s : Int), .int .i64 (h : Int), .int .i64 (l : Int), .int .i64 (p : Int)], .int .i64 (seed : Int), .int .i64 (e : Int)] V fun e' w' => ∃ v, e' = .returned v ∧ w'.ownsRow V.heap.size 3 1 v (rowE l p seed e).length ((rowE l p seed e).map colV) ∧ Below V.heap.size V w') := Lib.hid fun V e he => by
    refine (rRow_own k s h l p seed e H hk1 hk2 hs he).mono ?_
    rintro e' w' ⟨v, W, rfl, h1, h2, h3⟩
    refine ⟨v, rfl, ?_, h3⟩
    unfold rowE
    rw [walkE_eq h1, ← map_colV]
    exact h2
  have hq := rowsF0_length k s h
  have HP0 : Hid (rowsF0 k s h = rowsA k s h l p seed (ns.take 0)) := Lib.hid (by rw [List.take_zero, rowsA_nil])
  have HPN : Hid (rowsA k s h l p seed (ns.take ns.length) = rowsA k s h l p seed ns) := Lib.hid (by rw [List.take_length])
  have HPS : Hid (∀ j, j < ns.length → rowsA k s h l p seed (ns.take (j + 1)) = rowsA k s h l p seed (ns.take j) ++ [rowE l p seed (ns.getD j 0)]) := Lib.hid fun j hj => takeP_succ hj
  have HPL : Hid (∀ j, j ≤ ns.length → (rowsA k s h l p seed (ns.take j)).length = s + h + j) := Lib.hid fun j hj => takeP_len hj
  have HE : Hid (∀ j, j < ns.length → ns.getD j 0 < 65536) := Lib.hid fun j hj => by
    rw [List.getD_eq_getElem?_getD, List.getElem?_eq_getElem hj]
    exact he _ (List.getElem_mem hj)
  have hsh : s + h ≤ 40 := by omega
  clear hw0 hb0 hbx hba H hk1 hk2 hs he b1 b2 b3 b4 b5 b6 b7
  obtain ⟨av, cv, rfl, hcv, -, hcell⟩ := hv
  have HC := Lib.hid hcell
  clear hcell
  unfold parV parC
  go_enter Tryz.func39, Tryz.ntmps39
  go_upto_region 1 with fail
  rw [← HW0.out]
  go_wp2_with fail
  refine (HF.out _).mono ?_
  rintro e w1 ⟨v1, rfl, hm1, hb1⟩
  have hsz0 := HB0.out.size
  have HO0 : Hid (w1.ownsRow w0.heap.size 55 1 (.slice (some ⟨w0.heap.size, 0, none⟩) 0 0) 0 []) := Lib.hid (owns_kept (World.ownsRow_made (base := w0.heap.size) (e := 55) (size := 1) w0 #[] 0 (Nat.le_refl _) (by decide) rfl) hb1)
  have HBA := Lib.hid (((Below.refl w0.heap.size w0).alloc (Nat.le_refl _) (.cells #[] 55)).trans (hb1.mono (by simp)))
  obtain ⟨vs1, k1, k2, k3⟩ := hm1
  rw [hq] at k1
  have hvl : vs1.length = s + h := by have := k1.1; omega
  have HVA : Hid (ListAt id w1 v1 vs1) := Lib.hid (ListAt.of_owns (f := id) (by rw [List.map_id]; exact k1))
  have HSL : Hid (∀ y ∈ vs1, (id y).oneCell' = true) := Lib.hid (MatAt.slices (L := rowsF0 k s h) fun i => (k2 i).1)
  have HM1 : Hid ((∀ i, ElAt colV 3 w0.heap.size w1 (vs1.getD i nilS) ((rowsF0 k s h).getD i [])) ∧ ∀ x ∈ vs1, ∀ b, x.ownBlock = some b → w0.heap.size ≤ b) := Lib.hid (by
    refine ⟨fun i => (k2 i).any (fun b hb => ?_) _, fun x hx b hb => Nat.le_trans (by simp) (k3 x hx b hb)⟩
    by_cases hi : i < vs1.length
    · have e1 : vs1.getD i nilS = vs1[i] := by simp [List.getD_eq_getElem?_getD, hi]
      rw [e1] at hb
      exact k3 _ (List.getElem_mem hi) b hb
    · rw [List.getD_eq_getElem?_getD, List.getElem?_eq_none (by omega)] at hb
      cases hb)
  obtain ⟨a1, cc1, rfl, -, -⟩ := own_open k1
  clear hb1 k1 k2 k3
  go_wp2_with (at_builtin; refine wpList_append_of (f := id) _ rfl (.tmp 9) (.tmp 11) 91 rfl w0.heap.size 55 j0 (.slice none 0 0) 24 Tryz.underlying91 hj0 jz0 jz1 jz2 rfl _ 0 [] rfl HO0.out _ vs1 rfl HVA.out HSL.out (by unfold maxLen; omega) (by omega) HBA.out.size ?_; intro o w2 hown1 hgrow1; have hb2 := Lib.hid (HBA.out.grown hgrow1 HBA.out.size (fun k hk => (HO0.out.lt k hk).1)); rw [Nat.zero_add, List.nil_append, List.map_id] at hown1; have ho2 := Lib.hid hown1; have HG2 := Lib.hid hgrow1; clear hown1 hgrow1)
  have HM2 : Hid (MatFresh colV 3 w0.heap.size 55 w2 o (rowsA k s h l p seed (ns.take 0))) := Lib.hid (by
    rw [← HP0.out]
    exact ⟨vs1, by rw [hq, ← hvl]; exact ho2.out, fun i => (HM1.out.1 i).grown (by decide) HO0.out HG2.out, HM1.out.2⟩)
  clear hvl HO0 HVA HSL HM1 ho2 HG2 c0 c1 c2 c3 c4
  go_wp2
  go_loopw [7, 8] (fun o i wr => ∃ j : Nat, j ≤ ns.length ∧ i = .int .i64 j ∧ MatFresh colV 3 w0.heap.size 55 wr o (rowsA k s h l p seed (ns.take j)) ∧ Below w0.heap.size w0 wr) (fun _ i _ => ns.length - (intOf i).toNat)
  case atStart => exact ⟨0, Nat.zero_le _, rfl, HM2.out, hb2.out⟩
  case round =>
    obtain ⟨j, hj, rfl, hmf, hbel⟩ := hrel
    clear HM2 hb2
    have HMF := Lib.hid hmf
    have HBL := Lib.hid hbel
    have HBW := Lib.hid (HB0.out.trans (hbel.mono HB0.out.size))
    by_cases hlt : j < ns.length
    · obtain ⟨bv, ov, rfl, hcc⟩ := HC.out (by omega)
      have hx := hcc j hlt
      have hbd := hbel.drew
      have HBD := Lib.hid hbd
      have hx' : wr.drew.cell? ⟨bv, ov + j, none⟩ = some (.int .i64 ((ns.getD j 0 : Nat) : Int)) := by
        rw [(HB0.out.trans (hbd.mono HB0.out.size)).cell (p := ⟨bv, ov + j, none⟩) (World.block_lt_of_cell? w _ hx), hx]
        simp [List.getD_eq_getElem?_getD, hlt, colV]
      obtain ⟨c0, c1, c2, c3, c4⟩ := (HBX.out.mono hbd).cells
      have HDR := Lib.hid (HD.out wr.drew (ns.getD j 0) (HE.out j hlt))
      have HST := Lib.hid (HPS.out j hlt)
      have HLN := Lib.hid (HPL.out j hj)
      have HMD := Lib.hid (hmf.mono ((Below.refl _ _).drew))
      have hszd := hbd.size
      clear hcc hx hmf hbel hbd
      generalize ns.getD j 0 = y at *
      generalize rowE l p seed y = PR at *
      go_wp2_with fail
      go_region_law (first
        | (go_simp; go_at_call 41; refine HDR.out.mono ?_; rintro e w5 ⟨v5, rfl, ho5, hb5⟩; have HO5 := Lib.hid ho5; have HB5 := Lib.hid (HBD.out.trans (hb5.mono hszd)); have hsz5 := HB5.out.size; obtain ⟨vs5, hv5, he5, hf5⟩ := HMD.out.mono hb5; rw [HLN.out] at hv5; have HV5 := Lib.hid hv5; have HE5 := Lib.hid he5; have HF5 := Lib.hid hf5; obtain ⟨a5, c5, rfl, -, -⟩ := own_open ho5; clear ho5 hb5 hv5 he5 hf5 hx' c0 c1 c2 c3 c4)
        | (refine step_append_lies _ rfl (.tmp 19) (.tmp 27) 91 rfl w0.heap.size 55 j0 (.slice none 0 0) 1 24 Tryz.underlying91 hj0 jz0 jz1 jz2 rfl (by decide) u7 (s + h + j) vs5 (by simp [Act.eval]) (HV5.out.alloc _) ⟨w5.heap.size, 0, none⟩ 1 1 [.slice a5 PR.length c5] (by simp [Act.eval]) rfl (cell_one_new _ _ _) (fun x hx => by simp at hx; subst hx; rfl) (by decide) (by unfold maxLen; omega) (by omega) (by simp; omega) _ rfl ?_; intro g2 q2 w6 hown1 hgrow1 _ _; have HB6 := Lib.hid ((HB5.out.alloc hsz5 _).grown hgrow1 (by simp; omega) (fun k hk => (HV5.out.lt k hk).1)); have HM6 : Hid (MatFresh colV 3 w0.heap.size 55 w6 _ (rowsA k s h l p seed (ns.take j) ++ [PR])) := Lib.hid (MatFresh.app HF5.out (fun b hb => Nat.le_trans hszd (HO5.out.lt b hb).1) (by decide) (by rw [HLN.out]; exact HV5.out) HE5.out (ElAt.own HO5.out) (by rw [HLN.out]; exact hown1) hgrow1); clear hown1 hgrow1))
      all_goals go_wp2
      all_goals exact ⟨⟨j + 1, by omega, by go_num, by rw [HST.out]; exact HM6.out, HB6.out⟩, by simp [intOf]; omega⟩
    · obtain rfl : j = ns.length := by omega
      clear hmf hbel
      go_wp2
      go_ret
      exact ⟨_, rfl, by rw [← HPN.out]; exact HMF.out.below HB0.out.size, HBW.out⟩
end Go.Proofs.YtkhdjjcflbdegaaGreatDoor
end

section
/- The document's answers for layer 11: Rows. -/
namespace Go.Proofs.YtkhdjjcflbdegaaGreatDoor
open Go.RowKit Go.Extern.Stop Go.Stop Go.Extern

theorem rPack_row {w : World} (v : Value) (r : List Nat) (n : Nat) (h : ListAt colV w v r) (hn : n ≤ 4096) :
    Calls Tryz.prog 94 #[v, .int .i64 (n : Int)] w fun e w' => ∃ v', e = .returned v' ∧ w'.ownsRow w.heap.size 163 1 v' (kOf n) ((packR n r).map wordV) ∧ Below w.heap.size w w' := by
  have hk : (sizeI (n : Int)).toNat = kOf n := by rw [sizeI_of hn]; rfl
  have := refPack_own v (r.map Int.ofNat) (n : Int) h.cols ⟨by omega, by omega⟩
  rwa [hk] at this
theorem packL_take {n : Nat} {R : List (List Nat)} {q : Nat} (h : q < R.length) : packL n (R.take (q + 1)) = packL n (R.take q) ++ [packR n (R.getD q [])] := by
  rw [List.take_succ_eq_append_getElem h, packL_append]
  simp [packL, List.getD_eq_getElem?_getD, h]

set_option maxRecDepth 1000000 in
set_option maxHeartbeats 4000000 in
theorem r11Rows_any {w : World} (k s h l p seed : Nat) (v : Value) (ns : List Nat) (H : OfP k s h l p) (hk1 : 1 ≤ k) (hk2 : k ≤ 128) (hs : seed < 65536) (hv : ListAt colV w v ns) (he : ∀ e ∈ ns, e < 65536) (hl : ns.length ≤ 4000) :
    Calls Tryz.prog 51 #[parV k s h l p, .int .i64 (seed : Int), v] w fun e w' => ∃ v', e = .returned v' ∧ MatFresh wordV 163 w.heap.size 79 w' v' (packL l (rowsA k s h l p seed ns)) ∧ Below w.heap.size w w' := by
  obtain ⟨i0, hi, hz0, hz1, hz2⟩ := info_parts info_row
  obtain ⟨b1, b2, b3, b4, b5, b6, b7⟩ := H.bounds hk1 hk2
  obtain ⟨w0, hw0, hb0, hbx⟩ := par_laid w k s h l p
  have HW0 := Lib.hid hw0
  have HB0 := Lib.hid hb0
  have HBX := Lib.hid hbx
  obtain ⟨c0, c1, c2, c3, c4⟩ := hbx.cells
  have HP : Hid (Calls Tryz.prog 39 #[.agg #[.int .i64 (k : Int), .int .i64 (s : Int), .int .i64 (h : Int), .int .i64 (l : Int), .int .i64 (p : Int)], .int .i64 (seed : Int), v] w0 fun e w' => ∃ v', e = .returned v' ∧ MatFresh colV 3 w0.heap.size 55 w' v' (rowsA k s h l p seed ns) ∧ Below w0.heap.size w0 w') := Lib.hid (rPlaces_any k s h l p seed v ns H hk1 hk2 hs (hv.mono hb0) he (by omega))
  have hlen : (rowsA k s h l p seed ns).length ≤ 4040 := by rw [rowsA_length]; omega
  have hl5 : l ≤ 4096 := by omega
  obtain ⟨av, cv, rfl, -, -, -⟩ := hv
  clear hw0 hb0 hbx H hk1 hk2 hs he b1 b2 b3 b4 b5 b6 b7 hl
  generalize rowsA k s h l p seed ns = R at *
  unfold parV parC
  go_enter Tryz.func51, Tryz.ntmps51
  go_upto_region 1 with fail
  rw [← HW0.out]
  go_wp2_with fail
  refine HP.out.mono ?_
  rintro e w1 ⟨v1, rfl, hm1, hb1⟩
  obtain ⟨a1, q1, rfl, -, -, hcell⟩ := hm1.own.at.opens
  have HC := Lib.hid hcell
  have HB1 := Lib.hid (HB0.out.trans (hb1.mono HB0.out.size))
  have HX1 := Lib.hid (HBX.out.mono hb1)
  have HKS : Hid (∀ q, q < R.length → packL l (R.take (q + 1)) = packL l (R.take q) ++ [packR l (R.getD q [])]) := Lib.hid fun q hq => packL_take hq
  have HKL : Hid (∀ q, q ≤ R.length → (packL l (R.take q)).length = q) := Lib.hid fun q hq => by rw [packL_length, List.length_take]; omega
  have HKN : Hid (packL l (R.take R.length) = packL l R) := Lib.hid (by rw [List.take_length])
  clear hm1 hb1 hcell c0 c1 c2 c3 c4
  obtain ⟨n, hn⟩ : ∃ n, R.length = n := ⟨_, rfl⟩
  rw [hn] at hlen HC HKS HKL HKN ⊢
  clear hn
  go_wp2_with fail
  go_loopw [8, 9] (fun o i wr => ∃ j : Nat, j ≤ n ∧ i = .int .i64 j ∧ MatFresh wordV 163 w1.heap.size 79 wr o (packL l (R.take j)) ∧ Below w1.heap.size w1 wr) (fun _ i _ => n - (intOf i).toNat)
  case atStart => exact ⟨0, Nat.zero_le _, rfl, MatFresh.start w1 (Nat.le_refl _), (Below.refl _ _).alloc (Nat.le_refl _) _⟩
  case round =>
    obtain ⟨j, hj, rfl, hmf, hbel⟩ := hrel
    have HMF := Lib.hid hmf
    have HBL := Lib.hid hbel
    have HBW := Lib.hid (HB1.out.trans (hbel.mono HB1.out.size))
    by_cases hlt : j < n
    · obtain ⟨bv, ov, rfl, hcc⟩ := HC.out (by omega)
      obtain ⟨x, hx, hlx⟩ := hcc j hlt
      have hbd := hbel.drew
      have HBD := Lib.hid hbd
      have hx' : wr.drew.cell? ⟨bv, ov + j, none⟩ = some x := (hbd.cell (p := ⟨bv, ov + j, none⟩) (World.block_lt_of_cell? w1 _ hx)).trans hx
      obtain ⟨c0, c1, c2, c3, c4⟩ := (HX1.out.mono hbd).cells
      have HDR := Lib.hid (rPack_row (w := wr.drew) x (R.getD j []) l (hlx.mono hbd) hl5)
      have HST := Lib.hid (HKS.out j hlt)
      have HLN := Lib.hid (HKL.out j hj)
      have HMD := Lib.hid (hmf.mono ((Below.refl _ _).drew))
      have hszd := hbd.size
      obtain ⟨ax, cx, hxe, -, -, -⟩ := hlx
      subst hxe
      clear hcc hx hmf hbel hbd
      generalize (R.getD j []).length = rl at *
      generalize packR l (R.getD j []) = PR at *
      go_wp2_with fail
      go_region_law (first
        | (go_simp; go_at_call 94; refine HDR.out.mono ?_; rintro e w5 ⟨v5, rfl, ho5, hb5⟩; have HO5 := Lib.hid ho5; have HB5 := Lib.hid (HBD.out.trans (hb5.mono hszd)); have hsz5 := HB5.out.size; obtain ⟨vs5, hv5, he5, hf5⟩ := HMD.out.mono hb5; rw [HLN.out] at hv5; have HV5 := Lib.hid hv5; have HE5 := Lib.hid he5; have HF5 := Lib.hid hf5; obtain ⟨a5, c5, rfl, -, -⟩ := own_open ho5; clear ho5 hb5 hv5 he5 hf5 hx' c0 c1 c2 c3 c4)
        | (refine step_append_lies _ rfl (.tmp 21) (.tmp 29) 76 rfl w1.heap.size 79 i0 (.slice none 0 0) 1 24 Tryz.underlying76 hi hz0 hz1 hz2 rfl (by decide) u8 j vs5 (by simp [Act.eval]) (HV5.out.alloc _) ⟨w5.heap.size, 0, none⟩ 1 1 [.slice a5 (kOf l) c5] (by simp [Act.eval]) rfl (cell_one_new _ _ _) (fun x hx => by simp at hx; subst hx; rfl) (by decide) (by unfold maxLen; omega) (by omega) (by simp; omega) _ rfl ?_; intro g2 q2 w6 hown1 hgrow1 _ _; have HB6 := Lib.hid ((HB5.out.alloc hsz5 _).grown hgrow1 (by simp; omega) (fun k hk => (HV5.out.lt k hk).1)); have HM6 : Hid (MatFresh wordV 163 w1.heap.size 79 w6 _ (packL l (R.take j) ++ [PR])) := Lib.hid (MatFresh.app HF5.out (fun b hb => Nat.le_trans hszd (HO5.out.lt b hb).1) (by decide) (by rw [HLN.out]; exact HV5.out) HE5.out (ElAt.own HO5.out) (by rw [HLN.out]; exact hown1) hgrow1); clear hown1 hgrow1))
      all_goals go_wp2
      all_goals exact ⟨⟨j + 1, by omega, by go_num, by rw [HST.out]; exact HM6.out, HB6.out⟩, by simp [intOf]; omega⟩
    · obtain rfl : j = n := by omega
      clear hmf hbel
      go_wp2
      go_ret
      exact ⟨_, rfl, by rw [← HKN.out]; exact HMF.out.below HB1.out.size, HBW.out⟩

/-! ### lead -/
/-- A row's least column, or -1. -/
def LeadSays (r : List Nat) (z : Int) : Prop := (z = -1 ∧ bitW r = vzero) ∨ ∃ c : Nat, z = (c : Int) ∧ Lead (bitW r) c ∧ c < 64 * r.length
set_option maxRecDepth 1000000 in
set_option maxHeartbeats 4000000 in
theorem lead_any {w : World} (v : Value) (r : List Nat) (h : ListAt wordV w v r) (hw : Word r) (hl : r.length ≤ 1000) :
    Calls Tryz.prog 53 #[v] w fun e w' => ∃ z, e = .returned (.int .i64 z) ∧ LeadSays r z ∧ w = w' := by
  have HH : Hid (∀ c : Nat, c < 64 * r.length → Calls Tryz.prog 95 #[v, .int .i64 (c : Int)] w fun e w' => e = .returned (.bool (bitW r c)) ∧ w = w') := Lib.hid fun c hc => by
    have := refHas_any v r (c : Int) h hw (by omega) ⟨by omega, by omega⟩
    rwa [show hasI r (c : Int) = bitW r c by unfold hasI; rw [if_neg (by omega)]; rfl] at this
  have HZ : Hid ((∀ c, c < 64 * r.length → bitW r c = false) → bitW r = vzero) := Lib.hid fun hz => funext fun c => by
    by_cases hc : c < 64 * r.length
    · exact hz c hc
    · exact bitW_out _ _ (by omega)
  obtain ⟨a, cap, rfl, -, -, -⟩ := h
  have HLS : Hid (∀ z, LeadSays r z = LeadSays r z) := Lib.hid fun _ => rfl
  generalize hn : r.length = n at *
  have HN := Lib.hid hn
  clear hw hn
  go_enter Tryz.func53, Tryz.ntmps53
  go_wp2_with fail
  go_loopw [3] (fun i wr => ∃ j : Nat, j ≤ 64 * n ∧ i = .int .i64 j ∧ (∀ t, t < j → bitW r t = false) ∧ w = wr) (fun i _ => 64 * n - (intOf i).toNat)
  case atStart => exact ⟨0, Nat.zero_le _, rfl, fun t ht => by omega, rfl⟩
  case round =>
    obtain ⟨j, hj, rfl, hz, rfl⟩ := hrel
    have HJ := Lib.hid hz
    clear hz
    have hmul : IntKind.i64.wrap (64 * (n : Int)) = 64 * (n : Int) := IntWalk.i64_in _ (by omega)
    by_cases hlt : j < 64 * n
    · have dl : decide ((j : Int) < 64 * (n : Int)) = true := decide_eq_true (by omega)
      have HHJ := Lib.hid (HH.out j hlt)
      cases hb : bitW r j with
      | true =>
        rw [hb] at HHJ
        have HL : Hid (Lead (bitW r) j) := Lib.hid ⟨hb, HJ.out⟩
        clear hb
        go_wp2_with fail
        refine HHJ.out.mono ?_
        rintro e w1 ⟨rfl, rfl⟩
        go_wp2
        go_ret
        exact ⟨_, rfl, .inr ⟨j, rfl, HL.out, by rw [HN.out]; exact hlt⟩, rfl⟩
      | false =>
        rw [hb] at HHJ
        have HNX : Hid (∀ t, t < j + 1 → bitW r t = false) := Lib.hid fun t ht => by
          by_cases e : t = j
          · rw [e]; exact hb
          · exact HJ.out t (by omega)
        clear hb
        go_wp2_with fail
        refine HHJ.out.mono ?_
        rintro e w1 ⟨rfl, rfl⟩
        go_wp2
        go_roundw
        case rel => exact ⟨j + 1, by omega, by go_num, HNX.out, trivial⟩
        case measure => simp [intOf]; omega
    · have dl : decide ((j : Int) < 64 * (n : Int)) = false := decide_eq_false (by omega)
      obtain rfl : j = 64 * n := by omega
      go_wp2
      go_ret
      exact ⟨_, rfl, .inl ⟨rfl, HZ.out HJ.out⟩, rfl⟩
end Go.Proofs.YtkhdjjcflbdegaaGreatDoor
end
