import Derived.Test.YtfibolkgpffjkaaGreatDoorG29
import Derived.Test.YtfibolkgpffjkaaGreatDoorG21
import Derived.Test.YtfibolkgpffjkaaGreatDoorG20
import Derived.Test.YtfibolkgpffjkaaGreatDoorG31
import Derived.Test.YtfibolkgpffjkaaGreatDoorG23
import Derived.Outline
import Derived.Test.YtfibolkgpffjkaaGreatDoorG16
import Derived.Test.YtfibolkgpffjkaaGreatDoorG17
import Derived.Test.YtfibolkgpffjkaaGreatDoorG08
import Derived.Test.YtfibolkgpffjkaaGreatDoorG50
import Derived.Test.YtfibolkgpffjkaaGreatDoorG14
import Derived.Deep.AppendLies
import Derived.Deep.RegionLaw
import Derived.Deep.Cut

section
/- Package encode: K, Symbol. -/
namespace Go.Proofs.YtfibolkgpffjkaaGreatDoor
open Go.RowKit Go.Extern.Stop Go.Stop Go.Extern

theorem EnK_nil {w : World} : Calls Tryz.prog 12 #[.pointer none] w fun e w' => e = .returned (.int .i64 0) ∧ w = w' := by
  go_enter Tryz.func12, Tryz.ntmps12
  go_wp2
  go_ret
  exact ⟨rfl, rfl⟩
theorem EnK_any {w : World} {B g k s h l p sd size : Nat} {vm : Value} {V M : List (List Nat)} (he : EncAt w B g k s h l p sd size vm V M) :
    Calls Tryz.prog 12 #[.pointer (some ⟨g, 0, none⟩)] w fun e w' => e = .returned (.int .i64 (k : Int)) ∧ w = w' := by
  obtain ⟨c0, -, -, -, -, -, -, -⟩ := he.box.cells
  clear he
  go_enter Tryz.func12, Tryz.ntmps12
  go_wp2
  go_ret
  exact ⟨rfl, rfl⟩

set_option maxRecDepth 1000000 in
theorem EnSym_nil {w : World} (n : Int) : Calls Tryz.prog 14 #[.pointer none, .int .i64 n] w (NoSays 7 nameEnSym nilS w) := by
  go_enter Tryz.func14, Tryz.ntmps14
  go_wp2_with fail
  refine (New_ans nameEnSym 7 (by decide) _).mono ?_
  rintro e w1 ⟨E, rfl, hea, hb1⟩
  have HEA := Lib.hid hea
  have HB1 := Lib.hid hb1
  obtain ⟨u, x, rfl⟩ := hea.some (by decide)
  clear hea hb1
  go_wp2
  go_ret2
  exact ⟨_, rfl, HEA.out, HB1.out⟩

set_option maxRecDepth 1000000 in
set_option maxHeartbeats 4000000 in
theorem EnSym_no {w : World} {B g k s h l p sd size : Nat} {vm : Value} {V M : List (List Nat)} (he : EncAt w B g k s h l p sd size vm V M) (n : Int) (hn : n < 0 ∨ 65536 ≤ n) :
    Calls Tryz.prog 14 #[.pointer (some ⟨g, 0, none⟩), .int .i64 n] w (NoSays 1 nameEnSym nilS w) := by
  have hbd : Below w.heap.size w w.drew := (Below.refl _ _).drew
  have HBD := Lib.hid hbd
  have HRW : Hid (Calls Tryz.prog 33 #[.agg #[.int .i64 (k : Int), .int .i64 (s : Int), .int .i64 (h : Int), .int .i64 (l : Int), .int .i64 (p : Int)], .int .i64 (sd : Int), .int .i64 n] w.drew (NoSays 1 nameLRow nilS w.drew)) := Lib.hid (lRow_no k s h l p sd n (by have := he.k2; omega) (by rcases hn with h | h <;> omega))
  obtain ⟨c0, c1, c2, c3, c4, c5, c6, c7⟩ := he.box.cells
  have hlt := he.box.lt
  have HSAT : Hid (∀ V, Below w.heap.size w V → V.cell? ⟨g, 0, none⟩ = some (.int .i64 (k : Int)) ∧ V.cell? ⟨g, 1, none⟩ = some (.int .i64 (s : Int)) ∧ V.cell? ⟨g, 2, none⟩ = some (.int .i64 (h : Int)) ∧ V.cell? ⟨g, 3, none⟩ = some (.int .i64 (l : Int)) ∧ V.cell? ⟨g, 4, none⟩ = some (.int .i64 (p : Int)) ∧ V.cell? ⟨g, 5, none⟩ = some (.int .i64 (sd : Int))) := Lib.hid fun V hV => ⟨(hV.cell (p := ⟨g, 0, none⟩) hlt).trans c0, (hV.cell (p := ⟨g, 1, none⟩) hlt).trans c1, (hV.cell (p := ⟨g, 2, none⟩) hlt).trans c2, (hV.cell (p := ⟨g, 3, none⟩) hlt).trans c3, (hV.cell (p := ⟨g, 4, none⟩) hlt).trans c4, (hV.cell (p := ⟨g, 5, none⟩) hlt).trans c5⟩
  have HSD : Hid (w.drew.cell? ⟨g, 0, none⟩ = some (.int .i64 (k : Int)) ∧ w.drew.cell? ⟨g, 1, none⟩ = some (.int .i64 (s : Int)) ∧ w.drew.cell? ⟨g, 2, none⟩ = some (.int .i64 (h : Int)) ∧ w.drew.cell? ⟨g, 3, none⟩ = some (.int .i64 (l : Int)) ∧ w.drew.cell? ⟨g, 4, none⟩ = some (.int .i64 (p : Int)) ∧ w.drew.cell? ⟨g, 5, none⟩ = some (.int .i64 (sd : Int))) := Lib.hid ⟨c0, c1, c2, c3, c4, c5⟩
  clear he hn hbd
  go_enter Tryz.func14, Tryz.ntmps14
  go_upto_region 3 with fail
  go_region_held3 (fun w' => w'.cell? ⟨g, 0, none⟩ = some (.int .i64 (k : Int)) ∧ w'.cell? ⟨g, 1, none⟩ = some (.int .i64 (s : Int)) ∧ w'.cell? ⟨g, 2, none⟩ = some (.int .i64 (h : Int)) ∧ w'.cell? ⟨g, 3, none⟩ = some (.int .i64 (l : Int)) ∧ w'.cell? ⟨g, 4, none⟩ = some (.int .i64 (p : Int)) ∧ w'.cell? ⟨g, 5, none⟩ = some (.int .i64 (sd : Int)))
    (first | exact HSD.out | exact HSAT.out _ HB3.out | go_keep)
    (first
    | (go_at_call 33; (with_reducible refine HRW.out.mono ?_); rintro e w3 ⟨E, rfl, hea, hb3⟩; have HB3 := Lib.hid (HBD.out.trans (hb3.mono HBD.out.size)); obtain ⟨ls, hch⟩ : ∃ ls, Chain w3 1 (nameLRow :: ls) E := (hea.resolve_left (by rintro ⟨h, -⟩; cases h)).2; have HCH := Lib.hid hch; obtain ⟨u, x, rfl⟩ := hch.iface; clear hea hb3 hch))
  all_goals
    clear c0 c1 c2 c3 c4 c5 c6 c7
    go_wp2_with fail
    refine (Wrap_chain nameEnSym 1 _ _ _ HCH.out).mono ?_
    rintro e w4 ⟨E2, rfl, hch, hb4⟩
    have HB4 := Lib.hid (HB3.out.trans (hb4.mono HB3.out.size))
    have HCH2 := Lib.hid hch
    obtain ⟨u2, x2, rfl⟩ := hch.iface
    clear hch hb4
    go_wp2
    go_ret2
    exact ⟨_, rfl, .inr ⟨by decide, _, HCH2.out⟩, HB4.out⟩

theorem listAt_col {w : World} {v : Value} {l : List Nat} (h : ListAt intV w v (l.map Int.ofNat)) : ListAt colV w v l := by
  obtain ⟨a, cap, rfl, h1, h2, h3⟩ := h
  refine ⟨a, cap, by rw [List.length_map], by simpa using h1, h2, fun hp => ?_⟩
  obtain ⟨b, off, rfl, hc⟩ := h3 (by simpa using hp)
  refine ⟨b, off, rfl, fun j hj => ?_⟩
  have := hc j (by simpa using hj)
  simpa [intV, colV] using this
/-- The picked rows, from the front. -/
theorem picked_at {α : Type} {f : α → Value} {w : World} {x : Value} {vs : List Value} {L : List (List α)} {cs : List Nat} {n : Nat} (hn : cs.length = n) (hx : ListAt id w x (fillTo (fun j => vs.getD (cs.getD j 0) nilS) nilS n n)) (h : ∀ i, ListAt f w (vs.getD i nilS) (L.getD i [])) :
    MatAt f w x (cs.map fun c => L.getD c []) := by
  refine ⟨_, hx, by rw [fillTo_length, List.length_map, hn], fun i => ?_⟩
  rw [fillTo_all]
  by_cases hi : i < n
  · rw [range_getD, if_pos hi]
    have e : (cs.map fun c => L.getD c []).getD i [] = L.getD (cs.getD i 0) [] := by
      have : i < cs.length := by omega
      simp [List.getD_eq_getElem?_getD, this]
    rw [e]
    exact h _
  · rw [range_getD, if_neg hi, List.getD_eq_getElem?_getD, List.getElem?_eq_none (by rw [List.length_map]; omega)]
    exact ListAt.nil _ _

set_option maxRecDepth 1000000 in
set_option maxHeartbeats 4000000 in
theorem EnSym_ok {w : World} {B g k s h l p sd size : Nat} {vm : Value} {V M : List (List Nat)} (he : EncAt w B g k s h l p sd size vm V M) (n : Nat) (hn : n < 65536) (hT : DgTab w) :
    Calls Tryz.prog 14 #[.pointer (some ⟨g, 0, none⟩), .int .i64 (n : Int)] w fun e w' => ∃ v', e = .returned (.tuple #[v', .nilIface]) ∧ w'.ownsRow w.heap.size 5 1 v' size ((symE l p sd size V n).map byteV) ∧ Below w.heap.size w w' := by
  obtain ⟨i0, hi0, hz0, hz1, hz2⟩ := info_parts info_sym
  have HE := Lib.hid he
  have hbd : Below w.heap.size w w.drew := (Below.refl _ _).drew
  have HBD := Lib.hid hbd
  have HRW : Hid (Calls Tryz.prog 33 #[.agg #[.int .i64 (k : Int), .int .i64 (s : Int), .int .i64 (h : Int), .int .i64 (l : Int), .int .i64 (p : Int)], .int .i64 (sd : Int), .int .i64 (n : Int)] w.drew fun e w' => ∃ v', e = .returned (.tuple #[v', .nilIface]) ∧ ListAt colV w' v' (rowE l p sd n) ∧ Below w.heap.size w w') := Lib.hid (by
    refine (Row_ok k s h l p sd n he.of he.k1 he.k2 he.seed.1 hn (PairsAt.mono hT hbd)).mono ?_
    rintro e w' ⟨v', W, rfl, htr, hl, hb⟩
    refine ⟨v', rfl, ?_, hbd.trans (hb.mono hbd.size)⟩
    unfold rowE
    rw [walkE_eq htr]
    exact listAt_col hl)
  obtain ⟨c0, c1, c2, c3, c4, c5, c6, c7⟩ := he.box.cells
  have hlt := he.box.lt
  have HSAT : Hid (∀ V, Below w.heap.size w V → V.cell? ⟨g, 0, none⟩ = some (.int .i64 (k : Int)) ∧ V.cell? ⟨g, 1, none⟩ = some (.int .i64 (s : Int)) ∧ V.cell? ⟨g, 2, none⟩ = some (.int .i64 (h : Int)) ∧ V.cell? ⟨g, 3, none⟩ = some (.int .i64 (l : Int)) ∧ V.cell? ⟨g, 4, none⟩ = some (.int .i64 (p : Int)) ∧ V.cell? ⟨g, 5, none⟩ = some (.int .i64 (sd : Int))) := Lib.hid fun V hV => ⟨(hV.cell (p := ⟨g, 0, none⟩) hlt).trans c0, (hV.cell (p := ⟨g, 1, none⟩) hlt).trans c1, (hV.cell (p := ⟨g, 2, none⟩) hlt).trans c2, (hV.cell (p := ⟨g, 3, none⟩) hlt).trans c3, (hV.cell (p := ⟨g, 4, none⟩) hlt).trans c4, (hV.cell (p := ⟨g, 5, none⟩) hlt).trans c5⟩
  have HSD : Hid (w.drew.cell? ⟨g, 0, none⟩ = some (.int .i64 (k : Int)) ∧ w.drew.cell? ⟨g, 1, none⟩ = some (.int .i64 (s : Int)) ∧ w.drew.cell? ⟨g, 2, none⟩ = some (.int .i64 (h : Int)) ∧ w.drew.cell? ⟨g, 3, none⟩ = some (.int .i64 (l : Int)) ∧ w.drew.cell? ⟨g, 4, none⟩ = some (.int .i64 (p : Int)) ∧ w.drew.cell? ⟨g, 5, none⟩ = some (.int .i64 (sd : Int))) := Lib.hid ⟨c0, c1, c2, c3, c4, c5⟩
  have hll := (OfP.bounds he.of he.k1 he.k2).2.2.2.2.1
  obtain ⟨vs, hvs, hvl, hel⟩ := id he.mid.own.at
  rw [he.tells.1] at hvl
  have HVS := Lib.hid hvs
  have HEL := Lib.hid hel
  have HLT : Hid (∀ c ∈ rowE l p sd n, c < l) := Lib.hid rowE_lt
  have HRL := Lib.hid (rowE_len l p sd n)
  have HVV := Lib.hid he.tells
  have HZ := Lib.hid (show 1 ≤ size ∧ size ≤ 64 from ⟨he.z1, he.z2⟩)
  obtain ⟨am, cm, rfl, -, -, hmc⟩ := hvs
  have HMC : Hid (0 < l → ∃ b off, am = some ⟨b, off, none⟩ ∧ ∀ j, j < l → w.cell? ⟨b, off + j, none⟩ = some (vs.getD j nilS)) := Lib.hid fun hp => by
    obtain ⟨b, off, e, hc⟩ := hmc (by omega)
    refine ⟨b, off, e, fun j hj => ?_⟩
    have hj' : j < vs.length := by omega
    rw [hc j hj']
    simp [List.getD_eq_getElem?_getD, hj']
  rw [hvl] at HVS c7 HE
  clear he hbd hel hmc
  go_enter Tryz.func14, Tryz.ntmps14
  go_upto_region 3 with fail
  go_region_held3 (fun w' => w'.cell? ⟨g, 0, none⟩ = some (.int .i64 (k : Int)) ∧ w'.cell? ⟨g, 1, none⟩ = some (.int .i64 (s : Int)) ∧ w'.cell? ⟨g, 2, none⟩ = some (.int .i64 (h : Int)) ∧ w'.cell? ⟨g, 3, none⟩ = some (.int .i64 (l : Int)) ∧ w'.cell? ⟨g, 4, none⟩ = some (.int .i64 (p : Int)) ∧ w'.cell? ⟨g, 5, none⟩ = some (.int .i64 (sd : Int)))
    (first | exact HSD.out | exact HSAT.out _ HB3.out | go_keep)
    (first
    | (go_at_call 33; (with_reducible refine HRW.out.mono ?_); rintro e w3 ⟨v3, rfl, hl3, hb3⟩; have HL3 := Lib.hid hl3; have HB3 := Lib.hid hb3; clear hl3 hb3))
  all_goals
    obtain ⟨q, hq⟩ : ∃ q, (rowE l p sd n).length = q := ⟨_, rfl⟩
    have HQ := Lib.hid hq
    have HSY : Hid (symE l p sd size V n = sumS size ((rowE l p sd n).map fun c => V.getD c [])) := Lib.hid rfl
    have hql : q ≤ l := by rw [← hq]; exact HRL.out
    generalize rowE l p sd n = R at *
    obtain ⟨ap, cp, rfl, hpc, -, hpcell⟩ := HL3.out
    have HPC := Lib.hid hpcell
    rw [hq] at hpc ⊢
    have hz3 := HB3.out.size
    clear c0 c1 c2 c3 c4 c5 c6 c7 hpcell hq
    go_wp2_with (at_make; refine wpList_make_full _ rfl _ _ 22 rfl w.heap.size 38 i0 (.slice none 0 0) 1 Tryz.underlying22 hi0 hz0 hz1 .i64 .i64 _ _ q rfl rfl rfl rfl (by rw [hz2]; omega) (by unfold maxLen; omega) hz3 ?_; intro w4 hown0 hgrow0; have HB34 := Lib.hid ((Below.refl w3.heap.size w3).grown hgrow0 (Nat.le_refl _) (fun k hk => by cases hk)); have HO4 : Hid (w4.ownsRow w.heap.size 38 1 (.slice (some ⟨w3.heap.size, 0, none⟩) q q) q (fillTo (fun j => vs.getD (R.getD j 0) nilS) nilS q 0)) := Lib.hid (by rw [fillTo_zero]; rw [Nat.mul_one] at hown0; exact toList_madeCells_one (.slice none 0 0) q ▸ hown0); clear hown0 hgrow0)
    go_loopw [37] (fun i wr => ∃ j : Nat, j ≤ q ∧ i = .int .i64 j ∧ wr.ownsRow w.heap.size 38 1 (.slice (some ⟨w3.heap.size, 0, none⟩) q q) q (fillTo (fun j => vs.getD (R.getD j 0) nilS) nilS q j) ∧ Below w3.heap.size w3 wr) (fun i _ => q - (intOf i).toNat)
    case atStart => exact ⟨0, Nat.zero_le _, rfl, HO4.out, HB34.out⟩
    case round =>
      obtain ⟨j, hj, rfl, hown, hbel⟩ := hrel
      have HO := Lib.hid hown
      have HBR := Lib.hid hbel
      have hbw := HB3.out.trans (hbel.mono hz3)
      obtain ⟨-, -, -, -, -, -, d6, d7⟩ := (HE.out.mono hbw).box.cells
      by_cases hjq : j < q
      · obtain ⟨bp, op, rfl, hpc2⟩ := HPC.out (by rw [HQ.out]; omega)
        have hjR : j < R.length := by rw [HQ.out]; exact hjq
        have hp3 := hpc2 j hjR
        have hp4 : wr.cell? ⟨bp, op + j, none⟩ = some (.int .i64 ((R.getD j 0 : Nat) : Int)) := by
          rw [hbel.cell (p := ⟨bp, op + j, none⟩) (World.block_lt_of_cell? w3 _ hp3), hp3]
          simp [colV, List.getD_eq_getElem?_getD, hjR]
        have hcl : R.getD j 0 < l := HLT.out _ (by
          rw [List.getD_eq_getElem?_getD, List.getElem?_eq_getElem hjR]
          exact List.getElem_mem hjR)
        obtain ⟨bm, om, rfl, hmc2⟩ := HMC.out (by omega)
        have hm3 := hmc2 _ hcl
        have hm4 := (hbw.cell (p := ⟨bm, om + R.getD j 0, none⟩) (World.block_lt_of_cell? w _ hm3)).trans hm3
        have hst := fillTo_set (fun j => vs.getD (R.getD j 0) nilS) nilS q j
        have HS := Lib.hid hst
        obtain ⟨xa, xc, hxe, -, -, -⟩ := HEL.out (R.getD j 0)
        have HXE := Lib.hid hxe
        rw [hxe] at hm4
        have hy3 : ∃ y, wr.cell? ⟨w3.heap.size, j, none⟩ = some y := by
          have := hown.cellAt j (by omega)
          rw [this]
          exact ⟨_, List.getElem?_eq_getElem (by rw [fillTo_length]; exact hjq)⟩
        obtain ⟨y, hy3⟩ := hy3
        have hy4 : wr.frozen? ⟨w3.heap.size, j, none⟩ = false := hown.frozenAt j
        clear hown hbel hbw hpc2 hp3 hmc2 hm3 hst hxe hjR
        generalize (V.getD (R.getD j 0) []).length = xl at *
        generalize R.getD j 0 = cx at *
        go_wp2_with fail
        go_roundw
        case rel => exact ⟨j + 1, by omega, by go_num, by rw [← HS.out, HXE.out]; exact (HO.out.stored j _).1, HBR.out.setCell (p := ⟨w3.heap.size, j, none⟩) (Nat.le_refl _) _⟩
        case measure => simp [intOf]; omega
      · obtain rfl : j = q := by omega
        have HPM : Hid (MatAt byteV wr (.slice (some ⟨w3.heap.size, 0, none⟩) j j) (R.map fun c => V.getD c [])) := Lib.hid (by
          exact picked_at HQ.out (ListAt.of_owns (f := id) (base := w.heap.size) (e := 38) (n := j) (by rw [List.map_id]; exact hown)) fun i => (HEL.out i).mono hbw)
        have hvr : ∀ r ∈ R.map fun c => V.getD c [], r.length = size ∧ Octets r := fun r hr => by
          obtain ⟨c, hc, rfl⟩ := List.mem_map.1 hr
          have hcl := HLT.out c hc
          exact HVV.out.row _ (getD_mem_row (by rw [HVV.out.1]; exact hcl))
        have HSU := Lib.hid (Sum_ok _ _ size HPM.out HZ.out.1 HZ.out.2 (fun r hr => (hvr r hr).1) (fun r hr => (hvr r hr).2))
        have HBW := Lib.hid hbw
        clear hown hbel hbw hvr
        go_wp2_with fail
        refine HSU.out.mono ?_
        rintro e w5 ⟨v5, rfl, ho5, hb5⟩
        have HO5 := Lib.hid ho5
        have HB5 := Lib.hid (HBW.out.trans (hb5.mono HBW.out.size))
        have hz5 := HBW.out.size
        obtain ⟨a5, c5, rfl, -, -⟩ := own_open ho5
        clear ho5 hb5 d6 d7
        go_wp2_with fail
        refine (Wrap_nil nameEnSym w5).mono ?_
        rintro e w6 ⟨rfl, rfl⟩
        go_wp2
        go_ret2
        exact ⟨_, rfl, by rw [HSY.out]; exact ownsRow_base HO5.out hz5, HB5.out⟩
end Go.Proofs.YtfibolkgpffjkaaGreatDoor
end

section
/- The twelfth layer's laws: awake; a block of source symbols in memory of its own. -/
namespace Go.Proofs.YtfibolkgpffjkaaGreatDoor
open Go.RowKit Go.Extern.Stop Go.Stop Go.Extern

/-- A block of source symbols in memory of its own. -/
def BlkBox (W : World) (g : Nat) (n : Int) (v : Value) : Prop := W.heap[g]? = some (.cells #[.int .i64 n, v] 24 (0, 0))
theorem BlkBox.lt {W : World} {g : Nat} {n : Int} {v : Value} (b : BlkBox W g n v) : g < W.heap.size := (Array.getElem?_eq_some_iff.1 b).1
theorem BlkBox.mono {W W' : World} {g : Nat} {n : Int} {v : Value} (b : BlkBox W g n v) (hb : Below W.heap.size W W') : BlkBox W' g n v := (hb.block g b.lt).trans b
theorem BlkBox.cells {W : World} {g : Nat} {n : Int} {v : Value} (b : BlkBox W g n v) : W.cell? ⟨g, 0, none⟩ = some (.int .i64 n) ∧ W.cell? ⟨g, 1, none⟩ = some v := ⟨cell_of_heap b rfl, cell_of_heap b rfl⟩
theorem blk_laid (w : World) (n : Int) (v : Value) : ∃ W, W = w.alloc (.cells #[.int .i64 n, v] 24) ∧ Below w.heap.size w W ∧ BlkBox W w.heap.size n v :=
  ⟨_, rfl, (Below.refl _ _).alloc (Nat.le_refl _) _, heap_alloc_new w _⟩
theorem BlkBox.store {W : World} {g : Nat} {n : Int} {v : Value} (b : BlkBox W g n v) (n' : Int) (v' : Value) : BlkBox ((W.setCell ⟨g, 0, none⟩ (.int .i64 n')).setCell ⟨g, 1, none⟩ v') g n' v' :=
  heap_setCell_at (j := 1) (u := v') (heap_setCell_at (j := 0) (u := .int .i64 n') b)
theorem BlkBox.free {W : World} {g : Nat} {n : Int} {v : Value} (b : BlkBox W g n v) : W.frozen? ⟨g, 0, none⟩ = false ∧ W.frozen? ⟨g, 1, none⟩ = false := ⟨frozen_of_heap b, frozen_of_heap b⟩

/-- The two symbols 01, 02, laid. -/
theorem twos_at (w : World) : ∃ W, W = ((w.alloc (.cells #[.int .u8 1] 5)).alloc (.cells #[.int .u8 2] 5)).alloc (.cells #[.slice (some ⟨w.heap.size, 0, none⟩) 1 1, .slice (some ⟨w.heap.size + 1, 0, none⟩) 1 1] 38) ∧
    MatAt byteV W (.slice (some ⟨w.heap.size + 1 + 1, 0, none⟩) 2 2) [[1], [2]] ∧ Below w.heap.size w W := by
  have z1 : (w.alloc (.cells #[.int .u8 1] 5)).heap.size = w.heap.size + 1 := World.size_alloc _ _
  have z2 : ((w.alloc (.cells #[.int .u8 1] 5)).alloc (.cells #[.int .u8 2] 5)).heap.size = w.heap.size + 1 + 1 := by rw [World.size_alloc, z1]
  have l1 : ListAt byteV (w.alloc (.cells #[.int .u8 1] 5)) (.slice (some ⟨w.heap.size, 0, none⟩) 1 1) [1] :=
    ListAt.of_owns (f := byteV) (l := [1]) (own_of_heap (base := w.heap.size) (e := 5) (Nat.le_refl _) rfl (by decide) (heap_alloc_new w (.cells #[.int .u8 1] 5)))
  have h2 := heap_alloc_new (w.alloc (.cells #[.int .u8 1] 5)) (.cells #[.int .u8 2] 5)
  rw [z1] at h2
  have l2 : ListAt byteV ((w.alloc (.cells #[.int .u8 1] 5)).alloc (.cells #[.int .u8 2] 5)) (.slice (some ⟨w.heap.size + 1, 0, none⟩) 1 1) [2] :=
    ListAt.of_owns (f := byteV) (l := [2]) (own_of_heap (base := w.heap.size) (e := 5) (Nat.le_succ _) rfl (by decide) h2)
  have hp := pair_mat (l1.mono ((Below.refl _ _).alloc (Nat.le_refl _) (.cells #[.int .u8 2] 5))) l2
  rw [z2] at hp
  exact ⟨_, rfl, hp, (((Below.refl _ w).alloc (Nat.le_refl _) _).alloc (by omega) _).alloc (by omega) _⟩
theorem twos_row : ∀ r ∈ [[1], [2]], r.length = 1 ∧ Octets r := fun r hr => by
  rcases List.mem_cons.1 hr with rfl | hr
  · exact ⟨rfl, fun x hx => by rw [List.mem_singleton.1 hx]; decide⟩
  · rw [List.mem_singleton.1 hr]
    exact ⟨rfl, fun x hx => by rw [List.mem_singleton.1 hx]; decide⟩

set_option maxRecDepth 1000000 in
set_option maxHeartbeats 4000000 in
theorem awake12 (w : World) (hT : DgTab w) (hB : Tab w) : Calls Tryz.prog 17 #[] w fun e w' => e = .returned (.bool true) ∧ Below w.heap.size w w' := by
  obtain ⟨w0, hw0, hm0, hb0⟩ := twos_at w
  have HW0 := Lib.hid hw0
  have HB0 := Lib.hid hb0
  have HT0 := Lib.hid (PairsAt.mono hT hb0)
  have HNW := Lib.hid (EnNew_ok 2 1 _ [[1], [2]] hm0 rfl (by decide) (by decide) (by decide) (by decide) twos_row (PairsAt.mono hT hb0) (hB.mono hb0))
  clear hw0 hm0 hb0 hT hB
  go_enter Tryz.func17, Tryz.ntmps17
  go_wp2_with fail
  rw [← HW0.out]
  refine HNW.out.mono ?_
  rintro e w1 ⟨g, s, h, l, p, sd, vm, V, rfl, hen, hb1⟩
  have HEN := Lib.hid hen
  have HB1 := Lib.hid (HB0.out.trans (hb1.mono HB0.out.size))
  have HS0 : Hid (symE l p sd 1 V 0 = [1]) := Lib.hid (hen.source (n := 0) rfl twos_row (by decide))
  have HS1 : Hid (symE l p sd 1 V 1 = [2]) := Lib.hid (hen.source (n := 1) rfl twos_row (by decide))
  have HT1 := Lib.hid (PairsAt.mono HT0.out hb1)
  have HY0 := Lib.hid (EnSym_ok hen 0 (by decide) (PairsAt.mono HT0.out hb1))
  clear hen hb1
  go_wp2_with fail
  refine HY0.out.mono ?_
  rintro e w2 ⟨v2, rfl, ho2, hb2⟩
  rw [HS0.out] at ho2
  have HL2 := Lib.hid (ListAt.of_owns (n := [1].length) (f := byteV) (l := [1]) ho2)
  have HB2 := Lib.hid (HB1.out.trans (hb2.mono HB1.out.size))
  have HY1 := Lib.hid (EnSym_ok (HEN.out.mono hb2) 1 (by decide) (PairsAt.mono HT1.out hb2))
  have HE2 := Lib.hid (HEN.out.mono hb2)
  obtain ⟨a2, c2, rfl, -, -⟩ := own_open ho2
  clear ho2 hb2
  go_wp2_with fail
  refine HY1.out.mono ?_
  rintro e w3 ⟨v3, rfl, ho3, hb3⟩
  rw [HS1.out] at ho3
  have hs3 := (ListAt.of_owns (n := [2].length) (f := byteV) (l := [2]) ho3).str
  have hs2 := (HL2.out.mono hb3).str
  rw [show strN [1] = ⟨#[1]⟩ from rfl] at hs2
  rw [show strN [2] = ⟨#[2]⟩ from rfl] at hs3
  have HB3 := Lib.hid (HB2.out.trans (hb3.mono HB2.out.size))
  have HK3 := Lib.hid (EnK_any (HE2.out.mono hb3))
  obtain ⟨a3, c3, rfl, -, -⟩ := own_open ho3
  clear ho3 hb3
  go_wp2_with fail
  refine HK3.out.mono ?_
  rintro e w4 ⟨rfl, rfl⟩
  go_wp2
  go_ret
  exact ⟨rfl, HB3.out⟩
end Go.Proofs.YtfibolkgpffjkaaGreatDoor
end

section
/- Package geyserref12: lines (a row's truths, and its symbol) in memory; the sum of two. -/
namespace Go.Proofs.YtfibolkgpffjkaaGreatDoor
open Go.RowKit Go.Extern.Stop Go.Stop Go.Extern

theorem info_line : (Tryz.prog.info? 100).map (fun i => (i.zero, i.size, i.bytes)) = some (some (.agg #[.slice none 0 0, .slice none 0 0]), 2, 48) := by kernel_rfl

abbrev Ln : Type := List Bool × List Nat
def noLn : Ln := ([], [])

/-- A line in a block of its own. -/
def LnBox (W : World) (g : Nat) (r s : Value) : Prop := W.heap[g]? = some (.cells #[r, s] 100 (0, 0))
theorem LnBox.lt {W : World} {g : Nat} {r s : Value} (b : LnBox W g r s) : g < W.heap.size := (Array.getElem?_eq_some_iff.1 b).1
theorem LnBox.mono {W W' : World} {g : Nat} {r s : Value} (b : LnBox W g r s) (hb : Below W.heap.size W W') : LnBox W' g r s := (hb.block g b.lt).trans b
theorem LnBox.keep {W W' : World} {g B : Nat} {r s : Value} (b : LnBox W g r s) (hb : Below B W W') (hg : g < B) : LnBox W' g r s := (hb.block g hg).trans b
theorem LnBox.cells {W : World} {g : Nat} {r s : Value} (b : LnBox W g r s) : W.cell? ⟨g, 0, none⟩ = some r ∧ W.cell? ⟨g, 1, none⟩ = some s := ⟨cell_of_heap b rfl, cell_of_heap b rfl⟩
theorem LnBox.free {W : World} {g : Nat} {r s : Value} (b : LnBox W g r s) : W.frozen? ⟨g, 0, none⟩ = false ∧ W.frozen? ⟨g, 1, none⟩ = false := ⟨frozen_of_heap b, frozen_of_heap b⟩
theorem LnBox.store {W : World} {g : Nat} {r s : Value} (b : LnBox W g r s) (r' s' : Value) : LnBox ((W.setCell ⟨g, 0, none⟩ r').setCell ⟨g, 1, none⟩ s') g r' s' :=
  heap_setCell_at (j := 1) (u := s') (heap_setCell_at (j := 0) (u := r') b)
theorem ln_laid (w : World) (ra sa rb sb : Value) : ∃ W, W = ((w.alloc (.cells #[ra, sa] 100)).alloc (.cells #[rb, sb] 100)).alloc (.cells #[nilS, nilS] 100) ∧
    Below w.heap.size w W ∧ W.heap.size = w.heap.size + 1 + 1 + 1 ∧ LnBox W w.heap.size ra sa ∧ LnBox W (w.heap.size + 1) rb sb ∧ LnBox W (w.heap.size + 1 + 1) nilS nilS := by
  have z1 : (w.alloc (.cells #[ra, sa] 100)).heap.size = w.heap.size + 1 := World.size_alloc _ _
  have z2 : ((w.alloc (.cells #[ra, sa] 100)).alloc (.cells #[rb, sb] 100)).heap.size = w.heap.size + 1 + 1 := by rw [World.size_alloc, z1]
  have a1 : LnBox (w.alloc (.cells #[ra, sa] 100)) w.heap.size ra sa := heap_alloc_new w _
  have a2 := heap_alloc_new (w.alloc (.cells #[ra, sa] 100)) (.cells #[rb, sb] 100)
  rw [z1] at a2
  have a3 := heap_alloc_new ((w.alloc (.cells #[ra, sa] 100)).alloc (.cells #[rb, sb] 100)) (.cells #[nilS, nilS] 100)
  rw [z2] at a3
  refine ⟨_, rfl, (((Below.refl _ _).alloc (Nat.le_refl _) _).alloc (by omega) _).alloc (by omega) _, by rw [World.size_alloc, z2], ?_, ?_, a3⟩
  · exact (Below.heap_alloc _ _ _ (by omega)).trans ((Below.heap_alloc _ _ _ (by omega)).trans a1)
  · exact (Below.heap_alloc _ _ _ (by omega)).trans a2

set_option maxRecDepth 1000000 in
set_option maxHeartbeats 4000000 in
theorem lnadd_any {w : World} (ra sa rb sb : Value) (A B : List Bool) (x y : List Nat) (n size : Nat) (h1 : ListAt boolV w ra A) (h2 : ListAt boolV w rb B) (h3 : ListAt byteV w sa x) (h4 : ListAt byteV w sb y) (hA : A.length = n) (hB : B.length = n) (hx : x.length = size ∧ Octets x) (hy : y.length = size ∧ Octets y) (hn : n ≤ 4096) (hz : size ≤ 1000) :
    Calls Tryz.prog 53 #[.agg #[ra, sa], .agg #[rb, sb]] w fun e w' => ∃ r' s', e = .returned (.agg #[r', s']) ∧ w'.ownsRow w.heap.size 4 1 r' n ((sumB A B).map boolV) ∧ w'.ownsRow w.heap.size 5 1 s' size ((xorW x y).map byteV) ∧ Below w.heap.size w w' := by
  obtain ⟨i0, hi, hz0, hz1, hz2⟩ := info_parts info_bool
  obtain ⟨a3, c3, e3, -, -, -⟩ := id h3
  obtain ⟨a4, c4, e4, -, -, -⟩ := id h4
  rw [hx.1] at e3
  rw [hy.1] at e4
  subst e3 e4
  obtain ⟨a1, c1, rfl, -, -, hcell1⟩ := h1
  obtain ⟨a2, c2, rfl, -, -, hcell2⟩ := h2
  rw [hA]
  rw [hB]
  obtain ⟨w0, hw0, hb0, hs0, hy0, hy1, hy2⟩ := ln_laid w (.slice a1 n c1) (.slice a3 size c3) (.slice a2 n c2) (.slice a4 size c4)
  have HW0 := Lib.hid hw0
  have HB0 := Lib.hid hb0
  have HS0 := Lib.hid hs0
  have HY0 := Lib.hid hy0
  have HY1 := Lib.hid hy1
  have HY2 := Lib.hid hy2
  have HC1 : Hid (0 < n → ∃ b off, a1 = some ⟨b, off, none⟩ ∧ ∀ j, j < n → w.cell? ⟨b, off + j, none⟩ = some (.bool (bitB A j))) := Lib.hid fun hp => by
    obtain ⟨b, off, e, h⟩ := hcell1 (by omega)
    refine ⟨b, off, e, fun j hj => ?_⟩
    have : j < A.length := by omega
    rw [h j this]; simp [boolV, bitB, this]
  have HC2 : Hid (0 < n → ∃ b off, a2 = some ⟨b, off, none⟩ ∧ ∀ j, j < n → w.cell? ⟨b, off + j, none⟩ = some (.bool (bitB B j))) := Lib.hid fun hp => by
    obtain ⟨b, off, e, h⟩ := hcell2 (by omega)
    refine ⟨b, off, e, fun j hj => ?_⟩
    have : j < B.length := by omega
    rw [h j this]; simp [boolV, bitB, this]
  have HS : Hid (sumB A B = (List.range n).map fun c => (bitB A c != bitB B c)) := Lib.hid (by unfold sumB; rw [hA])
  have HAD : Hid (∀ V, Below w.heap.size w V → Calls Tryz.prog 20 #[.slice a3 size c3, .slice a4 size c4] V fun e w' => ∃ v', e = .returned v' ∧ w'.ownsRow V.heap.size 5 1 v' size ((xorW x y).map byteV) ∧ Below V.heap.size V w') :=
    Lib.hid fun V hV => sAdd_any _ _ x y size (h3.mono hV) (h4.mono hV) hx.2 hy.2 hx.1 hy.1 (by omega)
  have HSG : Hid (∀ t, ((List.range (t + 1)).map fun c => (bitB A c != bitB B c)).map boolV = ((List.range t).map fun c => (bitB A c != bitB B c)).map boolV ++ [boolV (bitB A t != bitB B t)]) := Lib.hid fun t => by rw [List.range_succ, List.map_append, List.map_append]; rfl
  generalize sumB A B = S at *
  clear hcell1 hcell2 hw0 hb0 hs0 hy0 hy1 hy2 h3 h4 hx hy hA hB
  go_enter Tryz.func53, Tryz.ntmps53
  go_upto_region 1 with fail
  rw [← HW0.out]
  go_wp2
  go_loopw [5, 6] (fun o i wr => ∃ t : Nat, t ≤ n ∧ i = .int .i64 t ∧ wr.ownsRow w0.heap.size 4 1 o t (((List.range t).map fun c => (bitB A c != bitB B c)).map boolV) ∧ Below w0.heap.size w0 wr) (fun _ i _ => n - (intOf i).toNat)
  case atStart => exact ⟨0, Nat.zero_le _, rfl, World.ownsRow_made (base := w0.heap.size) (e := 4) (size := 1) w0 #[] 0 (Nat.le_refl _) (by decide) rfl, (Below.refl _ _).alloc (Nat.le_refl _) _⟩
  case round =>
    obtain ⟨t, ht, rfl, hown, hbel⟩ := hrel
    have HO := Lib.hid hown
    have HB := Lib.hid hbel
    obtain ⟨ao, co, rfl, -, -⟩ := own_open hown
    obtain ⟨y0, y1⟩ := (HY0.out.mono hbel).cells
    obtain ⟨x0, x1⟩ := (HY1.out.mono hbel).cells
    by_cases htn : t < n
    · obtain ⟨b1, off1, rfl, hc1⟩ := HC1.out (by omega)
      obtain ⟨b2, off2, rfl, hc2⟩ := HC2.out (by omega)
      have hbd := hbel.drew
      have hbw := HB0.out.trans (hbd.mono (by have := HS0.out; omega))
      have hx1 : wr.drew.cell? ⟨b1, off1 + t, none⟩ = some (.bool (bitB A t)) := (hbw.cell (p := ⟨b1, off1 + t, none⟩) (World.block_lt_of_cell? w _ (hc1 t htn))).trans (hc1 t htn)
      have hx2 : wr.drew.cell? ⟨b2, off2 + t, none⟩ = some (.bool (bitB B t)) := (hbw.cell (p := ⟨b2, off2 + t, none⟩) (World.block_lt_of_cell? w _ (hc2 t htn))).trans (hc2 t htn)
      have y0d : wr.drew.cell? ⟨w.heap.size, 0, none⟩ = some (.slice (some ⟨b1, off1, none⟩) n c1) := y0
      have x0d : wr.drew.cell? ⟨w.heap.size + 1, 0, none⟩ = some (.slice (some ⟨b2, off2, none⟩) n c2) := x0
      have HXS := Lib.hid (HSG.out t)
      have HOD := Lib.hid (owns_kept hown ((Below.refl wr.heap.size wr).drew))
      have HBD := Lib.hid hbd
      have hszd : w0.heap.size ≤ wr.heap.size := hbd.size
      clear hown hbel hc1 hc2 hbd hbw
      have hN := neqBool (bitB A t) (bitB B t) _ rfl
      generalize hbe : (bitB A t != bitB B t) = bt at *
      generalize bitB A t = p1 at hN hx1
      generalize bitB B t = p2 at hN hx2
      clear hbe
      go_wp2_with fail
      go_region_law (refine step_append_lies _ rfl (.tmp 15) (.tmp 27) 98 rfl w0.heap.size 4 i0 (.bool false) 1 1 Tryz.underlying98 hi hz0 hz1 hz2 rfl (by decide) (.slice ao t co) t _ (by simp [Act.eval]) (HOD.out.alloc _) ⟨wr.heap.size, 0, none⟩ 1 1 [.bool bt] (by simp [Act.eval]) rfl (cell_one_new _ _ _) (fun x hx => by simp at hx; subst hx; rfl) (by decide) (by unfold maxLen; omega) (by omega) (by simp; omega) _ rfl ?_; intro g2 q2 w6 hown1 hgrow1 _ _; have HB6 := Lib.hid ((HBD.out.alloc hszd _).grown hgrow1 (by simp; omega) (fun k hk => (HOD.out.lt k hk).1)); have HO6 := Lib.hid hown1; clear hown1 hgrow1)
      all_goals go_wp2
      all_goals exact ⟨⟨t + 1, by omega, by go_num, by rw [HXS.out]; exact HO6.out, HB6.out⟩, by simp [intOf]; omega⟩
    · obtain rfl : t = n := by omega
      have hbw := HB0.out.trans (hbel.mono (by have := HS0.out; omega))
      have HBW := Lib.hid hbw
      have HADD := Lib.hid (HAD.out wr hbw)
      clear hown hbel hbw
      go_wp2_with fail
      refine HADD.out.mono ?_
      rintro e w3 ⟨v3, rfl, ho3, hb3⟩
      have HO3 := Lib.hid ho3
      have HB3 := Lib.hid (HB.out.trans (hb3.mono HB.out.size))
      have HR3 := Lib.hid (owns_kept HO.out hb3)
      have hsz : w0.heap.size ≤ wr.heap.size := HB.out.size
      obtain ⟨as3, cs3, rfl, -, -⟩ := own_open ho3
      have HY3 := Lib.hid (HY2.out.mono HB3.out)
      obtain ⟨z0, z1⟩ := HY3.out.cells
      obtain ⟨f0, f1⟩ := HY3.out.free
      have hl3 := HY3.out.lt
      clear ho3 hb3 y0 y1 x0 x1
      go_wp2
      have hb2 : w.heap.size + 1 + 1 < w0.heap.size := by have := HS0.out; omega
      refine bodyPost_ret (results_row1 rfl _ _ (w.heap.size + 1 + 1) 100 _ (0, 0) _ rfl (HY3.out.store _ _) Tryz.underlying100 rfl (by kernel_rfl)) rfl ?_
      have hst := own_set (own_set HR3.out (show w3.heap[w.heap.size + 1 + 1]? = some (.cells _ _ (0, 0)) from HY3.out) (by decide) 0 (.slice ao t co)) (heap_setCell_at (j := 0) (u := .slice ao t co) (show w3.heap[w.heap.size + 1 + 1]? = some (.cells _ _ (0, 0)) from HY3.out)) (by decide) 1 (.slice as3 size cs3)
      have hss := own_set (own_set HO3.out (show w3.heap[w.heap.size + 1 + 1]? = some (.cells _ _ (0, 0)) from HY3.out) (by decide) 0 (.slice ao t co)) (heap_setCell_at (j := 0) (u := .slice ao t co) (show w3.heap[w.heap.size + 1 + 1]? = some (.cells _ _ (0, 0)) from HY3.out)) (by decide) 1 (.slice as3 size cs3)
      have hsw : w.heap.size ≤ w0.heap.size := HB0.out.size
      exact ⟨_, _, rfl, by rw [HS.out]; exact ownsRow_base hst hsw, ownsRow_base hss (by omega), ((HB0.out.trans (HB3.out.mono hsw)).setCell (p := ⟨w.heap.size + 1 + 1, 0, none⟩) (show w.heap.size ≤ w.heap.size + 1 + 1 by omega) _).setCell (p := ⟨w.heap.size + 1 + 1, 1, none⟩) (show w.heap.size ≤ w.heap.size + 1 + 1 by omega) _⟩
end Go.Proofs.YtfibolkgpffjkaaGreatDoor
end

section
/- Package geyserref12: lists of lines (two cells an element): as they are read (LnsAt), as a call makes them (LnsOwn): append of such a list, of one more, a store; lines. -/
namespace Go.Proofs.YtfibolkgpffjkaaGreatDoor
open Go.RowKit Go.Extern.Stop Go.Stop Go.Extern

/-- A slice of lines that reads as a list. -/
def LnsAt (w : World) (v : Value) (L : List Ln) : Prop :=
  ∃ a cap, ∃ cs : List Value, v = .slice a L.length cap ∧ L.length ≤ cap ∧ cap ≤ maxLen ∧ cs.length = L.length * 2 ∧
    (0 < L.length → ∃ b off, a = some ⟨b, off, none⟩ ∧ ∀ j u, cs[j]? = some u → w.cell? ⟨b, off + j, none⟩ = some u) ∧
    ∀ j, j < L.length → ∃ r s, cs[j * 2]? = some r ∧ cs[j * 2 + 1]? = some s ∧ ListAt boolV w r (L.getD j noLn).1 ∧ ListAt byteV w s (L.getD j noLn).2
section
variable {w w' : World} {v : Value} {L : List Ln}
theorem LnsAt.mono (h : LnsAt w v L) (hb : Below w.heap.size w w') : LnsAt w' v L := by
  obtain ⟨a, cap, cs, rfl, h1, h2, h3, h4, h5⟩ := h
  refine ⟨a, cap, cs, rfl, h1, h2, h3, fun hp => ?_, fun j hj => ?_⟩
  · obtain ⟨b, off, rfl, hc⟩ := h4 hp
    refine ⟨b, off, rfl, fun j u hu => ?_⟩
    have hx := hc j u hu
    rw [hb.cell (p := ⟨b, off + j, none⟩) (World.block_lt_of_cell? w _ hx)]
    exact hx
  · obtain ⟨r, s, c1, c2, l1, l2⟩ := h5 j hj
    exact ⟨r, s, c1, c2, l1.mono hb, l2.mono hb⟩
theorem LnsAt.opens (h : LnsAt w v L) : ∃ a cap, v = .slice a L.length cap ∧ L.length ≤ cap ∧ cap ≤ maxLen ∧ (0 < L.length → ∃ b off, a = some ⟨b, off, none⟩ ∧ ∀ j, j < L.length →
    ∃ r s, w.cell? ⟨b, off + j * 2, none⟩ = some r ∧ w.cell? ⟨b, off + j * 2 + 1, none⟩ = some s ∧ ListAt boolV w r (L.getD j noLn).1 ∧ ListAt byteV w s (L.getD j noLn).2) := by
  obtain ⟨a, cap, cs, rfl, h1, h2, h3, h4, h5⟩ := h
  refine ⟨a, cap, rfl, h1, h2, fun hp => ?_⟩
  obtain ⟨b, off, rfl, hc⟩ := h4 hp
  refine ⟨b, off, rfl, fun j hj => ?_⟩
  obtain ⟨r, s, c1, c2, l1, l2⟩ := h5 j hj
  exact ⟨r, s, hc _ _ c1, by rw [Nat.add_assoc]; exact hc _ _ c2, l1, l2⟩
end

/-- What an element keeps where nothing turns that it may lie in. -/
theorem ElAt.keep {α : Type} {f : α → Value} {te : TypeId} {base : Nat} {w w' : World} {x : Value} {r : List α} (h : ElAt f te base w x r) (hs : ∀ b, b < w.heap.size → (b < base ∨ ∃ cur, w.heap[b]? = some (.cells cur te (0, 0))) → w'.heap[b]? = w.heap[b]?) : ElAt f te base w' x r := by
  by_cases hp : 0 < r.length
  · have hnb : ∀ b, x.ownBlock = some b → w'.heap[b]? = w.heap[b]? := fun b hx => hs b (h.1.block hp b hx) (h.2 hp b hx)
    obtain ⟨⟨a, cap, rfl, h1, h2, h3⟩, h4⟩ := h
    obtain ⟨b, off, rfl, hc⟩ := h3 hp
    have hnb' := hnb b rfl
    refine ⟨⟨_, cap, rfl, h1, h2, fun _ => ⟨b, off, rfl, fun j hj => ?_⟩⟩, fun _ b' hb' => ?_⟩
    · rw [World.cell?_of_block (w := w) (a := ⟨b, off + j, none⟩) hnb']; exact hc j hj
    · have : b = b' := by simpa [Value.ownBlock] using hb'
      subst this
      rw [hnb']
      exact h4 hp b rfl
  · obtain ⟨⟨a, cap, rfl, h1, h2, _⟩, _⟩ := h
    exact ⟨⟨a, cap, rfl, h1, h2, fun hp' => absurd hp' hp⟩, fun hp' => absurd hp' hp⟩

/-- What a list of cells says: two slices a line. -/
def LnsEl (base : Nat) (w : World) (cs : List Value) (L : List Ln) : Prop :=
  ∀ j, j < L.length → ∃ r s, cs[j * 2]? = some r ∧ cs[j * 2 + 1]? = some s ∧ ElAt boolV 4 base w r (L.getD j noLn).1 ∧ ElAt byteV 5 base w s (L.getD j noLn).2
/-- A list of lines of a call's own. -/
def LnsOwn (base : Nat) (w : World) (v : Value) (L : List Ln) : Prop :=
  ∃ cs : List Value, w.ownsRow base 100 2 v L.length cs ∧ LnsEl base w cs L
section
variable {base : Nat} {w w' : World} {v v' r s : Value} {L : List Ln} {q : Ln} {cs : List Value}
theorem LnsOwn.mono (h : LnsOwn base w v L) (hb : Below w.heap.size w w') : LnsOwn base w' v L := by
  obtain ⟨cs, h1, h2⟩ := h
  refine ⟨cs, owns_kept h1 hb, fun j hj => ?_⟩
  obtain ⟨r, s, c1, c2, e1, e2⟩ := h2 j hj
  exact ⟨r, s, c1, c2, e1.mono hb, e2.mono hb⟩
theorem LnsOwn.at (h : LnsOwn base w v L) : LnsAt w v L := by
  obtain ⟨cs, h1, h2⟩ := h
  have hl := h1.1
  have hel : ∀ j, j < L.length → ∃ r s, cs[j * 2]? = some r ∧ cs[j * 2 + 1]? = some s ∧ ListAt boolV w r (L.getD j noLn).1 ∧ ListAt byteV w s (L.getD j noLn).2 := fun j hj => by
    obtain ⟨r, s, c1, c2, e1, e2⟩ := h2 j hj
    exact ⟨r, s, c1, c2, e1.1, e2.1⟩
  rcases h1.2 with ⟨rfl, h0⟩ | ⟨g, cap, cur, rfl, hbg, hh, hc, hm, hs, htk⟩
  · exact ⟨none, 0, cs, by rw [h0], by omega, Nat.zero_le _, hl, fun hp => by omega, hel⟩
  · refine ⟨_, _, cs, rfl, hc, hm, hl, fun hp => ⟨g, 0, rfl, fun j u hu => ?_⟩, hel⟩
    have hj : j < cs.length := (List.getElem?_eq_some_iff.1 hu).1
    rw [World.ownsRow.cellAt h1 (0 + j) (by omega), Nat.zero_add]
    exact hu
theorem LnsOwn.start (w : World) (hb : base ≤ w.heap.size) : LnsOwn base (w.alloc (.cells #[] 100)) (.slice (some ⟨w.heap.size, 0, none⟩) 0 0) [] :=
  ⟨[], World.ownsRow_made (base := base) (e := 100) (size := 2) w #[] 0 hb (by decide) rfl, fun j hj => by simp at hj⟩
theorem ElAt.grown2 {α : Type} {f : α → Value} {te : TypeId} {x : Value} {l : List α} (hte : 100 ≠ te) (h : ElAt f te base w x l) (ho : w.ownsRow base 100 2 v L.length cs) (hg : w.grownBy w' v.ownBlock) : ElAt f te base w' x l :=
  h.keep fun b hb hk => hg.block b hb fun hv => by
    rcases ho.2 with ⟨rfl, _⟩ | ⟨g, cap, cur', rfl, hbg, hgg, _⟩
    · simp [Value.ownBlock] at hv
    · have : b = g := by simpa [Value.ownBlock] using hv
      subst this
      rcases hk with h1 | ⟨cur, h1⟩
      · omega
      · rw [h1] at hgg
        cases hgg
        exact hte rfl
/-- One line more. -/
theorem LnsOwn.snoc (hown : w.ownsRow base 100 2 v L.length cs) (hel : LnsEl base w cs L)
    (h1 : ElAt boolV 4 base w r q.1) (h2 : ElAt byteV 5 base w s q.2) (hown' : w'.ownsRow base 100 2 v' (L.length + 1) (cs ++ [r, s])) (hg : w.grownBy w' v.ownBlock) : LnsOwn base w' v' (L ++ [q]) := by
  have hl := hown.1
  refine ⟨cs ++ [r, s], by rw [List.length_append]; exact hown', fun j hj => ?_⟩
  rw [getD_snoc]
  by_cases h : j < L.length
  · rw [if_pos h]
    obtain ⟨r', s', c1, c2, e1, e2⟩ := hel j h
    refine ⟨r', s', ?_, ?_, e1.grown2 (by decide) hown hg, e2.grown2 (by decide) hown hg⟩
    · rw [List.getElem?_append_left (by omega)]; exact c1
    · rw [List.getElem?_append_left (by omega)]; exact c2
  · have e : j = L.length := by simp at hj; omega
    rw [if_neg h, if_pos e]
    refine ⟨r, s, ?_, ?_, h1.grown2 (by decide) hown hg, h2.grown2 (by decide) hown hg⟩
    · rw [List.getElem?_append_right (by omega), show j * 2 - cs.length = 0 by omega]; rfl
    · rw [List.getElem?_append_right (by omega), show j * 2 + 1 - cs.length = 1 by omega]; rfl
/-- One line more, laid in a block of its own first. -/
theorem LnsOwn.app {o : Obj} (hown : w.ownsRow base 100 2 v L.length cs) (hel : LnsEl base w cs L)
    (h1 : ElAt boolV 4 base w r q.1) (h2 : ElAt byteV 5 base w s q.2) (hown' : w'.ownsRow base 100 2 v' (L.length + 1) (cs ++ [r, s])) (hg : (w.alloc o).grownBy w' v.ownBlock) : LnsOwn base w' v' (L ++ [q]) := by
  have hb : Below w.heap.size w (w.alloc o) := (Below.refl _ _).alloc (Nat.le_refl _) _
  refine LnsOwn.snoc (w := w.alloc o) (owns_kept hown hb) (fun j hj => ?_) (h1.mono hb) (h2.mono hb) hown' hg
  obtain ⟨r', s', c1, c2, e1, e2⟩ := hel j hj
  exact ⟨r', s', c1, c2, e1.mono hb, e2.mono hb⟩
/-- A line of it, opened; another line stored in its place. -/
theorem LnsOwn.row (h : LnsOwn base w v L) {c : Nat} (hc : c < L.length) : ∃ g cap, v = .slice (some ⟨g, 0, none⟩) L.length cap ∧ base ≤ g ∧ (∃ r s, w.cell? ⟨g, c * 2, none⟩ = some r ∧ w.cell? ⟨g, c * 2 + 1, none⟩ = some s ∧ ElAt boolV 4 base w r (L.getD c noLn).1 ∧ ElAt byteV 5 base w s (L.getD c noLn).2) ∧
    (∀ k, w.frozen? ⟨g, k, none⟩ = false) ∧
    ∀ r s (q : Ln), ElAt boolV 4 base w r q.1 → ElAt byteV 5 base w s q.2 → LnsOwn base ((w.setCell ⟨g, c * 2, none⟩ r).setCell ⟨g, c * 2 + 1, none⟩ s) v (L.set c q) := by
  obtain ⟨cs, h1, h2⟩ := h
  have hl := h1.1
  rcases h1.2 with ⟨rfl, h0⟩ | ⟨g, cap, cur, rfl, hbg, hh, -⟩
  · omega
  refine ⟨g, cap, rfl, hbg, ?_, fun k => h1.frozenAt k, fun r s q hr hs => ?_⟩
  · obtain ⟨r, s, c1, c2, e1, e2⟩ := h2 c hc
    exact ⟨r, s, (h1.cellAt (c * 2) (by omega)).trans c1, (h1.cellAt (c * 2 + 1) (by omega)).trans c2, e1, e2⟩
  · have g1 := (h1.stored (c * 2) r).1
    have g2 := (g1.stored (c * 2 + 1) s).1
    have key : ∀ {α : Type} {f : α → Value} {te : TypeId} {x : Value} {l : List α}, 100 ≠ te → ElAt f te base w x l → ElAt f te base ((w.setCell ⟨g, c * 2, none⟩ r).setCell ⟨g, c * 2 + 1, none⟩ s) x l := fun {α f te x l} hte he =>
      he.keep fun b hb hk => by
        have hne : b ≠ g := fun e => by
          subst e
          rcases hk with h3 | ⟨cur', h3⟩
          · omega
          · rw [h3] at hh
            cases hh
            exact hte rfl
        exact (Below.heap_setCell _ ⟨g, c * 2 + 1, none⟩ _ b hne).trans (Below.heap_setCell _ ⟨g, c * 2, none⟩ _ b hne)
    refine ⟨(cs.set (c * 2) r).set (c * 2 + 1) s, by rw [List.length_set]; exact g2, fun j hj => ?_⟩
    rw [List.length_set] at hj
    rw [getD_set _ _ _ _ _ hc]
    by_cases e : j = c
    · subst e
      rw [if_pos rfl]
      refine ⟨r, s, ?_, ?_, key (by decide) hr, key (by decide) hs⟩
      · rw [List.getElem?_set_ne (by omega), List.getElem?_set_self (by omega)]
      · rw [List.getElem?_set_self (by rw [List.length_set]; omega)]
    · rw [if_neg e]
      obtain ⟨r', s', c1, c2, e1, e2⟩ := h2 j hj
      refine ⟨r', s', ?_, ?_, key (by decide) e1, key (by decide) e2⟩
      · rw [List.getElem?_set_ne (by omega), List.getElem?_set_ne (by omega)]; exact c1
      · rw [List.getElem?_set_ne (by omega), List.getElem?_set_ne (by omega)]; exact c2
end

/-- append of such a list onto an empty one of the call's own. -/
theorem wpList_append_lns {P : Program} (w : World) {ops : Array Oper} {rest : List Oper} {o : Oper} {a : Act} {Q : Exit → Act → World → Prop} (hgd : o.guard = none) (s x : Operand) (t : TypeId)
    (ho : o.op = .call { callee := .builtin .append, args := #[s, x], argTypes := #[t, t] })
    (ob : Nat) (i : TypeInfo) (z : Value) (bytes : Nat) (ht : P.underlying t = some (.slice 100)) (hi : P.info? 100 = some i) (hz : i.zero = some z)
    (hsize : i.size = 2) (hby : i.bytes = bytes) (hzs : z.cells.size = 2)
    (v : Value) (hs : a.eval s = v) (hown : w.ownsRow ob 100 2 v 0 [])
    (src : Value) (L : List Ln) (hx : a.eval x = src) (w0 : World) (hb0 : Below w0.heap.size w0 w) (hob : ob = w0.heap.size) (hl : LnsAt w0 src L)
    (h63 : 0 + L.length ≤ maxLen) (hbytes : (0 + L.length) * bytes ≤ 140737488355328)
    (h : ∀ v' w', LnsOwn ob w' v' L → w.grownBy w' v.ownBlock → wpList P ops Q rest (a.put o.dst v') w') : wpList P ops Q (o :: rest) a w := by
  subst hob
  have hbase : w0.heap.size ≤ w.heap.size := hb0.size
  obtain ⟨ad, cap, cs, rfl, h1, h2, h3, h4, h5⟩ := hl
  have fin : ∀ v' w', w'.ownsRow w0.heap.size 100 2 v' (0 + L.length) ([] ++ cs) → w.grownBy w' v.ownBlock → LnsOwn w0.heap.size w' v' L := fun v' w' k2 k3 => by
    rw [Nat.zero_add, List.nil_append] at k2
    refine ⟨cs, k2, fun j hj => ?_⟩
    obtain ⟨r, s, d1, d2, l1, l2⟩ := h5 j hj
    exact ⟨r, s, d1, d2, (ElAt.old l1 hb0).grown2 (L := []) (by decide) hown k3, (ElAt.old l2 hb0).grown2 (L := []) (by decide) hown k3⟩
  by_cases hp : 0 < L.length
  · obtain ⟨b, off, rfl, hc⟩ := h4 hp
    refine wpList_append_own w hgd s x t ho w0.heap.size _ i z 2 bytes ht hi hz hsize hby hzs (by decide) v 0 [] hs hown ⟨b, off, none⟩ L.length cap cs hx (by omega) (fun j u hu => ?_) (fun u hu => ?_) h63 hbytes hbase fun v' w' k2 k3 _ => h v' w' (fin v' w' k2 k3) k3
    · have hx := hc j u hu
      rw [Go.WideShapes.add_plain, hb0.cell (p := ⟨b, off + j, none⟩) (World.block_lt_of_cell? w0 _ hx)]
      exact hx
    · obtain ⟨i, hi, rfl⟩ := List.getElem_of_mem hu
      obtain ⟨r, s, d1, d2, l1, l2⟩ := h5 (i / 2) (by omega)
      rcases Nat.mod_two_eq_zero_or_one i with e | e
      · rw [show i / 2 * 2 = i by omega, List.getElem?_eq_getElem hi] at d1
        obtain ⟨_, _, rfl, _⟩ := l1
        rw [Option.some.inj d1]; rfl
      · rw [show i / 2 * 2 + 1 = i by omega, List.getElem?_eq_getElem hi] at d2
        obtain ⟨_, _, rfl, _⟩ := l2
        rw [Option.some.inj d2]; rfl
  · have hl0 : L = [] := List.eq_nil_of_length_eq_zero (by omega)
    subst hl0
    obtain rfl : cs = [] := List.eq_nil_of_length_eq_zero (by simpa using h3)
    cases ad with
    | none =>
      refine wpList_plain hgd fun K hK => ?_
      have hrun := run_append_none_cap (P := P) (w := w) w0.heap.size t o.type _ i 2 ht hi v 0 cap [] hown
      unfold Oper.wp
      simp [execOp, ho, resolve, invoke, builtin, hs, hx, hrun, Result.andThen]
      exact hK _ _ (h v w (fin v w (by simpa using hown) (World.grownBy.refl _ _)) (World.grownBy.refl _ _))
    | some ad =>
      exact wpList_append_own w hgd s x t ho w0.heap.size _ i z 2 bytes ht hi hz hsize hby hzs (by decide) v 0 [] hs hown ad 0 cap [] hx (by simp) (fun j u hu => by simp at hu) (fun u hu => by simp at hu) h63 hbytes hbase fun v' w' k2 k3 _ => h v' w' (fin v' w' k2 k3) k3
end Go.Proofs.YtfibolkgpffjkaaGreatDoor
end
