/- The thirteenth layer's laws: DecodeOrder. -/
import Derived.Test.YtkhdjjcflbdegaaGreatDoorH5
import Derived.Test.YtkhdjjcflbdegaaGreatDoorG37
import Derived.Test.YtkhdjjcflbdegaaGreatDoorMade
import Derived.BigQuiet
import Derived.Deep.RegionHeldLaw
import Derived.Deep.RegionHeld3
namespace Go.Proofs.YtkhdjjcflbdegaaGreatDoor
open Go.RowKit Go.Extern.Stop Go.Stop Go.Extern

/-- The symbols in the other order, as many as have come. -/
def backE (Q : List Nat) (s k : Nat) : List Nat := (List.range k).map fun t => Q.getD (Q.length - 1 - (t + s) % Q.length) 0
theorem backE_succ (Q : List Nat) (s k : Nat) : backE Q s (k + 1) = backE Q s k ++ [Q.getD (Q.length - 1 - (k + s) % Q.length) 0] := by unfold backE; rw [List.range_succ, List.map_append]; rfl
theorem backE_mem {Q : List Nat} {s : Nat} (hs : 0 < Q.length → s < Q.length) : ∀ q, q ∈ backE Q s Q.length ↔ q ∈ Q := fun q => by
  rcases Nat.eq_zero_or_pos Q.length with h0 | h0
  · rw [List.eq_nil_of_length_eq_zero h0]; exact Iff.rfl
  have hs := hs h0
  unfold backE
  rw [List.mem_map]
  constructor
  · rintro ⟨t, ht, rfl⟩
    have hl : Q.length - 1 - (t + s) % Q.length < Q.length := by omega
    rw [List.getD_eq_getElem?_getD, List.getElem?_eq_getElem hl]
    exact List.getElem_mem hl
  · intro h
    obtain ⟨m, hm, rfl⟩ := List.getElem_of_mem h
    have key : ∃ t, t < Q.length ∧ (t + s) % Q.length = Q.length - 1 - m := by
      by_cases e : s ≤ Q.length - 1 - m
      · exact ⟨Q.length - 1 - m - s, by omega, by rw [Nat.mod_eq_of_lt (by omega)]; omega⟩
      · refine ⟨Q.length - 1 - m + Q.length - s, by omega, ?_⟩
        rw [show Q.length - 1 - m + Q.length - s + s = Q.length - 1 - m + Q.length by omega, Nat.add_mod_right, Nat.mod_eq_of_lt (by omega)]
    obtain ⟨t, ht, e⟩ := key
    refine ⟨t, List.mem_range.2 ht, ?_⟩
    rw [e, show Q.length - 1 - (Q.length - 1 - m) = m by omega]
    simp [hm]
theorem takeE {Q : List Nat} {j : Nat} (h : j < Q.length) : Q.take (j + 1) = Q.take j ++ [Q.getD j 0] := by
  rw [List.take_succ_eq_append_getElem h, List.getD_eq_getElem?_getD, List.getElem?_eq_getElem h]
  rfl
theorem DecAt.low {A : Nat → Prop} {w : World} {B B' g b kb k s h l p sd size : Nat} {K : List Vec} {cl : Bool} (d : DecAt A w B g b kb k s h l p sd size K cl) (hB : B' ≤ B) : DecAt A w B' g b kb k s h l p sd size K cl :=
  ⟨d.box, d.sys, Nat.le_trans hB d.gg, Nat.le_trans hB d.gb, Nat.le_trans hB d.gk, d.of, d.seed, d.k1, d.k2, d.z1, d.z2⟩

set_option maxRecDepth 1000000 in
set_option maxHeartbeats 20000000 in
theorem order13 {w : World} (n0 : Int) (v : Value) (M : List (List Nat)) (ve : Value) (es : List Int) (byI : Int) (hv : MatAt byteV w v M) (ho : ∀ r ∈ M, Octets r) (hes : ListAt intV w ve es) (hT : DgTab w) (hB : Tab w) (hg : Laid w) :
    Calls Tryz.prog 5 #[.agg #[.int .i64 n0, v], ve, .int .i64 byI] w fun e w' => e = .returned (.bool true) ∧ Below w.heap.size w w' := by
  obtain ⟨w1, hw1, hb1, hby⟩ := blk_laid w n0 v
  have HW1 := Lib.hid hw1
  have HB1 := Lib.hid hb1
  have HBY := Lib.hid hby
  obtain ⟨y0, y1⟩ := hby.cells
  have HT := Lib.hid hT
  have HBT := Lib.hid hB
  have HG := Lib.hid hg
  have HAW : Hid (∀ V, Below w.heap.size w V → Calls Tryz.prog 10 #[] V fun e w' => e = .returned (.bool true) ∧ Below V.heap.size V w') := Lib.hid fun V hV => awake13 V (PairsAt.mono hT hV) (hB.mono hV)
  have HFIT := Lib.hid (fit13 (w := w1) n0 v M (hv.mono hb1) ho)
  obtain ⟨av, cv, rfl, -, -, -⟩ := hv.opens
  generalize M.length = ml at *
  have hel := hes.len
  obtain ⟨ae, ce, rfl, -, -, hec⟩ := hes
  have HEC : Hid (0 < es.length → ∃ b off, ae = some ⟨b, off, none⟩ ∧ ∀ j, j < es.length → w.cell? ⟨b, off + j, none⟩ = some (.int .i64 (es.getD j 0))) := Lib.hid fun hp => by
    obtain ⟨b, off, e, hc⟩ := hec hp
    refine ⟨b, off, e, fun j hj => ?_⟩
    rw [hc j hj]
    simp [intV, List.getD_eq_getElem?_getD, hj]
  clear hec
  generalize es.length = q at *
  obtain ⟨nn, hnn⟩ : ∃ nn : Nat, min (q : Int) 30 = (nn : Int) := ⟨min q 30, by omega⟩
  have hnq : nn ≤ q ∧ nn ≤ 30 := by omega
  obtain ⟨E, hE⟩ : ∃ E, E = (List.range nn).map fun j => esiN (es.getD j 0) := ⟨_, rfl⟩
  have hEl : E.length = nn := by rw [hE]; simp
  have HEL := Lib.hid hEl
  have HEJ : Hid (∀ j, j < nn → E.getD j 0 = esiN (es.getD j 0)) := Lib.hid fun j hj => by
    rw [hE, List.getD_eq_getElem?_getD, List.getElem?_map, List.getElem?_range hj]; rfl
  have HEB : Hid (∀ j, j < nn → E.getD j 0 < 65536) := Lib.hid fun j hj => by rw [HEJ.out j hj]; exact esiN_lt _
  clear hE hEl
  obtain ⟨sh, hsh⟩ : ∃ sh : Nat, (0 < nn → (IntKind.u64.wrap byI).tmod (nn : Int) = (sh : Int) ∧ sh < nn) := by
    by_cases hq0 : 0 < nn
    · have hw : 0 ≤ IntKind.u64.wrap byI := by rw [IntKind.wrap_u64]; omega
      have e : (IntKind.u64.wrap byI).tmod (nn : Int) = (IntKind.u64.wrap byI) % (nn : Int) := Int.tmod_eq_emod_of_nonneg hw
      have h0 : 0 ≤ (IntKind.u64.wrap byI) % (nn : Int) := Int.emod_nonneg _ (by omega)
      have h4 : (IntKind.u64.wrap byI) % (nn : Int) < (nn : Int) := Int.emod_lt_of_pos _ (by omega)
      exact ⟨((IntKind.u64.wrap byI) % (nn : Int)).toNat, fun _ => ⟨by rw [e]; omega, by omega⟩⟩
    · exact ⟨0, fun h => absurd h hq0⟩
  have HSH := Lib.hid hsh
  clear hsh
  clear hw1 hb1 hby hT hB hv ho hg
  go_enter Tryz.func5, Tryz.ntmps5
  go_upto_region 1 with fail
  rw [← HW1.out]
  go_wp2_with fail
  refine HFIT.out.mono ?_
  rintro e w2 ⟨size, u1, S, rfl, hs1, hs2, hl1, hl2, hok, hsy, hb2⟩
  have hy2 := HBY.out.mono hb2
  have hb02 := HB1.out.trans (hb2.mono HB1.out.size)
  have hgl := hy2.lt
  obtain ⟨vs, hvs, -⟩ := id hsy
  obtain ⟨a1, q1, rfl, -, hg1⟩ := own_open hvs
  obtain ⟨g1, rfl⟩ := hg1 (by omega)
  obtain ⟨k, hk⟩ : ∃ k, S.length = k := ⟨_, rfl⟩
  rw [hk] at hl1 hl2 hsy ⊢
  obtain ⟨w3, hw3⟩ : ∃ w3, w3 = (w2.setCell ⟨w.heap.size, 0, none⟩ (.int .i64 (size : Int))).setCell ⟨w.heap.size, 1, none⟩ (.slice (some ⟨g1, 0, none⟩) k q1) := ⟨_, rfl⟩
  have HW3 := Lib.hid hw3
  have HY3 : Hid (BlkBox w3 w.heap.size size (.slice (some ⟨g1, 0, none⟩) k q1)) := Lib.hid (by rw [hw3]; exact hy2.store _ _)
  have HS3 : Hid (MatAt byteV w3 (.slice (some ⟨g1, 0, none⟩) k q1) S) := Lib.hid (by
    rw [hw3]
    have h1 := hsy.set hy2 0 (.int .i64 (size : Int))
    exact (h1.set (heap_setCell_at (j := 0) (u := .int .i64 (size : Int)) hy2) 1 (.slice (some ⟨g1, 0, none⟩) k q1)).at)
  have HB3 : Hid (Below w.heap.size w w3) := Lib.hid (by
    rw [hw3]
    exact (hb02.setCell (p := ⟨w.heap.size, 0, none⟩) (Nat.le_refl _) _).setCell (p := ⟨w.heap.size, 1, none⟩) (Nat.le_refl _) _)
  have HK := Lib.hid hk
  have HOK := Lib.hid hok
  obtain ⟨z0, z1⟩ := hy2.cells
  obtain ⟨f0, f1⟩ := hy2.free
  clear hw3 hsy hvs hok hb2 hb02 hk hy2 hg1 y0 y1
  go_upto_region 2 with fail
  rw [← HW3.out]
  obtain ⟨y0, y1⟩ := HY3.out.cells
  clear z0 z1 f0 f1
  have HRN := Lib.hid (rEnNew_any (w := w3) k size _ S HS3.out HK.out hl1 (by omega) hs1 (by omega) HOK.out)
  unfold rEnV at HRN
  go_wp2_with fail
  refine HRN.out.mono ?_
  rintro e w4 ⟨s, h, l, p, sd, vm, V, rfl, hof, hsd, hmv, htv, hb4⟩
  have HX : Hid (BlkS k s h l p sd size S V) := Lib.hid ⟨hof, hsd, hl1, by omega, hs1, by omega, HK.out, HOK.out, htv⟩
  obtain ⟨au, cu, rfl, -, -, -⟩ := hmv.opens
  rw [htv.1] at hmv ⊢
  obtain ⟨W5, hW5, hbW5, hbx5⟩ := ren_laid w4 k s h l p sd size (.slice au l cu)
  have hb35 := hb4.trans (hbW5.mono hb4.size)
  have HW5 := Lib.hid hW5
  have HBX5 := Lib.hid hbx5
  have HMV := Lib.hid (hmv.mono hbW5)
  have HY5 := Lib.hid (HY3.out.mono hb35)
  have HS5 := Lib.hid (HS3.out.mono hb35)
  have hb05 := HB3.out.trans (hb35.mono HB3.out.size)
  have HB5 := Lib.hid hb05
  have HT5 := Lib.hid (PairsAt.mono HT.out hb05)
  have HBT5 := Lib.hid (HBT.out.mono hb05)
  have HG5 := Lib.hid (HG.out.mono hb05)
  have HNW := Lib.hid (DeNew_ok (w := W5) k size hl1 (by omega) hs1 (by omega) (PairsAt.mono HT.out hb05) (HBT.out.mono hb05))
  clear hof hsd hmv htv hb4 hW5 hbW5 hbx5 hb35 hb05 y0 y1
  go_upto_region 3 with fail
  rw [← HW5.out]
  obtain ⟨g6, hg6⟩ : ∃ g6, w4.heap.size = g6 := ⟨_, rfl⟩
  rw [hg6] at HBX5 ⊢
  clear hg6
  obtain ⟨y0, y1⟩ := HY5.out.cells
  have HRS : Hid (∀ Z (n : Nat), n < 65536 → Below W5.heap.size W5 Z → Calls Tryz.prog 27 #[.agg #[.int .i64 (k : Int), .int .i64 (s : Int), .int .i64 (h : Int), .int .i64 (l : Int), .int .i64 (p : Int), .int .i64 (sd : Int), .int .i64 (size : Int), .slice au l cu], .int .i64 (n : Int)] Z fun e w' => ∃ v', e = .returned v' ∧ w'.ownsRow Z.heap.size 5 1 v' size ((symE l p sd size V n).map byteV) ∧ Below Z.heap.size Z w') := Lib.hid fun Z n hn hZ =>
    rEnSym_any k s h l p sd size n _ V HX.out.of HX.out.k1 HX.out.k2 HX.out.seed.1 hn (HMV.out.mono hZ) HX.out.tells.1 (fun r hr => HX.out.tells.row r hr) (by omega)
  have HSAT : Hid (∀ Z, Below W5.heap.size W5 Z → (Z.cell? ⟨g6, 0, none⟩ = some (.int .i64 (k : Int)) ∧ Z.cell? ⟨g6, 1, none⟩ = some (.int .i64 (s : Int)) ∧ Z.cell? ⟨g6, 2, none⟩ = some (.int .i64 (h : Int)) ∧ Z.cell? ⟨g6, 3, none⟩ = some (.int .i64 (l : Int)) ∧ Z.cell? ⟨g6, 4, none⟩ = some (.int .i64 (p : Int)) ∧
      Z.cell? ⟨g6, 5, none⟩ = some (.int .i64 (sd : Int)) ∧ Z.cell? ⟨g6, 6, none⟩ = some (.int .i64 (size : Int)) ∧ Z.cell? ⟨g6, 7, none⟩ = some (.slice au l cu)) ∧ Z.cell? ⟨w.heap.size, 1, none⟩ = some (.slice (some ⟨g1, 0, none⟩) k q1)) := Lib.hid fun Z hZ => ⟨(HBX5.out.mono hZ).cells, (HY5.out.mono hZ).cells.2⟩
  go_wp2_with fail
  refine HNW.out.mono ?_
  rintro e w6 ⟨g, b, kb, s', h', l', p', sd', rfl, hd, hb6⟩
  obtain ⟨rfl, rfl, rfl, rfl⟩ := HX.out.of.unique hd.of
  obtain rfl := HX.out.seed.unique hd.seed
  have HD6 := Lib.hid (hd.fresh (symE l p sd size V))
  have HB6 := Lib.hid hb6
  clear hd hb6 y0 y1
  obtain ⟨y0, y1⟩ := (HY5.out.mono HB6.out).cells
  go_wp2_with fail
  refine (DeNew_ok (w := w6) k size hl1 (by omega) hs1 (by omega) (PairsAt.mono HT5.out HB6.out) (HBT5.out.mono HB6.out)).mono ?_
  rintro e w7 ⟨g2, b2, kb2, s', h', l', p', sd', rfl, hd, hb7⟩
  obtain ⟨rfl, rfl, rfl, rfl⟩ := HX.out.of.unique hd.of
  obtain rfl := HX.out.seed.unique hd.seed
  have hlt6 := HD6.out.lts
  have HNG : Hid (g2 ≠ g ∧ b2 ≠ b ∧ kb2 ≠ kb) := Lib.hid ⟨by have := hd.gg; omega, by have := hd.gb; omega, by have := hd.gk; omega⟩
  have HDA7 := Lib.hid (HD6.out.mono hb7)
  have HDB7 := Lib.hid ((hd.fresh (symE l p sd size V)).low HB6.out.size)
  have HB7 := Lib.hid (HB6.out.trans (hb7.mono HB6.out.size))
  clear hd hb7 hlt6 HD6
  clear y0 y1
  go_wp2_with fail
  go_loopw [13] (fun i wr => ∃ j : Nat, j ≤ nn ∧ i = .int .i64 j ∧ DecAt AnyB wr W5.heap.size g b kb k s h l p sd size (kdS k s h l p sd size V (E.take j)) false ∧ DecAt AnyB wr W5.heap.size g2 b2 kb2 k s h l p sd size (kdS k s h l p sd size V (backE E sh j)) false ∧ Below W5.heap.size W5 wr) (fun i _ => nn - (intOf i).toNat)
  case atStart => exact ⟨0, Nat.zero_le _, rfl, by rw [List.take_zero]; exact HDA7.out, HDB7.out, HB7.out⟩
  case round =>
    obtain ⟨j, hj, rfl, hda, hdb, hbel⟩ := hrel
    clear HDA7 HDB7 HB6 HB7
    have HDA := Lib.hid hda
    have HDB := Lib.hid hdb
    have HBL := Lib.hid hbel
    have HBWR := Lib.hid (HB5.out.trans (hbel.mono HB5.out.size))
    by_cases hlt : j < nn
    · obtain ⟨be, oe, rfl, hec⟩ := HEC.out (by omega)
      obtain ⟨hsh1, hsh2⟩ := HSH.out (by omega)
      have hconv : IntKind.u64.wrap (nn : Int) = (nn : Int) := by rw [IntKind.wrap_u64]; omega
      have hqz : ¬ (nn : Int) = 0 := by omega
      obtain ⟨m, hmk⟩ : ∃ m, m = (j + sh) % nn := ⟨_, rfl⟩
      have hmlt : m < nn := by rw [hmk]; exact Nat.mod_lt _ (by omega)
      have hmod : ((j : Int) + (sh : Int)).tmod (nn : Int) = (m : Int) := by rw [Int.tmod_eq_emod_of_nonneg (by omega), hmk]; push_cast; rfl
      have hwn : wrap64 ((nn : Int) - 1) = (nn : Int) - 1 := IntWalk.wrap64_in _ (by omega)
      obtain ⟨o, hoo⟩ : ∃ o, o = nn - 1 - m := ⟨_, rfl⟩
      have holt : o < nn := by omega
      have hsubp : (nn : Int) - 1 - (m : Int) = (o : Int) := by omega
      have HTK : Hid (E.take (j + 1) = E.take j ++ [E.getD j 0]) := Lib.hid (takeE (by rw [HEL.out]; exact hlt))
      have HBK : Hid (backE E sh (j + 1) = backE E sh j ++ [E.getD o 0]) := Lib.hid (by rw [backE_succ, HEL.out, ← hmk, ← hoo])
      have hx0 := hec j (by omega)
      have hxr := (HBWR.out.cell (p := ⟨be, oe + j, none⟩) (World.block_lt_of_cell? w _ hx0)).trans hx0
      have hx1 := hec o (by omega)
      have hxs := (HBWR.out.cell (p := ⟨be, oe + o, none⟩) (World.block_lt_of_cell? w _ hx1)).trans hx1
      have hnw : (IntKind.u64.wrap (es.getD j 0)).tmod 65536 = ((E.getD j 0 : Nat) : Int) := by rw [HEJ.out j hlt]; exact esi_mod _
      have hnx : (IntKind.u64.wrap (es.getD o 0)).tmod 65536 = ((E.getD o 0 : Nat) : Int) := by rw [HEJ.out o holt]; exact esi_mod _
      have hn : E.getD j 0 < 65536 := HEB.out j hlt
      have hn2 : E.getD o 0 < 65536 := HEB.out o holt
      have HST : Hid (∀ Z, DecAt AnyB Z W5.heap.size g b kb k s h l p sd size (kdS k s h l p sd size V (E.take j ++ [E.getD j 0])) false → DecAt AnyB Z W5.heap.size g b kb k s h l p sd size (kdS k s h l p sd size V (E.take (j + 1))) false) := Lib.hid fun Z hZ => by rw [HTK.out]; exact hZ
      have HSB : Hid (∀ Z, DecAt AnyB Z W5.heap.size g2 b2 kb2 k s h l p sd size (kdS k s h l p sd size V (backE E sh j ++ [E.getD o 0])) false → DecAt AnyB Z W5.heap.size g2 b2 kb2 k s h l p sd size (kdS k s h l p sd size V (backE E sh (j + 1))) false) := Lib.hid fun Z hZ => by rw [HBK.out]; exact hZ
      clear hec hx0 hx1 hmk hoo hda hdb hbel HTK HBK
      generalize es.getD j 0 = x at *
      generalize es.getD o 0 = y at *
      generalize E.getD j 0 = n at *
      generalize E.getD o 0 = n2 at *
      obtain ⟨⟨e0, e1, e2, e3, e4, e5, e6, e7⟩, -⟩ := HSAT.out wr HBL.out
      go_wp2_with fail
      refine (HRS.out wr n hn HBL.out).mono ?_
      rintro e w7 ⟨v7, rfl, ho7, hb7⟩
      have hb57 := HBL.out.trans (hb7.mono HBL.out.size)
      have HB7 := Lib.hid hb57
      have HDA7 := Lib.hid (HDA.out.mono hb7)
      have HDB7 := Lib.hid (HDB.out.mono hb7)
      have HAD := Lib.hid (src_add HX.out HDA7.out n hn v7 (ListAt.of_owns ho7) (PairsAt.mono HT5.out hb57) (HBT5.out.mono hb57))
      obtain ⟨a7, c7, rfl, -, -⟩ := own_open ho7
      clear ho7 hb7 hb57 e0 e1 e2 e3 e4 e5 e6 e7
      go_wp2_with fail
      refine HAD.out.mono ?_
      rintro e w8 ⟨kd, hkd, rfl, hrk, ht8, hd8⟩
      have hb8 := HB7.out.trans (ht8.below hd8.gg hd8.gb hd8.gk HB7.out.size)
      have HB8 := Lib.hid hb8
      have HDA8 := Lib.hid (HST.out _ hd8)
      have HDB8 := Lib.hid (HDA7.out.other ht8 HDB7.out HNG.out.1 HNG.out.2.1 HNG.out.2.2)
      obtain ⟨⟨e0, e1, e2, e3, e4, e5, e6, e7⟩, -⟩ := HSAT.out w8 hb8
      clear hkd hrk ht8 hd8 hb8 hxr hxs hsh1 hconv hmod hwn hsubp hqz
      go_wp2_with fail
      refine (HRS.out w8 n2 hn2 HB8.out).mono ?_
      rintro e w9 ⟨v9, rfl, ho9, hb9⟩
      have hb59 := HB8.out.trans (hb9.mono HB8.out.size)
      have HB9 := Lib.hid hb59
      have HDA9 := Lib.hid (HDA8.out.mono hb9)
      have HDB9 := Lib.hid (HDB8.out.mono hb9)
      have HAD9 := Lib.hid (src_add HX.out HDB9.out n2 hn2 v9 (ListAt.of_owns ho9) (PairsAt.mono HT5.out hb59) (HBT5.out.mono hb59))
      obtain ⟨a9, c9, rfl, -, -⟩ := own_open ho9
      clear ho9 hb9 hb59 e0 e1 e2 e3 e4 e5 e6 e7
      go_wp2_with fail
      refine HAD9.out.mono ?_
      rintro e w10 ⟨kd2, hkd, rfl, hrk, ht10, hd10⟩
      have HB10 := Lib.hid (HB9.out.trans (ht10.below hd10.gg hd10.gb hd10.gk HB9.out.size))
      have HDB10 := Lib.hid (HSB.out _ hd10)
      have HDA10 := Lib.hid (HDB9.out.other ht10 HDA9.out (fun e => HNG.out.1 e.symm) (fun e => HNG.out.2.1 e.symm) (fun e => HNG.out.2.2 e.symm))
      clear hkd hrk ht10 hd10
      go_wp2
      go_roundw
      case rel => exact ⟨j + 1, by omega, by go_num, HDA10.out, HDB10.out, HB10.out⟩
      case measure => simp [intOf]; omega
    · obtain rfl : j = nn := by omega
      rw [List.take_of_length_le (Nat.le_of_eq HEL.out)] at hda
      have hda0 := hda
      have HDA := Lib.hid hda
      have hmem := backE_mem (Q := E) (s := sh) (fun h0 => by rw [HEL.out] at h0 ⊢; exact (HSH.out h0).2)
      rw [HEL.out] at hmem
      have HRR : Hid (rankA k s h l p sd (backE E sh j) = rankA k s h l p sd E) := Lib.hid (rank_same hmem)
      clear hlt hda hda0 hmem hdb hbel
      obtain ⟨r, hr⟩ : ∃ r, rankA k s h l p sd E = r := ⟨_, rfl⟩
      have HRA0 := Lib.hid hr
      have HRB0 : Hid (rankA k s h l p sd (backE E sh j) = r) := Lib.hid (HRR.out.trans hr)
      clear hr HRR
      by_cases hrl : r = l
      · have HRL := Lib.hid hrl
        have HSA := Lib.hid (DeSrc_ok HDA.out (by rw [HX.out.rk, HRA0.out]; exact hrl) (PairsAt.mono HT5.out HBL.out))
        clear hrl
        go_wp2_with fail
        refine HSA.out.mono ?_
        rintro e w11 ⟨v11, U, rfl, htl, hm11, hb11⟩
        rw [HX.out.source htl] at hm11
        have hb511 := HBL.out.trans (hb11.mono HBL.out.size)
        have HB11 := Lib.hid hb511
        have HDA11 := Lib.hid (HDA.out.mono hb11)
        have HDB11 := Lib.hid (HDB.out.mono hb11)
        have HM11 := Lib.hid hm11
        obtain ⟨a11, c11, rfl, -, -, -⟩ := hm11.opens
        have HSB := Lib.hid (DeSrc_ok HDB11.out (by rw [HX.out.rk, HRB0.out]; exact HRL.out) (PairsAt.mono HT5.out hb511))
        clear htl hm11 hb11 hb511
        go_wp2_with fail
        refine HSB.out.mono ?_
        rintro e w12 ⟨v12, U2, rfl, htl, hm12, hb12⟩
        rw [HX.out.source htl] at hm12
        have HB12W := Lib.hid (HB5.out.trans ((HB11.out.trans (hb12.mono HB11.out.size)).mono HB5.out.size))
        have HDA := Lib.hid (HDA11.out.mono hb12)
        have HDB := Lib.hid (HDB11.out.mono hb12)
        have HM11 := Lib.hid (HM11.out.mono hb12)
        have HM12 := Lib.hid hm12
        obtain ⟨a12, c12, rfl, -, -, -⟩ := hm12.opens
        have HSM : Hid (∀ Z, Below w12.heap.size w12 Z → Calls Tryz.prog 24 #[.slice a11 S.length c11, .slice a12 S.length c12] Z fun e w' => e = .returned (.bool true) ∧ Below Z.heap.size Z w') := Lib.hid fun Z hZ => sSame_any _ _ S (HM11.out.mono hZ) (HM12.out.mono hZ)
        clear htl hm12 hb12
        have HBc : Hid (Below w12.heap.size w12 w12.drew) := Lib.hid (Below.refl _ _).drew
        have HRA : Hid (∀ Z, Below w12.heap.size w12 Z → Calls Tryz.prog 17 #[.pointer (some ⟨g, 0, none⟩)] Z fun e w' => e = .returned (.int .i64 (r : Nat)) ∧ Below Z.heap.size Z w') := Lib.hid fun Z hZ => by
          have := DeRank_any (HDA.out.mono hZ)
          rw [HX.out.rk, HRA0.out] at this
          exact this.mono fun e w' ⟨h1, m, h2⟩ => ⟨h1, by rw [h2]; exact below_draws (Below.refl _ _) m⟩
        have HRB : Hid (∀ Z, Below w12.heap.size w12 Z → Calls Tryz.prog 17 #[.pointer (some ⟨g2, 0, none⟩)] Z fun e w' => e = .returned (.int .i64 (r : Nat)) ∧ Below Z.heap.size Z w') := Lib.hid fun Z hZ => by
          have := DeRank_any (HDB.out.mono hZ)
          rw [HX.out.rk, HRB0.out] at this
          exact this.mono fun e w' ⟨h1, m, h2⟩ => ⟨h1, by rw [h2]; exact below_draws (Below.refl _ _) m⟩
        have HNA : Hid (∀ Z, Below w12.heap.size w12 Z → Calls Tryz.prog 19 #[.pointer (some ⟨g, 0, none⟩)] Z fun e w' => e = .returned (.bool true) ∧ Below Z.heap.size Z w') := Lib.hid fun Z hZ => by
          have := DeDone_any (HDA.out.mono hZ)
          unfold doneB at this
          rw [HX.out.rk, HRA0.out] at this
          refine this.mono fun e w' ⟨h1, h2⟩ => ⟨?_, h2 ▸ Below.refl _ _⟩
          rw [h1]; simp [HRL.out]
        have HNB : Hid (∀ Z, Below w12.heap.size w12 Z → Calls Tryz.prog 19 #[.pointer (some ⟨g2, 0, none⟩)] Z fun e w' => e = .returned (.bool true) ∧ Below Z.heap.size Z w') := Lib.hid fun Z hZ => by
          have := DeDone_any (HDB.out.mono hZ)
          unfold doneB at this
          rw [HX.out.rk, HRB0.out] at this
          refine this.mono fun e w' ⟨h1, h2⟩ => ⟨?_, h2 ▸ Below.refl _ _⟩
          rw [h1]; simp [HRL.out]
        have HAWF : Hid (∀ Z, Below w12.heap.size w12 Z → Calls Tryz.prog 10 #[] Z fun e w' => e = .returned (.bool true) ∧ Below Z.heap.size Z w') := Lib.hid fun Z hZ => HAW.out Z (HB12W.out.trans (hZ.mono HB12W.out.size))
        go_wp2_with fail
        go_region_held_law (fun _ => True) (trivial) (first
          | (go_at_call 17; (with_reducible (first | refine (HRA.out _ HBc.out).mono ?_ | refine (HRB.out _ HBc.out).mono ?_)); rintro e wn ⟨rfl, hbn⟩; have HBc := Lib.hid (HBc.out.trans (hbn.mono HBc.out.size)); clear hbn)
          | (go_at_call 19; (with_reducible (first | refine (HNA.out _ HBc.out).mono ?_ | refine (HNB.out _ HBc.out).mono ?_)); rintro e wn ⟨rfl, hbn⟩; have HBc := Lib.hid (HBc.out.trans (hbn.mono HBc.out.size)); clear hbn)
          | (go_at_call 24; (with_reducible refine (HSM.out _ HBc.out).mono ?_); rintro e wn ⟨rfl, hbn⟩; have HBc := Lib.hid (HBc.out.trans (hbn.mono HBc.out.size)); clear hbn)
          | (go_at_call 10; (with_reducible refine (HAWF.out _ HBc.out).mono ?_); rintro e wn ⟨rfl, hbn⟩; have HBc := Lib.hid (HBc.out.trans (hbn.mono HBc.out.size)); clear hbn))
        all_goals
          go_wp2
          go_ret
          exact ⟨rfl, HB12W.out.trans (HBc.out.mono HB12W.out.size)⟩
      · have HRL := Lib.hid hrl
        have HSA := Lib.hid (DeSrc_none HDA.out (by rw [HX.out.rk, HRA0.out]; exact hrl) (HG5.out.mono HBL.out))
        clear hrl
        go_wp2_with fail
        refine HSA.out.mono ?_
        rintro e w11 ⟨E1, rfl, he1, hb11⟩
        obtain ⟨u1, x1, rfl⟩ := he1.some (by decide)
        have hb511 := HBL.out.trans (hb11.mono HBL.out.size)
        have HB11 := Lib.hid hb511
        have HDA11 := Lib.hid (HDA.out.mono hb11)
        have HDB11 := Lib.hid (HDB.out.mono hb11)
        have HSB := Lib.hid (DeSrc_none HDB11.out (by rw [HX.out.rk, HRB0.out]; exact HRL.out) (HG5.out.mono hb511))
        clear he1 hb11 hb511
        go_wp2_with fail
        refine HSB.out.mono ?_
        rintro e w12 ⟨E2, rfl, he2, hb12⟩
        obtain ⟨u2, x2, rfl⟩ := he2.some (by decide)
        have HB12W := Lib.hid (HB5.out.trans ((HB11.out.trans (hb12.mono HB11.out.size)).mono HB5.out.size))
        have HDA := Lib.hid (HDA11.out.mono hb12)
        have HDB := Lib.hid (HDB11.out.mono hb12)
        have HSM : Hid (∀ Z, Below w12.heap.size w12 Z → Calls Tryz.prog 24 #[nilS, nilS] Z fun e w' => e = .returned (.bool true) ∧ Below Z.heap.size Z w') := Lib.hid fun Z hZ => sSame_any _ _ [] (MatAt.nil _ _) (MatAt.nil _ _)
        clear he2 hb12
        have HBc : Hid (Below w12.heap.size w12 w12.drew) := Lib.hid (Below.refl _ _).drew
        have HRA : Hid (∀ Z, Below w12.heap.size w12 Z → Calls Tryz.prog 17 #[.pointer (some ⟨g, 0, none⟩)] Z fun e w' => e = .returned (.int .i64 (r : Nat)) ∧ Below Z.heap.size Z w') := Lib.hid fun Z hZ => by
          have := DeRank_any (HDA.out.mono hZ)
          rw [HX.out.rk, HRA0.out] at this
          exact this.mono fun e w' ⟨h1, m, h2⟩ => ⟨h1, by rw [h2]; exact below_draws (Below.refl _ _) m⟩
        have HRB : Hid (∀ Z, Below w12.heap.size w12 Z → Calls Tryz.prog 17 #[.pointer (some ⟨g2, 0, none⟩)] Z fun e w' => e = .returned (.int .i64 (r : Nat)) ∧ Below Z.heap.size Z w') := Lib.hid fun Z hZ => by
          have := DeRank_any (HDB.out.mono hZ)
          rw [HX.out.rk, HRB0.out] at this
          exact this.mono fun e w' ⟨h1, m, h2⟩ => ⟨h1, by rw [h2]; exact below_draws (Below.refl _ _) m⟩
        have HNA : Hid (∀ Z, Below w12.heap.size w12 Z → Calls Tryz.prog 19 #[.pointer (some ⟨g, 0, none⟩)] Z fun e w' => e = .returned (.bool false) ∧ Below Z.heap.size Z w') := Lib.hid fun Z hZ => by
          have := DeDone_any (HDA.out.mono hZ)
          unfold doneB at this
          rw [HX.out.rk, HRA0.out] at this
          refine this.mono fun e w' ⟨h1, h2⟩ => ⟨?_, h2 ▸ Below.refl _ _⟩
          rw [h1]; simp [HRL.out]
        have HNB : Hid (∀ Z, Below w12.heap.size w12 Z → Calls Tryz.prog 19 #[.pointer (some ⟨g2, 0, none⟩)] Z fun e w' => e = .returned (.bool false) ∧ Below Z.heap.size Z w') := Lib.hid fun Z hZ => by
          have := DeDone_any (HDB.out.mono hZ)
          unfold doneB at this
          rw [HX.out.rk, HRB0.out] at this
          refine this.mono fun e w' ⟨h1, h2⟩ => ⟨?_, h2 ▸ Below.refl _ _⟩
          rw [h1]; simp [HRL.out]
        have HAWF : Hid (∀ Z, Below w12.heap.size w12 Z → Calls Tryz.prog 10 #[] Z fun e w' => e = .returned (.bool true) ∧ Below Z.heap.size Z w') := Lib.hid fun Z hZ => HAW.out Z (HB12W.out.trans (hZ.mono HB12W.out.size))
        go_wp2_with fail
        go_region_held_law (fun _ => True) (trivial) (first
          | (go_at_call 17; (with_reducible (first | refine (HRA.out _ HBc.out).mono ?_ | refine (HRB.out _ HBc.out).mono ?_)); rintro e wn ⟨rfl, hbn⟩; have HBc := Lib.hid (HBc.out.trans (hbn.mono HBc.out.size)); clear hbn)
          | (go_at_call 19; (with_reducible (first | refine (HNA.out _ HBc.out).mono ?_ | refine (HNB.out _ HBc.out).mono ?_)); rintro e wn ⟨rfl, hbn⟩; have HBc := Lib.hid (HBc.out.trans (hbn.mono HBc.out.size)); clear hbn)
          | (go_at_call 24; (with_reducible refine (HSM.out _ HBc.out).mono ?_); rintro e wn ⟨rfl, hbn⟩; have HBc := Lib.hid (HBc.out.trans (hbn.mono HBc.out.size)); clear hbn)
          | (go_at_call 10; (with_reducible refine (HAWF.out _ HBc.out).mono ?_); rintro e wn ⟨rfl, hbn⟩; have HBc := Lib.hid (HBc.out.trans (hbn.mono HBc.out.size)); clear hbn))
        all_goals
          go_wp2
          go_ret
          exact ⟨rfl, HB12W.out.trans (HBc.out.mono HB12W.out.size)⟩
end Go.Proofs.YtkhdjjcflbdegaaGreatDoor
