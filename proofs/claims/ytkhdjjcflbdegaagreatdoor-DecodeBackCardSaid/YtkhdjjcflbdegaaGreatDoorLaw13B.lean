/- The thirteenth layer's laws: DecodeBack. -/
import Derived.Test.YtkhdjjcflbdegaaGreatDoorH5
import Derived.Test.YtkhdjjcflbdegaaGreatDoorG37
import Derived.Test.YtkhdjjcflbdegaaGreatDoorMade
import Derived.BigQuiet
import Derived.Deep.RegionHeldLaw
import Derived.Deep.RegionHeld3
namespace Go.Proofs.YtkhdjjcflbdegaaGreatDoor
open Go.RowKit Go.Extern.Stop Go.Stop Go.Extern

/-- The list of what came grows. -/
theorem DecAt.grown {A : Nat → Prop} {w w' : World} {B g b kb k s h l p sd size base m : Nat} {K : List Vec} {cl : Bool} {v : Value} {xs : List Value} (d : DecAt A w B g b kb k s h l p sd size K cl) (ho : w.ownsRow base 3 1 v m xs) (hg : w.grownBy w' v.ownBlock) : DecAt A w' B g b kb k s h l p sd size K cl := by
  have key : ∀ (x : Nat) (cur : Array Value) (e : TypeId), e ≠ 3 → w.heap[x]? = some (.cells cur e (0, 0)) → w'.heap[x]? = w.heap[x]? := fun x cur e he hx =>
    hg.block x (Array.getElem?_eq_some_iff.1 hx).1 fun e1 => by
      obtain ⟨-, cur', h2⟩ := own_block ho e1.symm
      rw [hx] at h2
      simp at h2
      exact he h2.2
  obtain ⟨⟨c1, k1⟩, ⟨c2, k2⟩⟩ := d.sys.sys.kinds
  exact ⟨(key _ _ _ (by decide) d.box).trans d.box, d.sys.keep2 (key _ _ _ (by decide) k1) (key _ _ _ (by decide) k2) (fun x cur e he _ hx => key x cur e (by rcases he with rfl | rfl <;> decide) hx), d.gg, d.gb, d.gk, d.of, d.seed, d.k1, d.k2, d.z1, d.z2⟩

set_option maxRecDepth 1000000 in
set_option maxHeartbeats 20000000 in
theorem back13 {w : World} (n0 : Int) (v : Value) (M : List (List Nat)) (ve : Value) (es : List Int) (hv : MatAt byteV w v M) (ho : ∀ r ∈ M, Octets r) (hes : ListAt intV w ve es) (hT : DgTab w) (hB : Tab w) (hg : Laid w) :
    Calls Tryz.prog 4 #[.agg #[.int .i64 n0, v], ve] w fun e w' => e = .returned (.bool true) ∧ Below w.heap.size w w' := by
  obtain ⟨i0, hi, hz0, hz1, hz2⟩ := info_parts info_int
  obtain ⟨w1, hw1, hb1, hby⟩ := blk_laid w n0 v
  have HW1 := Lib.hid hw1
  have HB1 := Lib.hid hb1
  have HBY := Lib.hid hby
  obtain ⟨y0, y1⟩ := hby.cells
  have HT := Lib.hid hT
  have HBT := Lib.hid hB
  have HG := Lib.hid hg
  have HAW : Hid (∀ V, Below w.heap.size w V → Calls Tryz.prog 10 #[] V fun e w' => e = .returned (.bool true) ∧ Below V.heap.size V w') := Lib.hid fun V hV => awake13 V (PairsAt.mono hT hV) (hB.mono hV)
  have HFIT := Lib.hid (fit13 (w := w1) n0 v M (hv.mono hb1) ho)
  obtain ⟨av, cv, rfl, -, -, -⟩ := hv.opens
  generalize M.length = ml at *
  have hel := hes.len
  obtain ⟨ae, ce, rfl, -, -, hec⟩ := hes
  have HEC : Hid (0 < es.length → ∃ b off, ae = some ⟨b, off, none⟩ ∧ ∀ j, j < es.length → w.cell? ⟨b, off + j, none⟩ = some (.int .i64 (es.getD j 0))) := Lib.hid fun hp => by
    obtain ⟨b, off, e, hc⟩ := hec hp
    refine ⟨b, off, e, fun j hj => ?_⟩
    rw [hc j hj]
    simp [intV, List.getD_eq_getElem?_getD, hj]
  clear hec
  generalize es.length = q at *
  clear hw1 hb1 hby hT hB hv ho hg
  go_enter Tryz.func4, Tryz.ntmps4
  go_upto_region 1 with fail
  rw [← HW1.out]
  go_wp2_with fail
  refine HFIT.out.mono ?_
  rintro e w2 ⟨size, u1, S, rfl, hs1, hs2, hl1, hl2, hok, hsy, hb2⟩
  have hy2 := HBY.out.mono hb2
  have hb02 := HB1.out.trans (hb2.mono HB1.out.size)
  have hgl := hy2.lt
  obtain ⟨vs, hvs, -⟩ := id hsy
  obtain ⟨a1, q1, rfl, -, hg1⟩ := own_open hvs
  obtain ⟨g1, rfl⟩ := hg1 (by omega)
  obtain ⟨k, hk⟩ : ∃ k, S.length = k := ⟨_, rfl⟩
  rw [hk] at hl1 hl2 hsy ⊢
  obtain ⟨w3, hw3⟩ : ∃ w3, w3 = (w2.setCell ⟨w.heap.size, 0, none⟩ (.int .i64 (size : Int))).setCell ⟨w.heap.size, 1, none⟩ (.slice (some ⟨g1, 0, none⟩) k q1) := ⟨_, rfl⟩
  have HW3 := Lib.hid hw3
  have HY3 : Hid (BlkBox w3 w.heap.size size (.slice (some ⟨g1, 0, none⟩) k q1)) := Lib.hid (by rw [hw3]; exact hy2.store _ _)
  have HS3 : Hid (MatAt byteV w3 (.slice (some ⟨g1, 0, none⟩) k q1) S) := Lib.hid (by
    rw [hw3]
    have h1 := hsy.set hy2 0 (.int .i64 (size : Int))
    exact (h1.set (heap_setCell_at (j := 0) (u := .int .i64 (size : Int)) hy2) 1 (.slice (some ⟨g1, 0, none⟩) k q1)).at)
  have HB3 : Hid (Below w.heap.size w w3) := Lib.hid (by
    rw [hw3]
    exact (hb02.setCell (p := ⟨w.heap.size, 0, none⟩) (Nat.le_refl _) _).setCell (p := ⟨w.heap.size, 1, none⟩) (Nat.le_refl _) _)
  have HK := Lib.hid hk
  have HOK := Lib.hid hok
  obtain ⟨z0, z1⟩ := hy2.cells
  obtain ⟨f0, f1⟩ := hy2.free
  clear hw3 hsy hvs hok hb2 hb02 hk hy2 hg1 y0 y1
  go_upto_region 2 with fail
  rw [← HW3.out]
  obtain ⟨y0, y1⟩ := HY3.out.cells
  clear z0 z1 f0 f1
  have HRN := Lib.hid (rEnNew_any (w := w3) k size _ S HS3.out HK.out hl1 (by omega) hs1 (by omega) HOK.out)
  unfold rEnV at HRN
  go_wp2_with fail
  refine HRN.out.mono ?_
  rintro e w4 ⟨s, h, l, p, sd, vm, V, rfl, hof, hsd, hmv, htv, hb4⟩
  have HX : Hid (BlkS k s h l p sd size S V) := Lib.hid ⟨hof, hsd, hl1, by omega, hs1, by omega, HK.out, HOK.out, htv⟩
  obtain ⟨au, cu, rfl, -, -, -⟩ := hmv.opens
  rw [htv.1] at hmv ⊢
  obtain ⟨W5, hW5, hbW5, hbx5⟩ := ren_laid w4 k s h l p sd size (.slice au l cu)
  have hb35 := hb4.trans (hbW5.mono hb4.size)
  have HW5 := Lib.hid hW5
  have HBX5 := Lib.hid hbx5
  have HMV := Lib.hid (hmv.mono hbW5)
  have HY5 := Lib.hid (HY3.out.mono hb35)
  have HS5 := Lib.hid (HS3.out.mono hb35)
  have hb05 := HB3.out.trans (hb35.mono HB3.out.size)
  have HB5 := Lib.hid hb05
  have HT5 := Lib.hid (PairsAt.mono HT.out hb05)
  have HBT5 := Lib.hid (HBT.out.mono hb05)
  have HG5 := Lib.hid (HG.out.mono hb05)
  have HNW := Lib.hid (DeNew_ok (w := W5) k size hl1 (by omega) hs1 (by omega) (PairsAt.mono HT.out hb05) (HBT.out.mono hb05))
  clear hof hsd hmv htv hb4 hW5 hbW5 hbx5 hb35 hb05 y0 y1
  go_upto_region 3 with fail
  rw [← HW5.out]
  obtain ⟨g6, hg6⟩ : ∃ g6, w4.heap.size = g6 := ⟨_, rfl⟩
  rw [hg6] at HBX5 ⊢
  clear hg6
  obtain ⟨y0, y1⟩ := HY5.out.cells
  have HRS : Hid (∀ Z (n : Nat), n < 65536 → Below W5.heap.size W5 Z → Calls Tryz.prog 27 #[.agg #[.int .i64 (k : Int), .int .i64 (s : Int), .int .i64 (h : Int), .int .i64 (l : Int), .int .i64 (p : Int), .int .i64 (sd : Int), .int .i64 (size : Int), .slice au l cu], .int .i64 (n : Int)] Z fun e w' => ∃ v', e = .returned v' ∧ w'.ownsRow Z.heap.size 5 1 v' size ((symE l p sd size V n).map byteV) ∧ Below Z.heap.size Z w') := Lib.hid fun Z n hn hZ =>
    rEnSym_any k s h l p sd size n _ V HX.out.of HX.out.k1 HX.out.k2 HX.out.seed.1 hn (HMV.out.mono hZ) HX.out.tells.1 (fun r hr => HX.out.tells.row r hr) (by omega)
  have HSAT : Hid (∀ Z, Below W5.heap.size W5 Z → (Z.cell? ⟨g6, 0, none⟩ = some (.int .i64 (k : Int)) ∧ Z.cell? ⟨g6, 1, none⟩ = some (.int .i64 (s : Int)) ∧ Z.cell? ⟨g6, 2, none⟩ = some (.int .i64 (h : Int)) ∧ Z.cell? ⟨g6, 3, none⟩ = some (.int .i64 (l : Int)) ∧ Z.cell? ⟨g6, 4, none⟩ = some (.int .i64 (p : Int)) ∧
      Z.cell? ⟨g6, 5, none⟩ = some (.int .i64 (sd : Int)) ∧ Z.cell? ⟨g6, 6, none⟩ = some (.int .i64 (size : Int)) ∧ Z.cell? ⟨g6, 7, none⟩ = some (.slice au l cu)) ∧ Z.cell? ⟨w.heap.size, 1, none⟩ = some (.slice (some ⟨g1, 0, none⟩) k q1)) := Lib.hid fun Z hZ => ⟨(HBX5.out.mono hZ).cells, (HY5.out.mono hZ).cells.2⟩
  go_wp2_with fail
  refine HNW.out.mono ?_
  rintro e w6 ⟨g, b, kb, s', h', l', p', sd', rfl, hd, hb6⟩
  obtain ⟨rfl, rfl, rfl, rfl⟩ := HX.out.of.unique hd.of
  obtain rfl := HX.out.seed.unique hd.seed
  have HD6 := Lib.hid (hd.fresh (symE l p sd size V))
  have HB6 := Lib.hid hb6
  clear hd hb6 y0 y1
  go_wp2_with fail
  obtain ⟨W6, hW6⟩ : ∃ W6, W6 = w6.alloc (.cells #[] 3) := ⟨_, rfl⟩
  have HOW : Hid (W6.ownsRow W5.heap.size 3 1 (.slice (some ⟨w6.heap.size, 0, none⟩) 0 0) 0 (([] : List Nat).map colV)) := Lib.hid (by rw [hW6]; exact made_own _ HB6.out.size (by decide))
  have HD7 : Hid (DecAt AnyB W6 W5.heap.size g b kb k s h l p sd size (kdS k s h l p sd size V []) false) := Lib.hid (by rw [hW6]; exact HD6.out.mono ((Below.refl _ _).alloc (Nat.le_refl _) _))
  have HB7 : Hid (Below W5.heap.size W5 W6) := Lib.hid (by rw [hW6]; exact HB6.out.alloc HB6.out.size _)
  rw [← hW6]
  clear hW6
  go_loopw [8, 9] (fun gv i wr => ∃ (j : Nat) (fs : List Nat), j ≤ q ∧ j ≤ 40 ∧ i = .int .i64 j ∧ fs.length = j ∧ (∀ e ∈ fs, e < 65536) ∧ wr.ownsRow W5.heap.size 3 1 gv j (fs.map colV) ∧ DecAt AnyB wr W5.heap.size g b kb k s h l p sd size (kdS k s h l p sd size V fs) false ∧ Below W5.heap.size W5 wr) (fun _ i _ => 40 - (intOf i).toNat)
  case atStart => exact ⟨0, [], Nat.zero_le _, Nat.zero_le _, rfl, rfl, (fun e he => by cases he), HOW.out, HD7.out, HB7.out⟩
  case round =>
    obtain ⟨j, fs, hj, hj40, rfl, hfl, hfb, ho, hd, hbel⟩ := hrel
    clear HD6 HB6 HD7 HB7 HOW
    have HD := Lib.hid hd
    have HBL := Lib.hid hbel
    have HBWR := Lib.hid (HB5.out.trans (hbel.mono HB5.out.size))
    have HO := Lib.hid ho
    have HFL := Lib.hid hfl
    have HFB := Lib.hid hfb
    obtain ⟨ag, cg, rfl, -, -⟩ := own_open ho
    have hoz : W5.heap.size ≤ wr.heap.size := hbel.size
    clear ho hfl hfb
    by_cases hlt : j < q ∧ j < 40
    · obtain ⟨hjq, hj3⟩ := hlt
      have d2 : decide ((j : Int) < 40) = true := decide_eq_true (by omega)
      obtain ⟨be, oe, rfl, hec⟩ := HEC.out (by omega)
      have hx0 := hec j hjq
      have hxr := (HBWR.out.cell (p := ⟨be, oe + j, none⟩) (World.block_lt_of_cell? w _ hx0)).trans hx0
      obtain ⟨n, hnE⟩ : ∃ n, n = esiN (es.getD j 0) := ⟨_, rfl⟩
      have hnw : (IntKind.u64.wrap (es.getD j 0)).tmod 65536 = (n : Int) := by rw [hnE]; exact esi_mod _
      have hn : n < 65536 := by rw [hnE]; exact esiN_lt _
      have HNE := Lib.hid hnE
      clear hec hx0 hnE
      generalize es.getD j 0 = x at *
      clear hd hbel
      have HFB2 : Hid (∀ e ∈ fs ++ [n], e < 65536) := Lib.hid fun e he => by
        rcases List.mem_append.1 he with he | he
        · exact HFB.out e he
        · rw [List.mem_singleton.1 he]; exact hn
      go_wp2_with (at_builtin; refine wpList_append_own _ rfl (.tmp 55) (.tmp 57) 55 rfl W5.heap.size 3 i0 (.int .i64 0) 1 8 Tryz.underlying55 hi hz0 hz1 hz2 rfl (by decide) (.slice ag j cg) j (fs.map colV) rfl (HO.out.alloc _) ⟨wr.heap.size, 0, none⟩ 1 1 [.int .i64 (n : Int)] rfl rfl (cell_one_new _ _ _) (fun x hx => by simp at hx; subst hx; rfl) (by unfold maxLen; omega) (by omega) (by simp; omega) ?_; intro v2 w6 hown1 hgrow1 _; have hb6 := (HBL.out.alloc HBL.out.size _).grown hgrow1 (by simp; omega) (fun k hk => (HO.out.lt k hk).1); have HB6 := Lib.hid hb6; have HD6 := Lib.hid ((HD.out.mono ((Below.refl _ _).alloc (Nat.le_refl _) _)).grown (HO.out.alloc _) hgrow1); have HO6 : Hid (w6.ownsRow W5.heap.size 3 1 v2 (j + 1) ((fs ++ [n]).map colV)) := Lib.hid (by rw [List.map_append]; exact hown1); obtain ⟨⟨e0, e1, e2, e3, e4, e5, e6, e7⟩, -⟩ := HSAT.out w6 hb6; clear hown1 hgrow1 hb6)
      refine (HRS.out w6 n hn HB6.out).mono ?_
      rintro e w7 ⟨v7, rfl, ho7, hb7⟩
      have hb57 := HB6.out.trans (hb7.mono HB6.out.size)
      have HB7 := Lib.hid hb57
      have HO7 := Lib.hid (owns_kept HO6.out hb7)
      have HAD := Lib.hid (src_add HX.out (HD6.out.mono hb7) n hn v7 (ListAt.of_owns ho7) (PairsAt.mono HT5.out hb57) (HBT5.out.mono hb57))
      have HD7 := Lib.hid (HD6.out.mono hb7)
      obtain ⟨a7, c7, rfl, -, -⟩ := own_open ho7
      clear ho7 hb7 hb57 e0 e1 e2 e3 e4 e5 e6 e7
      go_wp2_with fail
      refine HAD.out.mono ?_
      rintro e w8 ⟨kd, hkd, rfl, hrk, ht8, hd8⟩
      have hb8 := HB7.out.trans (ht8.below hd8.gg hd8.gb hd8.gk HB7.out.size)
      have HB8 := Lib.hid hb8
      have HD8 := Lib.hid hd8
      have HO8 := Lib.hid (HD7.out.own ht8 ⟨by decide, by decide, by decide⟩ HO7.out)
      have HG8 := Lib.hid (HG5.out.mono hb8)
      have HT8 := Lib.hid (PairsAt.mono HT5.out hb8)
      have HCE : Hid (∀ Z, Below w8.heap.size w8 Z → Z.cell? ⟨w.heap.size, 1, none⟩ = some (.slice (some ⟨g1, 0, none⟩) k q1)) := Lib.hid fun Z hZ => (HSAT.out Z (HB8.out.trans (hZ.mono HB8.out.size))).2
      clear hrk ht8 hd8 hb8
      rcases hkd with rfl | rfl
      all_goals
        by_cases hr : rankA k s h l p sd (fs ++ [n]) = l
        · have HDN : Hid (∀ Z, Below w8.heap.size w8 Z → Calls Tryz.prog 19 #[.pointer (some ⟨g, 0, none⟩)] Z fun e w' => e = .returned (.bool true) ∧ Z = w') := Lib.hid fun Z hZ => by
            have := DeDone_any (HD8.out.mono hZ)
            unfold doneB at this
            rw [HX.out.rk, hr] at this
            simpa using this
          have HSO := Lib.hid (DeSrc_ok HD8.out (by rw [HX.out.rk]; exact hr) HT8.out)
          clear hr
          go_wp2_with fail
          refine HSO.out.mono ?_
          rintro e w9 ⟨v9, U, rfl, htl, hm9, hb9⟩
          rw [HX.out.source htl] at hm9
          have HB9 := Lib.hid hb9
          have HB59 := Lib.hid (HB8.out.trans (hb9.mono HB8.out.size))
          have hsl : w9.cell? ⟨w.heap.size, 1, none⟩ = some (.slice (some ⟨g1, 0, none⟩) k q1) := HCE.out _ hb9
          have HBD : Hid (Below w9.heap.size w9 w9.drew) := Lib.hid (Below.refl _ _).drew
          have HC9 : Hid (∀ Z, Below w9.heap.size w9 Z → Z.cell? ⟨w.heap.size, 1, none⟩ = some (.slice (some ⟨g1, 0, none⟩) k q1)) := Lib.hid fun Z hZ => HCE.out Z (HB9.out.trans (hZ.mono HB9.out.size))
          have HSD0 := Lib.hid (HC9.out _ HBD.out)
          have HDN9 : Hid (∀ Z, Below w9.heap.size w9 Z → Calls Tryz.prog 19 #[.pointer (some ⟨g, 0, none⟩)] Z fun e w' => e = .returned (.bool true) ∧ Z = w') := Lib.hid fun Z hZ => HDN.out Z (HB9.out.trans (hZ.mono HB9.out.size))
          have HM9 := Lib.hid hm9
          have HSM : Hid (∀ Z, Below w9.heap.size w9 Z → Calls Tryz.prog 24 #[v9, .slice (some ⟨g1, 0, none⟩) k q1] Z fun e w' => e = .returned (.bool true) ∧ Below Z.heap.size Z w') := Lib.hid fun Z hZ => sSame_any _ _ S (HM9.out.mono hZ) (HS5.out.mono (HB59.out.trans (hZ.mono HB59.out.size)))
          obtain ⟨a9, c9, rfl, -, -, -⟩ := hm9.opens
          clear htl hm9 hb9
          go_wp2_with fail
          go_region_held3 (fun w' => w'.cell? ⟨w.heap.size, 1, none⟩ = some (.slice (some ⟨g1, 0, none⟩) k q1))
            (first | (with_reducible exact HSD0.out) | (with_reducible exact HC9.out _ HB10.out) | go_keep)
            (first
            | (go_at_call 19; (with_reducible refine (HDN9.out _ HBD.out).mono ?_); rintro e wd ⟨rfl, rfl⟩)
            | (go_at_call 24; (with_reducible refine (HSM.out _ HBD.out).mono ?_); rintro e w10 ⟨rfl, hb10⟩; have HB10 := Lib.hid (HBD.out.trans (hb10.mono HBD.out.size)); clear hb10))
          all_goals
            have hb10 := HB9.out.trans (HB10.out.mono HB9.out.size)
            have HD10 := Lib.hid (HD8.out.mono hb10)
            have HO10 := Lib.hid (owns_kept HO8.out hb10)
            have HB510 := Lib.hid (HB8.out.trans (hb10.mono HB8.out.size))
            clear hb10 hsl
            go_wp2
            go_roundw
            case rel => exact ⟨j + 1, fs ++ [n], by omega, by omega, by go_num, by have := HFL.out; simp; omega, HFB2.out, HO10.out, HD10.out, HB510.out⟩
            case measure => simp [intOf]; omega
        · have HDN : Hid (∀ Z, Below w8.heap.size w8 Z → Calls Tryz.prog 19 #[.pointer (some ⟨g, 0, none⟩)] Z fun e w' => e = .returned (.bool false) ∧ w' = Z) := Lib.hid fun Z hZ => by
            have := DeDone_any (HD8.out.mono hZ)
            unfold doneB at this
            rw [HX.out.rk, decide_eq_false hr] at this
            exact this.mono fun e w' h1 => ⟨h1.1, h1.2.symm⟩
          have HSO := Lib.hid (DeSrc_none HD8.out (by rw [HX.out.rk]; exact hr) HG8.out)
          clear hr
          go_wp2_with fail
          refine HSO.out.mono ?_
          rintro e w9 ⟨E9, rfl, he9, hb9⟩
          obtain ⟨u9, x9, rfl⟩ := he9.some (by decide)
          have hsl : w9.cell? ⟨w.heap.size, 1, none⟩ = some (.slice (some ⟨g1, 0, none⟩) k q1) := HCE.out _ hb9
          have HB9 := Lib.hid hb9
          have HDN9 : Hid (∀ nd, Calls Tryz.prog 19 #[.pointer (some ⟨g, 0, none⟩)] (w9.drewN nd) fun e w' => e = .returned (.bool false) ∧ w' = w9.drewN nd) := Lib.hid fun nd => HDN.out _ (below_draws HB9.out nd)
          clear he9 hb9
          go_wp2_with fail
          go_quiet (exact Calls.quiet_of_same (HDN9.out _))
          have hb10 := below_draws HB9.out nq
          have HD10 := Lib.hid (HD8.out.mono hb10)
          have HO10 := Lib.hid (owns_kept HO8.out hb10)
          have HB510 := Lib.hid (HB8.out.trans (hb10.mono HB8.out.size))
          clear hb10 hsl
          go_wp2
          go_roundw
          case rel => exact ⟨j + 1, fs ++ [n], by omega, by omega, by go_num, by have := HFL.out; simp; omega, HFB2.out, HO10.out, HD10.out, HB510.out⟩
          case measure => simp [intOf]; omega
    · clear hd hbel
      by_cases hjq : j < q
      · have d2 : decide ((j : Int) < 40) = false := decide_eq_false (by omega)
        clear hlt
        by_cases hr : rankA k s h l p sd fs = l
        all_goals
          have HDN : Hid (∀ Z, Below wr.heap.size wr Z → Calls Tryz.prog 19 #[.pointer (some ⟨g, 0, none⟩)] Z fun e w' => e = .returned (.bool (decide (rankA k s h l p sd fs = l))) ∧ Z = w') := Lib.hid fun Z hZ => by
            have := DeDone_any (HD.out.mono hZ)
            unfold doneB at this
            rw [HX.out.rk] at this
            simpa using this
          simp only [hr, decide_true, decide_false] at HDN
          have HRKF : Hid (∀ Z, Below wr.heap.size wr Z → Calls Tryz.prog 28 #[.agg #[.int .i64 (k : Int), .int .i64 (s : Int), .int .i64 (h : Int), .int .i64 (l : Int), .int .i64 (p : Int)], .int .i64 (sd : Int), .slice ag j cg] Z fun e w' => e = .returned (.int .i64 (rankA k s h l p sd fs : Nat)) ∧ Below Z.heap.size Z w') := Lib.hid fun Z hZ =>
            r11Rank_any k s h l p sd _ fs HX.out.of HX.out.k1 HX.out.k2 HX.out.seed.1 (ListAt.of_owns (f := colV) (owns_kept HO.out hZ)) HFB.out (by rw [HFL.out]; omega)
          have HAWF : Hid (∀ Z, Below wr.heap.size wr Z → Calls Tryz.prog 10 #[] Z fun e w' => e = .returned (.bool true) ∧ Below Z.heap.size Z w') := Lib.hid fun Z hZ => HAW.out Z (HBWR.out.trans (hZ.mono HBWR.out.size))
          have HBD : Hid (Below wr.heap.size wr wr.drew) := Lib.hid (Below.refl _ _).drew
          have HSF : Hid (∀ Z, Below wr.heap.size wr Z → Z.cell? ⟨g6, 0, none⟩ = some (.int .i64 (k : Int)) ∧ Z.cell? ⟨g6, 1, none⟩ = some (.int .i64 (s : Int)) ∧ Z.cell? ⟨g6, 2, none⟩ = some (.int .i64 (h : Int)) ∧ Z.cell? ⟨g6, 3, none⟩ = some (.int .i64 (l : Int)) ∧ Z.cell? ⟨g6, 4, none⟩ = some (.int .i64 (p : Int)) ∧ Z.cell? ⟨g6, 5, none⟩ = some (.int .i64 (sd : Int))) := Lib.hid fun Z hZ => by
            obtain ⟨⟨e0, e1, e2, e3, e4, e5, -, -⟩, -⟩ := HSAT.out Z (HBL.out.trans (hZ.mono HBL.out.size))
            exact ⟨e0, e1, e2, e3, e4, e5⟩
          have HSF0 := Lib.hid (HSF.out _ HBD.out)
          try rw [hr] at HRKF
          go_wp2_with fail
          go_region_held_law (fun w' => w'.cell? ⟨g6, 0, none⟩ = some (.int .i64 (k : Int)) ∧ w'.cell? ⟨g6, 1, none⟩ = some (.int .i64 (s : Int)) ∧ w'.cell? ⟨g6, 2, none⟩ = some (.int .i64 (h : Int)) ∧ w'.cell? ⟨g6, 3, none⟩ = some (.int .i64 (l : Int)) ∧ w'.cell? ⟨g6, 4, none⟩ = some (.int .i64 (p : Int)) ∧ w'.cell? ⟨g6, 5, none⟩ = some (.int .i64 (sd : Int)))
            (first | (with_reducible exact HSF0.out) | (with_reducible exact HSF.out _ HBZ.out) | (with_reducible exact HSF.out _ HBK.out) | go_keep)
            (first
            | (go_at_call 19; (with_reducible refine (HDN.out _ HBD.out).mono ?_); rintro e wd ⟨rfl, rfl⟩)
            | (go_at_call 19; (with_reducible refine (HDN.out _ HBK.out).mono ?_); rintro e wd ⟨rfl, rfl⟩)
            | (go_at_call 28; (with_reducible refine (HRKF.out _ HBD.out).mono ?_); rintro e wk ⟨rfl, hbk⟩; have HBK := Lib.hid (HBD.out.trans (hbk.mono HBD.out.size)); clear hbk)
            | (go_at_call 10; (with_reducible refine (HAWF.out _ HBK.out).mono ?_); rintro e wz ⟨rfl, hbz⟩; have HBZ := Lib.hid (HBK.out.trans (hbz.mono HBK.out.size)); clear hbz))
          all_goals
            go_wp2
            go_ret
            first
            | exact ⟨rfl, HBWR.out.trans (HBZ.out.mono HBWR.out.size)⟩
            | (have hne : ¬ ((rankA k s h l p sd fs : Int) = (l : Int)) := (fun e => hr (by omega))
               exact ⟨(by simp [hne]), HBWR.out.trans (HBZ.out.mono HBWR.out.size)⟩)
      · clear hlt
        by_cases hr : rankA k s h l p sd fs = l
        all_goals
          have HDN : Hid (∀ Z, Below wr.heap.size wr Z → Calls Tryz.prog 19 #[.pointer (some ⟨g, 0, none⟩)] Z fun e w' => e = .returned (.bool (decide (rankA k s h l p sd fs = l))) ∧ Z = w') := Lib.hid fun Z hZ => by
            have := DeDone_any (HD.out.mono hZ)
            unfold doneB at this
            rw [HX.out.rk] at this
            simpa using this
          simp only [hr, decide_true, decide_false] at HDN
          have HRKF : Hid (∀ Z, Below wr.heap.size wr Z → Calls Tryz.prog 28 #[.agg #[.int .i64 (k : Int), .int .i64 (s : Int), .int .i64 (h : Int), .int .i64 (l : Int), .int .i64 (p : Int)], .int .i64 (sd : Int), .slice ag j cg] Z fun e w' => e = .returned (.int .i64 (rankA k s h l p sd fs : Nat)) ∧ Below Z.heap.size Z w') := Lib.hid fun Z hZ =>
            r11Rank_any k s h l p sd _ fs HX.out.of HX.out.k1 HX.out.k2 HX.out.seed.1 (ListAt.of_owns (f := colV) (owns_kept HO.out hZ)) HFB.out (by rw [HFL.out]; omega)
          have HAWF : Hid (∀ Z, Below wr.heap.size wr Z → Calls Tryz.prog 10 #[] Z fun e w' => e = .returned (.bool true) ∧ Below Z.heap.size Z w') := Lib.hid fun Z hZ => HAW.out Z (HBWR.out.trans (hZ.mono HBWR.out.size))
          have HBD : Hid (Below wr.heap.size wr wr.drew) := Lib.hid (Below.refl _ _).drew
          have HSF : Hid (∀ Z, Below wr.heap.size wr Z → Z.cell? ⟨g6, 0, none⟩ = some (.int .i64 (k : Int)) ∧ Z.cell? ⟨g6, 1, none⟩ = some (.int .i64 (s : Int)) ∧ Z.cell? ⟨g6, 2, none⟩ = some (.int .i64 (h : Int)) ∧ Z.cell? ⟨g6, 3, none⟩ = some (.int .i64 (l : Int)) ∧ Z.cell? ⟨g6, 4, none⟩ = some (.int .i64 (p : Int)) ∧ Z.cell? ⟨g6, 5, none⟩ = some (.int .i64 (sd : Int))) := Lib.hid fun Z hZ => by
            obtain ⟨⟨e0, e1, e2, e3, e4, e5, -, -⟩, -⟩ := HSAT.out Z (HBL.out.trans (hZ.mono HBL.out.size))
            exact ⟨e0, e1, e2, e3, e4, e5⟩
          have HSF0 := Lib.hid (HSF.out _ HBD.out)
          try rw [hr] at HRKF
          go_wp2_with fail
          go_region_held_law (fun w' => w'.cell? ⟨g6, 0, none⟩ = some (.int .i64 (k : Int)) ∧ w'.cell? ⟨g6, 1, none⟩ = some (.int .i64 (s : Int)) ∧ w'.cell? ⟨g6, 2, none⟩ = some (.int .i64 (h : Int)) ∧ w'.cell? ⟨g6, 3, none⟩ = some (.int .i64 (l : Int)) ∧ w'.cell? ⟨g6, 4, none⟩ = some (.int .i64 (p : Int)) ∧ w'.cell? ⟨g6, 5, none⟩ = some (.int .i64 (sd : Int)))
            (first | (with_reducible exact HSF0.out) | (with_reducible exact HSF.out _ HBZ.out) | (with_reducible exact HSF.out _ HBK.out) | go_keep)
            (first
            | (go_at_call 19; (with_reducible refine (HDN.out _ HBD.out).mono ?_); rintro e wd ⟨rfl, rfl⟩)
            | (go_at_call 19; (with_reducible refine (HDN.out _ HBK.out).mono ?_); rintro e wd ⟨rfl, rfl⟩)
            | (go_at_call 28; (with_reducible refine (HRKF.out _ HBD.out).mono ?_); rintro e wk ⟨rfl, hbk⟩; have HBK := Lib.hid (HBD.out.trans (hbk.mono HBD.out.size)); clear hbk)
            | (go_at_call 10; (with_reducible refine (HAWF.out _ HBK.out).mono ?_); rintro e wz ⟨rfl, hbz⟩; have HBZ := Lib.hid (HBK.out.trans (hbz.mono HBK.out.size)); clear hbz))
          all_goals
            go_wp2
            go_ret
            first
            | exact ⟨rfl, HBWR.out.trans (HBZ.out.mono HBWR.out.size)⟩
            | (have hne : ¬ ((rankA k s h l p sd fs : Int) = (l : Int)) := (fun e => hr (by omega))
               exact ⟨(by simp [hne]), HBWR.out.trans (HBZ.out.mono HBWR.out.size)⟩)
end Go.Proofs.YtkhdjjcflbdegaaGreatDoor
