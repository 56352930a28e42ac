import Derived.Test.YtkhdjjcflbdegaaGreatDoorG33
import Derived.Test.YtkhdjjcflbdegaaGreatDoorG31

section
/- Package geyserref12: lines. -/
namespace Go.Proofs.YtkhdjjcflbdegaaGreatDoor
open Go.RowKit Go.Extern.Stop Go.Stop Go.Extern

/-! ### the mathematics -/
def rowT (l : Nat) (R : List Nat) (t : Nat) : List Bool := (List.range l).map fun c => decide (c ∈ R.take t)
theorem rowT_length (l : Nat) (R : List Nat) (t : Nat) : (rowT l R t).length = l := by simp [rowT]
theorem rowT_zero (l : Nat) (R : List Nat) : rowT l R 0 = List.replicate l false := by
  unfold rowT
  apply List.ext_getElem (by simp)
  intro j h1 h2
  simp
theorem rowT_set {l : Nat} {R : List Nat} {t : Nat} (ht : t < R.length) : (rowT l R t).set (R.getD t 0) true = rowT l R (t + 1) := by
  unfold rowT
  apply List.ext_getElem (by simp)
  intro j h1 h2
  simp only [List.getElem_set, List.getElem_map, List.getElem_range]
  have e : R.getD t 0 = R[t] := by simp [List.getD_eq_getElem?_getD, ht]
  rw [e, List.take_succ_eq_append_getElem ht]
  by_cases h : R[t] = j
  · rw [if_pos h]
    exact (decide_eq_true (List.mem_append_right _ (by simp [h]))).symm
  · rw [if_neg h, decide_eq_decide, List.mem_append, List.mem_singleton]
    exact ⟨fun h1 => .inl h1, fun h1 => h1.resolve_right fun e => h e.symm⟩
theorem rowT_all {l : Nat} {R : List Nat} : rowT l R R.length = (List.range l).map fun c => decide (c ∈ R) := by
  unfold rowT
  rw [List.take_length]
def lnE (l size sh : Nat) (R : List Nat) (M : List (List Nat)) (i : Nat) : Ln := ((List.range l).map fun c => decide (c ∈ R), if i < sh then List.replicate size 0 else M.getD (i - sh) [])
noncomputable def lnsTo (k s h l p sd size : Nat) (M : List (List Nat)) (j : Nat) : List Ln := (List.range j).map fun i => lnE l size (s + h) ((rowsA k s h l p sd (List.range k)).getD i []) M i
theorem lnsTo_length (k s h l p sd size : Nat) (M : List (List Nat)) (j : Nat) : (lnsTo k s h l p sd size M j).length = j := by simp [lnsTo]
theorem lnsTo_succ (k s h l p sd size : Nat) (M : List (List Nat)) (j : Nat) : lnsTo k s h l p sd size M (j + 1) = lnsTo k s h l p sd size M j ++ [lnE l size (s + h) ((rowsA k s h l p sd (List.range k)).getD j []) M j] := by
  unfold lnsTo
  rw [List.range_succ, List.map_append]
  rfl
theorem lnsTo_getD {k s h l p sd size : Nat} {M : List (List Nat)} {j i : Nat} (hi : i < j) : (lnsTo k s h l p sd size M j).getD i noLn = lnE l size (s + h) ((rowsA k s h l p sd (List.range k)).getD i []) M i := by
  unfold lnsTo
  rw [range_getD, if_pos hi]
theorem lnsTo_ok {k s h l p sd size : Nat} {M : List (List Nat)} (hl : l = k + s + h) (hM : M.length = k) (ho : ∀ r ∈ M, r.length = size ∧ Octets r) : LnOk l size (lnsTo k s h l p sd size M l) := fun j hj => by
  rw [lnsTo_length] at hj
  rw [lnsTo_getD hj]
  refine ⟨by simp [lnE], ?_⟩
  show (if j < s + h then List.replicate size 0 else M.getD (j - (s + h)) []).length = size ∧ Octets (if j < s + h then List.replicate size 0 else M.getD (j - (s + h)) [])
  by_cases h1 : j < s + h
  · rw [if_pos h1]
    exact ⟨List.length_replicate, octets_zero size⟩
  · rw [if_neg h1]
    exact ho _ (getD_mem_row (by omega))
theorem rowsA_low {k s h l p sd : Nat} {ns : List Nat} {i : Nat} (hi : i < s + h) : (rowsA k s h l p sd ns).getD i [] = (rowsF0 k s h).getD i [] := by
  have h0 := rowsF0_length k s h
  unfold rowsA
  rw [List.getD_eq_getElem?_getD, List.getElem?_append_left (by omega), List.getD_eq_getElem?_getD]
theorem rowsA_high {k s h l p sd j t : Nat} (ht : t < j) : (rowsA k s h l p sd (List.range j)).getD (s + h + t) [] = rowE l p sd t := by
  have h0 := rowsF0_length k s h
  unfold rowsA
  rw [List.getD_eq_getElem?_getD, List.getElem?_append_right (by omega), h0, show s + h + t - (s + h) = t by omega, List.getElem?_map, List.getElem?_range ht]
  rfl
theorem sysE_parts (k s h l p sd size : Nat) (M : List (List Nat)) : sysE k s h l p sd size (fun t => M.getD t []) k = ((rowsF0 k s h).map fun r => eqL l r (List.replicate size 0)) ++ (List.range k).map fun e => eqL l (rowE l p sd e) (M.getD e []) := rfl
/-- The lines are the block's equations. -/
theorem lnsTo_sys {k s h l p sd size : Nat} {M : List (List Nat)} (hl : l = k + s + h) : lnsV (lnsTo k s h l p sd size M l) = sysE k s h l p sd size (fun t => M.getD t []) k := by
  have h0 := rowsF0_length k s h
  have hsl : (sysE k s h l p sd size (fun t => M.getD t []) k).length = l := by
    unfold sysE sysF
    rw [List.length_append, List.length_map, List.length_map, List.length_range, h0]
    omega
  apply List.ext_getElem (by rw [lnsV_length, lnsTo_length, hsl])
  intro j h1 h2
  have hj : j < l := by omega
  have hin := rowsA_in (p := p) (seed := sd) (es := List.range k) hl
  have hra : ((rowsA k s h l p sd (List.range k)).getD j []) ∈ rowsA k s h l p sd (List.range k) := getD_mem_row (by rw [rowsA_length, List.length_range]; omega)
  have e1 : (lnsV (lnsTo k s h l p sd size M l))[j] = eqL l ((rowsA k s h l p sd (List.range k)).getD j []) (if j < s + h then List.replicate size 0 else M.getD (j - (s + h)) []) := by
    have := lnsV_getD (lnsTo k s h l p sd size M l) j
    rw [List.getD_eq_getElem?_getD, List.getElem?_eq_getElem h1, Option.getD_some, lnsTo_getD hj] at this
    rw [this]
    exact lineV_eq (by simp [lnE]) (hin _ hra).1 fun c hc => by
      show ((List.range l).map fun c => decide (c ∈ (rowsA k s h l p sd (List.range k)).getD j [])).getD c false = _
      rw [range_getD, if_pos hc]
  rw [e1]
  by_cases hs : j < s + h
  · rw [if_pos hs, rowsA_low hs, List.getElem_of_eq (sysE_parts k s h l p sd size M), List.getElem_append_left (by rw [List.length_map]; omega)]
    rw [List.getElem_map, List.getD_eq_getElem?_getD, List.getElem?_eq_getElem (by omega)]
    rfl
  · obtain ⟨t, rfl⟩ : ∃ t, j = s + h + t := ⟨j - (s + h), by omega⟩
    have htk : t < k := by omega
    rw [if_neg hs, rowsA_high htk, List.getElem_of_eq (sysE_parts k s h l p sd size M), List.getElem_append_right (by rw [List.length_map]; omega)]
    rw [List.getElem_map, List.getElem_range]
    have e2 : s + h + t - ((rowsF0 k s h).map fun r => eqL l r (List.replicate size 0)).length = t := by rw [List.length_map]; omega
    rw [e2, show s + h + t - (s + h) = t by omega]

set_option maxRecDepth 1000000 in
set_option maxHeartbeats 4000000 in
theorem lines_any {w : World} (k s h l p sd size : Nat) (v : Value) (M : List (List Nat)) (H : OfP k s h l p) (hk1 : 1 ≤ k) (hk2 : k ≤ 128) (hs : sd < 65536) (hz : size ≤ 64) (hv : MatAt byteV w v M) (hM : M.length = k) :
    Calls Tryz.prog 50 #[parV k s h l p, .int .i64 (sd : Int), v, .int .i64 (size : Int)] w fun e w' => ∃ v', e = .returned v' ∧ LnsAt w' v' (lnsTo k s h l p sd size M l) ∧ Below w.heap.size w w' := by
  obtain ⟨b1, b2, b3, b4, b5, b6, b7⟩ := H.bounds hk1 hk2
  have hl1 : 1 ≤ l := by have := H.2.2.1; omega
  have hls : s + h + k = l := by have := H.2.2.1; omega
  have HLS := Lib.hid hls
  have HKB := Lib.hid (show k ≤ 128 ∧ s + h ≤ 157 by omega)
  clear hls
  obtain ⟨i0, hi, hz0, hz1, hz2⟩ := info_parts info_line
  obtain ⟨j0, hj0, jz0, jz1, jz2⟩ := info_parts info_bool
  obtain ⟨u0, hu0, uz0, uz1, uz2⟩ := info_parts info_u8
  obtain ⟨w0, hw0, hb0, hbx⟩ := par_laid w k s h l p
  have HW0 := Lib.hid hw0
  have HB0 := Lib.hid hb0
  have HBX := Lib.hid hbx
  have HV := Lib.hid hv
  have HML := Lib.hid hM
  have HLL := Lib.hid H.2.2.1
  have HFI : Hid (∀ V, Calls Tryz.prog 74 #[.int .i64 (k : Int)] V fun e w' => ∃ v, e = .returned v ∧ ListAt colV w' v (List.range k) ∧ Below V.heap.size V w') := Lib.hid fun V => r11First_any k (by omega)
  have HPL : Hid (∀ V x, ListAt colV V x (List.range k) → Calls Tryz.prog 39 #[.agg #[.int .i64 (k : Int), .int .i64 (s : Int), .int .i64 (h : Int), .int .i64 (l : Int), .int .i64 (p : Int)], .int .i64 (sd : Int), x] V fun e w' => ∃ v', e = .returned v' ∧ MatFresh colV 3 V.heap.size 55 w' v' (rowsA k s h l p sd (List.range k)) ∧ Below V.heap.size V w') :=
    Lib.hid fun V x hx => rPlaces_any k s h l p sd x (List.range k) H hk1 hk2 hs hx (fun e he => by have := List.mem_range.1 he; omega) (by rw [List.length_range]; omega)
  have HIN := Lib.hid (rowsA_in (p := p) (seed := sd) (es := List.range k) H.2.2.1)
  have HRL : Hid ((rowsA k s h l p sd (List.range k)).length = l) := Lib.hid (by rw [rowsA_length, List.length_range]; have := H.2.2.1; omega)
  have HSU := Lib.hid (lnsTo_succ k s h l p sd size M)
  have HTL := Lib.hid (lnsTo_length k s h l p sd size M)
  have HT0 : Hid (lnsTo k s h l p sd size M 0 = []) := Lib.hid rfl
  generalize rowsA k s h l p sd (List.range k) = RA at *
  generalize lnsTo k s h l p sd size M = LT at *
  have hbd : Below w0.heap.size w0 w0.drew := (Below.refl _ _).drew
  have HBD := Lib.hid hbd
  have HSAT : Hid (∀ V, Below w0.heap.size w0 V → V.cell? ⟨w.heap.size, 0, none⟩ = some (.int .i64 (k : Int)) ∧ V.cell? ⟨w.heap.size, 1, none⟩ = some (.int .i64 (s : Int)) ∧ V.cell? ⟨w.heap.size, 2, none⟩ = some (.int .i64 (h : Int)) ∧ V.cell? ⟨w.heap.size, 3, none⟩ = some (.int .i64 (l : Int)) ∧ V.cell? ⟨w.heap.size, 4, none⟩ = some (.int .i64 (p : Int))) := Lib.hid fun V hV => (hbx.mono hV).cells
  have HSD0 := Lib.hid (HSAT.out _ hbd)
  obtain ⟨av, cv, rfl, -, -, -⟩ := hv.opens
  rw [hM] at HV ⊢
  clear hw0 hb0 hbx H hv hM hs hbd b1 b2 b3 b6 b7
  unfold parV parC
  go_enter Tryz.func50, Tryz.ntmps50
  go_upto_region 1 with fail
  rw [← HW0.out]
  go_region_held3 (fun w' => w'.cell? ⟨w.heap.size, 0, none⟩ = some (.int .i64 (k : Int)) ∧ w'.cell? ⟨w.heap.size, 1, none⟩ = some (.int .i64 (s : Int)) ∧ w'.cell? ⟨w.heap.size, 2, none⟩ = some (.int .i64 (h : Int)) ∧ w'.cell? ⟨w.heap.size, 3, none⟩ = some (.int .i64 (l : Int)) ∧ w'.cell? ⟨w.heap.size, 4, none⟩ = some (.int .i64 (p : Int)))
    (first | exact HSD0.out | exact HSAT.out _ HB2.out | exact HSAT.out _ HB1.out | go_keep)
    (first
    | (go_at_call 74; (with_reducible refine (HFI.out _).mono ?_); rintro e w1 ⟨v1, rfl, hl1, hb1⟩; have HB1 := Lib.hid (HBD.out.trans (hb1.mono HBD.out.size)); have HP1 := Lib.hid (HPL.out w1 v1 hl1); clear hl1 hb1)
    | (go_at_call 39; (with_reducible refine HP1.out.mono ?_); rintro e w2 ⟨v2, rfl, hm2, hb2⟩; have HB2 := Lib.hid (HB1.out.trans (hb2.mono HB1.out.size)); have HM2 := Lib.hid hm2.own.at; clear hm2 hb2))
  all_goals
    obtain ⟨a2, c2, rfl, -, -, hc2⟩ := HM2.out.opens
    rw [HRL.out] at HM2 hc2 ⊢
    obtain ⟨bp, op, rfl, hcc2⟩ := hc2 (by omega)
    have HC2 := Lib.hid hcc2
    have HBW2 := Lib.hid (HB0.out.trans (HB2.out.mono HB0.out.size))
    clear hc2 hcc2
    go_wp2_with fail
    go_loopw [10, 11] (fun o i wr => ∃ j : Nat, j ≤ l ∧ i = .int .i64 j ∧ LnsOwn w2.heap.size wr o (LT j) ∧ Below w2.heap.size w2 wr) (fun _ i _ => l - (intOf i).toNat)
    case atStart => exact ⟨0, Nat.zero_le _, rfl, by rw [HT0.out]; exact LnsOwn.start w2 (Nat.le_refl _), (Below.refl _ _).alloc (Nat.le_refl _) _⟩
    case round =>
      obtain ⟨j, hj, rfl, ho, hbel⟩ := hrel
      have HO := Lib.hid ho
      have HBL := Lib.hid hbel
      have hsz := hbel.size
      obtain ⟨wo, hwo⟩ : ∃ wo, wo = wr := ⟨_, rfl⟩
      subst hwo
      by_cases hjl : j < l
      · obtain ⟨x, hx, hlx⟩ := HC2.out j hjl
        have hbp := World.block_lt_of_cell? w2 _ hx
        have hRin := (HIN.out (RA.getD j []) (getD_mem_row (by rw [HRL.out]; exact hjl))).1
        obtain ⟨c0, c1, c2', c3, c4⟩ := HSAT.out _ (HB2.out.trans (hbel.mono HB2.out.size))
        have HS := Lib.hid (HSU.out j)
        obtain ⟨R, hR⟩ : ∃ R, RA.getD j [] = R := ⟨_, rfl⟩
        rw [hR] at hlx hRin HS
        obtain ⟨q, hq⟩ : ∃ q, R.length = q := ⟨_, rfl⟩
        have HQ := Lib.hid hq
        have HRI := Lib.hid hRin
        have hql := hlx.len
        obtain ⟨ax, cx, rfl, -, -, hcx⟩ := hlx
        have HCX := Lib.hid hcx
        rw [hq] at hx hql
        have HX := Lib.hid hx
        have hxw := (hbel.cell (p := ⟨bp, op + j, none⟩) hbp).trans hx
        clear ho hbel hcx hRin hR hq
        have hle : l ≤ 157 := b5
        go_wp2_with (at_make; refine wpList_make_full _ rfl _ _ 138 rfl wo.heap.size 4 j0 (.bool false) 1 Tryz.underlying138 hj0 jz0 jz1 .i64 .i64 _ _ l rfl rfl rfl rfl (by rw [jz2]; omega) (by unfold maxLen; omega) (Nat.le_refl _) ?_; intro w3 hown0 hgrow0; have HB3 := Lib.hid ((Below.refl wo.heap.size wo).grown hgrow0 (Nat.le_refl _) (fun k hk => by cases hk)); have HO3 : Hid (w3.ownsRow wo.heap.size 4 1 (.slice (some ⟨wo.heap.size, 0, none⟩) l l) l ((rowT l R 0).map boolV)) := Lib.hid (by rw [rowT_zero, List.map_replicate]; rw [Nat.mul_one] at hown0; exact toList_madeCells_one (.bool false) l ▸ hown0); clear hown0 hgrow0)
        go_loopw [13] (fun i wr => ∃ t : Nat, t ≤ q ∧ i = .int .i64 t ∧ wr.ownsRow wo.heap.size 4 1 (.slice (some ⟨wo.heap.size, 0, none⟩) l l) l ((rowT l R t).map boolV) ∧ Below wo.heap.size wo wr) (fun i _ => q - (intOf i).toNat)
        case atStart => exact ⟨0, Nat.zero_le _, rfl, HO3.out, HB3.out⟩
        case round =>
          obtain ⟨t, ht, rfl, hown, hb⟩ := hrel
          have HOW := Lib.hid hown
          have HBR := Lib.hid hb
          have hb2r := HBL.out.trans (hb.mono hsz)
          have HB2R := Lib.hid hb2r
          have hxr := (hb2r.cell (p := ⟨bp, op + j, none⟩) hbp).trans HX.out
          by_cases htq : t < q
          · obtain ⟨br, or, rfl, hcr⟩ := HCX.out (by rw [HQ.out]; omega)
            have htR : t < R.length := by rw [HQ.out]; exact htq
            have hr3 := hcr t htR
            have hr4 : wr.cell? ⟨br, or + t, none⟩ = some (.int .i64 ((R.getD t 0 : Nat) : Int)) := by
              rw [hb2r.cell (p := ⟨br, or + t, none⟩) (World.block_lt_of_cell? w2 _ hr3), hr3]
              simp [colV, List.getD_eq_getElem?_getD, htR]
            have hcl : R.getD t 0 < l := HRI.out _ (by
              rw [List.getD_eq_getElem?_getD, List.getElem?_eq_getElem htR]
              exact List.getElem_mem htR)
            have hy3 : ∃ y, wr.cell? ⟨wo.heap.size, R.getD t 0, none⟩ = some y := by
              have := hown.cellAt (R.getD t 0) (by omega)
              rw [this]
              exact ⟨_, List.getElem?_eq_getElem (by rw [List.length_map, rowT_length]; exact hcl)⟩
            obtain ⟨y, hy3⟩ := hy3
            have hy4 : wr.frozen? ⟨wo.heap.size, R.getD t 0, none⟩ = false := hown.frozenAt _
            have HS2 := Lib.hid (rowT_set (l := l) htR)
            clear hown hb hb2r hcr hr3 hxw htR
            generalize R.getD t 0 = cc at *
            go_wp2_with fail
            go_roundw
            case rel => exact ⟨t + 1, by omega, by go_num, by rw [← HS2.out, List.map_set]; exact (HOW.out.stored cc (.bool true)).1, HBR.out.setCell (p := ⟨wo.heap.size, cc, none⟩) (Nat.le_refl _) _⟩
            case measure => simp [intOf]; omega
          · obtain rfl : t = q := by omega
            obtain ⟨e0, e1, e2, e3, e4⟩ := HSAT.out _ (HB2.out.trans (hb2r.mono HB2.out.size))
            have HO4 := Lib.hid (HO.out.mono hb)
            have hkb := HKB.out
            have hzr : w2.heap.size ≤ wr.heap.size := Nat.le_trans hsz hb.size
            have hsw : IntKind.i64.wrap ((s : Int) + (h : Int)) = (s : Int) + (h : Int) := IntWalk.i64_in _ (by omega)
            clear hown hb hb2r c0 c1 c2' c3 c4 hxw
            obtain ⟨cs, hcs, hel⟩ := HO4.out
            rw [HTL.out] at hcs
            have hvo : ∃ ao co, u10 = .slice ao j co := by
              rcases hcs.2 with ⟨rfl, h0⟩ | ⟨g, cap, cur, rfl, -⟩
              · exact ⟨none, 0, by rw [h0]⟩
              · exact ⟨_, _, rfl⟩
            obtain ⟨ao, co, rfl⟩ := hvo
            have HCS := Lib.hid hcs
            have HEL := Lib.hid hel
            clear hcs hel HO4
            have HRW : Hid (rowT l R t = (List.range l).map fun c => decide (c ∈ R)) := Lib.hid (by rw [← HQ.out]; exact rowT_all)
            by_cases hsh : j < s + h
            · have HEQ : Hid (lnE l size (s + h) R M j = (rowT l R t, List.replicate size 0)) := Lib.hid (by unfold lnE; rw [if_pos hsh, HRW.out])
              have d1 : decide ((s : Int) + (h : Int) ≤ (j : Int)) = false := decide_eq_false (by omega)
              go_wp2_with (first
                | (at_make; refine wpList_make_full _ rfl _ _ 37 rfl w2.heap.size 5 u0 (.int .u8 0) 1 Tryz.underlying37 hu0 uz0 uz1 .i64 .i64 _ _ size rfl rfl rfl rfl (by rw [uz2]; omega) (by unfold maxLen; omega) hzr ?_; intro w4 hown0 hgrow0; have HB4 := Lib.hid ((Below.refl wr.heap.size wr).grown hgrow0 (Nat.le_refl _) (fun k hk => by cases hk)); have HO5 : Hid (w4.ownsRow w2.heap.size 5 1 (.slice (some ⟨wr.heap.size, 0, none⟩) size size) size ((List.replicate size 0).map byteV)) := Lib.hid (by rw [List.map_replicate]; rw [Nat.mul_one] at hown0; exact toList_madeCells_one (.int .u8 0) size ▸ hown0); have hz4 : wr.heap.size ≤ w4.heap.size := HB4.out.size; obtain ⟨e0, e1, e2, e3, e4⟩ := HSAT.out _ (HB2.out.trans ((HB2R.out.trans (HB4.out.mono hzr)).mono HB2.out.size)); clear hown0 hgrow0)
                | (at_builtin; refine wpList_append_own _ rfl (.tmp 68) (.tmp 72) 104 rfl w2.heap.size 160 i0 _ 2 48 Tryz.underlying104 hi hz0 hz1 hz2 rfl (by decide) (.slice ao j co) j cs rfl ((owns_kept HCS.out HB4.out).alloc _) ⟨w4.heap.size, 0, none⟩ 1 1 [.slice (some ⟨wo.heap.size, 0, none⟩) l l, .slice (some ⟨wr.heap.size, 0, none⟩) size size] rfl rfl (World.news_of_block (heap_alloc_new w4 _)) (fun x hx => by simp at hx; rcases hx with rfl | rfl <;> rfl) (by unfold maxLen; omega) (by omega) (by simp; omega) ?_; intro v5 w5 hown1 hgrow1 _; have HB5 := Lib.hid (((HB2R.out.trans (HB4.out.mono hzr)).alloc (Nat.le_trans hzr hz4) _).grown hgrow1 (by simp; omega) (fun k hk => (HCS.out.lt k hk).1)); have HO6 : Hid (LnsOwn w2.heap.size w5 v5 (LT j ++ [(rowT l R t, List.replicate size 0)])) := Lib.hid (LnsOwn.app (q := (rowT l R t, List.replicate size 0)) (by rw [HTL.out]; exact owns_kept HCS.out HB4.out) (fun i hi => by obtain ⟨r, s, k1, k2, k3, k4⟩ := HEL.out i hi; exact ⟨r, s, k1, k2, k3.mono HB4.out, k4.mono HB4.out⟩) (ElAt.own (owns_kept HOW.out HB4.out)) (ElAt.own HO5.out) (by rw [HTL.out]; exact hown1) hgrow1); clear hown1 hgrow1))
              go_roundw
              case rel => exact ⟨j + 1, by omega, by go_num, by rw [HS.out, HEQ.out]; exact HO6.out, HB5.out⟩
              case measure => simp [intOf]; omega
            · obtain ⟨m, hm⟩ : ∃ m, m = j - (s + h) := ⟨_, rfl⟩
              have hmk : m < k := by have := HLS.out; omega
              have HEQ : Hid (lnE l size (s + h) R M j = (rowT l R t, M.getD m [])) := Lib.hid (by unfold lnE; rw [if_neg hsh, HRW.out, hm])
              have d1 : decide ((s : Int) + (h : Int) ≤ (j : Int)) = true := decide_eq_true (by omega)
              have hw1 : IntKind.i64.wrap ((j : Int) - (s : Int)) = (j : Int) - (s : Int) := IntWalk.i64_in _ (by omega)
              have hw2 : IntKind.i64.wrap ((j : Int) - (s : Int) - (h : Int)) = (m : Int) := by rw [IntWalk.i64_in _ (by omega)]; omega
              obtain ⟨bv, ov, rfl, xv, hxv, hlv⟩ := (HV.out.mono HBW2.out).rowAt (i := m) (by rw [HML.out]; exact hmk)
              have hbv := World.block_lt_of_cell? w2 _ hxv
              have HVE := Lib.hid hlv
              obtain ⟨av1, cv1, rfl, -, -, -⟩ := hlv
              clear hm
              generalize M.getD m [] = rm at *
              go_wp2_with (first
                | (at_make; refine wpList_make_full _ rfl _ _ 37 rfl w2.heap.size 5 u0 (.int .u8 0) 1 Tryz.underlying37 hu0 uz0 uz1 .i64 .i64 _ _ size rfl rfl rfl rfl (by rw [uz2]; omega) (by unfold maxLen; omega) hzr ?_; intro w4 hown0 hgrow0; have HB4 := Lib.hid ((Below.refl wr.heap.size wr).grown hgrow0 (Nat.le_refl _) (fun k hk => by cases hk)); have hz4 : wr.heap.size ≤ w4.heap.size := HB4.out.size; have HB24 := Lib.hid (HB2R.out.trans (HB4.out.mono hzr)); obtain ⟨e0, e1, e2, e3, e4⟩ := HSAT.out _ (HB2.out.trans (HB24.out.mono HB2.out.size)); have hxv4 := (HB24.out.cell (p := ⟨bv, ov + m, none⟩) hbv).trans hxv; clear hown0 hgrow0)
                | (at_builtin; refine wpList_append_own _ rfl (.tmp 68) (.tmp 72) 104 rfl w2.heap.size 160 i0 _ 2 48 Tryz.underlying104 hi hz0 hz1 hz2 rfl (by decide) (.slice ao j co) j cs rfl ((owns_kept HCS.out HB4.out).alloc _) ⟨w4.heap.size, 0, none⟩ 1 1 [.slice (some ⟨wo.heap.size, 0, none⟩) l l, .slice av1 rm.length cv1] rfl rfl (World.news_of_block (heap_alloc_new w4 _)) (fun x hx => by simp at hx; rcases hx with rfl | rfl <;> rfl) (by unfold maxLen; omega) (by omega) (by simp; omega) ?_; intro v5 w5 hown1 hgrow1 _; have HB5 := Lib.hid ((HB24.out.alloc (Nat.le_trans hzr hz4) _).grown hgrow1 (by simp; omega) (fun k hk => (HCS.out.lt k hk).1)); have HO6 : Hid (LnsOwn w2.heap.size w5 v5 (LT j ++ [(rowT l R t, rm)])) := Lib.hid (LnsOwn.app (q := (rowT l R t, rm)) (by rw [HTL.out]; exact owns_kept HCS.out HB4.out) (fun i hi => by obtain ⟨r, s, k1, k2, k3, k4⟩ := HEL.out i hi; exact ⟨r, s, k1, k2, k3.mono HB4.out, k4.mono HB4.out⟩) (ElAt.own (owns_kept HOW.out HB4.out)) (ElAt.old HVE.out HB24.out) (by rw [HTL.out]; exact hown1) hgrow1); clear hown1 hgrow1))
              go_roundw
              case rel => exact ⟨j + 1, by omega, by go_num, by rw [HS.out, HEQ.out]; exact HO6.out, HB5.out⟩
              case measure => simp [intOf]; omega
      · obtain rfl : j = l := by omega
        have HA := Lib.hid ho.at
        obtain ⟨vs, hvs, -⟩ := id ho
        rw [HTL.out] at hvs
        have hvo : ∃ ao co, u10 = .slice ao j co := by
          rcases hvs.2 with ⟨rfl, h0⟩ | ⟨g, cap, cur, rfl, -⟩
          · exact ⟨none, 0, by rw [h0]⟩
          · exact ⟨_, _, rfl⟩
        obtain ⟨ao, co, rfl⟩ := hvo
        clear ho hbel hvs
        go_wp2
        go_ret
        exact ⟨_, rfl, HA.out, HBW2.out.trans (HBL.out.mono HBW2.out.size)⟩
end Go.Proofs.YtkhdjjcflbdegaaGreatDoor
end
