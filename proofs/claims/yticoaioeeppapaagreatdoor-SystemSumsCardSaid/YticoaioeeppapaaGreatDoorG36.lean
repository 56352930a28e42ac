import Derived.Test.YticoaioeeppapaaGreatDoorG35
import Derived.Test.YticoaioeeppapaaGreatDoorG28
import Derived.Test.YticoaioeeppapaaGreatDoorG26
import Derived.Test.YticoaioeeppapaaGreatDoorG12
import Derived.Test.YticoaioeeppapaaGreatDoorG08
import Derived.Test.YticoaioeeppapaaGreatDoorG29
import Derived.Lib.SliceRun
import Derived.Deep.AppendLies
import Derived.Deep.RegionLaw
import Derived.Laws.Rows
import Derived.Test.YticoaioeeppapaaGreatDoorG33

section
/- The document's answers for layer 11: Holds, where it does. -/
namespace Go.Proofs.YticoaioeeppapaaGreatDoor
open Go.RowKit Go.Extern.Stop Go.Stop Go.Extern

/-- What each row's sum has to be. -/
def wantH (s h size : Nat) (S : List (List Nat)) (i : Nat) : List Nat := if i < s + h then List.replicate size 0 else S.getD (i - s - h) []
theorem rowsA_len {k s h l p seed : Nat} {ns : List Nat} (hl : l = k + s + h) : ∀ r ∈ rowsA k s h l p seed ns, r.length ≤ l + 1 := fun r hr => by
  rcases List.mem_append.1 hr with hr | hr
  · rcases List.mem_append.1 (show r ∈ (List.range s).map (rowL k s) ++ (List.range h).map (rowH k s (graysE k s h)) from hr) with hr | hr
    · obtain ⟨i, _, rfl⟩ := List.mem_map.1 hr
      have := rowL_len k s i
      omega
    · obtain ⟨i, _, rfl⟩ := List.mem_map.1 hr
      have := rowH_len k s (graysE k s h) i
      omega
  · obtain ⟨e, _, rfl⟩ := List.mem_map.1 hr
    have := rowE_len l p seed e
    omega
theorem rowsA_getD {k s h l p seed i : Nat} {ns : List Nat} (hl : l = k + s + h) (hi : i < s + h + ns.length) : ∀ c ∈ (rowsA k s h l p seed ns).getD i [], c < l := by
  have hm : (rowsA k s h l p seed ns).getD i [] ∈ rowsA k s h l p seed ns := getD_mem_row (by rw [rowsA_length]; exact hi)
  exact (rowsA_in hl _ hm).1

set_option maxRecDepth 1000000 in
set_option maxHeartbeats 4000000 in
theorem Holds_any {w : World} (k s h l p seed size : Nat) (v1 v2 : Value) (S V : List (List Nat)) (H : OfP k s h l p) (hk1 : 1 ≤ k) (hk2 : k ≤ 128) (hs : seed < 65536) (hz1 : 1 ≤ size) (hz2 : size ≤ 64) (hS : MatAt byteV w v1 S) (hSk : S.length = k) (hM : MatAt byteV w v2 V) (hVl : V.length = l) (hVr : ∀ r ∈ V, r.length = size ∧ Octets r)
    (hh : ∀ i, i < s + h + k → sumS size (((rowsA k s h l p seed (List.range k)).getD i []).map fun c => V.getD c []) = wantH s h size S i) :
    Calls Tryz.prog 25 #[parV k s h l p, .int .i64 (seed : Int), v1, .int .i64 (size : Int), v2] w fun e w' => e = .returned (.bool true) ∧ Below w.heap.size w w' := by
  obtain ⟨i0, hi, iz0, iz1, iz2⟩ := info_parts info_u8
  obtain ⟨b1, b2, b3, b4, b5, b6, b7⟩ := H.bounds hk1 hk2
  obtain ⟨w0, hw0, hb0, hbx⟩ := par_laid w k s h l p
  have HW0 := Lib.hid hw0
  have HB0 := Lib.hid hb0
  have HBX := Lib.hid hbx
  obtain ⟨c0, c1, c2, c3, c4⟩ := hbx.cells
  have hl := H.2.2.1
  have HCK : Hid (Calls Tryz.prog 27 #[v2, .int .i64 (size : Int)] w0 fun e w' => e = .returned (.int .i64 0) ∧ w0 = w') := Lib.hid (by
    have := sCheck_any v2 V (size : Int) (hM.mono hb0) (by omega)
    rwa [checkS_ok hz1 hz2 fun r hr => (hVr r hr).1] at this)
  have HFI : Hid (∀ V, Calls Tryz.prog 20 #[.int .i64 (k : Int)] V fun e w' => ∃ v, e = .returned v ∧ ListAt colV w' v (List.range k) ∧ Below V.heap.size V w') := Lib.hid fun V => r11First_any k (by omega)
  have HPL : Hid (∀ (V : World) (v : Value), ListAt colV V v (List.range k) → Calls Tryz.prog 38 #[.agg #[.int .i64 (k : Int), .int .i64 (s : Int), .int .i64 (h : Int), .int .i64 (l : Int), .int .i64 (p : Int)], .int .i64 (seed : Int), v] V fun e w' => ∃ v', e = .returned v' ∧ MatFresh colV 3 V.heap.size 24 w' v' (rowsA k s h l p seed (List.range k)) ∧ Below V.heap.size V w') := Lib.hid fun V v hv => rPlaces_any k s h l p seed v (List.range k) H hk1 hk2 hs hv (range_lt k (by omega)) (by rw [List.length_range]; omega)
  have HLT : Hid (∀ i, i < s + h + k → ∀ c ∈ (rowsA k s h l p seed (List.range k)).getD i [], c < l) := Lib.hid fun i hi => rowsA_getD hl (by rw [List.length_range]; exact hi)
  have HRL : Hid ((rowsA k s h l p seed (List.range k)).length = s + h + k) := Lib.hid (by rw [rowsA_length, List.length_range])
  have HRB : Hid (∀ i, i < s + h + k → ((rowsA k s h l p seed (List.range k)).getD i []).length ≤ 200) := Lib.hid fun i hi => by
    have hm : (rowsA k s h l p seed (List.range k)).getD i [] ∈ rowsA k s h l p seed (List.range k) := getD_mem_row (by rw [rowsA_length, List.length_range]; exact hi)
    have := rowsA_len (p := p) (seed := seed) hl _ hm
    omega
  have HS := Lib.hid hS
  have HM := Lib.hid hM
  have HVL := Lib.hid hVl
  have HVR := Lib.hid hVr
  have HH := Lib.hid hh
  have HSK := Lib.hid hSk
  have hne : ((l : Int) != (l : Int)) = false := by simp
  obtain ⟨a1, q1, rfl, -, -, -⟩ := hS.opens
  obtain ⟨a2, q2, rfl, -, -, -⟩ := hM.opens
  rw [hSk, hVl]
  rw [hVl] at HCK HM
  rw [hSk] at HS
  have HKL : Hid (l = k + s + h) := Lib.hid hl
  clear hw0 hb0 hbx H hk1 hk2 hs hS hM hVr hh hl hSk hVl b1 b2 b3 b4 b6 b7
  generalize rowsA k s h l p seed (List.range k) = R at *
  unfold parV parC
  go_enter Tryz.func25, Tryz.ntmps25
  go_upto_region 1 with fail
  rw [← HW0.out]
  go_wp2_with fail
  refine HCK.out.mono ?_
  rintro e w1 ⟨rfl, rfl⟩
  have hd0 : Below w0.heap.size w0 w0.drew := (Below.refl _ _).drew
  have HD0 := Lib.hid hd0
  have HSAT : Hid (∀ V, Below w0.drew.heap.size w0.drew V → V.cell? ⟨w.heap.size, 0, none⟩ = some (.int .i64 (k : Int)) ∧ V.cell? ⟨w.heap.size, 1, none⟩ = some (.int .i64 (s : Int)) ∧ V.cell? ⟨w.heap.size, 2, none⟩ = some (.int .i64 (h : Int)) ∧ V.cell? ⟨w.heap.size, 3, none⟩ = some (.int .i64 (l : Int)) ∧ V.cell? ⟨w.heap.size, 4, none⟩ = some (.int .i64 (p : Int))) := Lib.hid fun V hV => ((HBX.out.mono hd0).mono hV).cells
  have HSD0 := Lib.hid (HSAT.out w0.drew (Below.refl _ _))
  clear hd0 c0 c1 c2 c3 c4
  go_wp2_with fail
  go_region_held3 (fun w' => w'.cell? ⟨w.heap.size, 0, none⟩ = some (.int .i64 (k : Int)) ∧ w'.cell? ⟨w.heap.size, 1, none⟩ = some (.int .i64 (s : Int)) ∧ w'.cell? ⟨w.heap.size, 2, none⟩ = some (.int .i64 (h : Int)) ∧ w'.cell? ⟨w.heap.size, 3, none⟩ = some (.int .i64 (l : Int)) ∧ w'.cell? ⟨w.heap.size, 4, none⟩ = some (.int .i64 (p : Int)))
    (first | exact HSD0.out | exact HSAT.out _ HB4.out | exact HSAT.out _ HB3.out | go_keep)
    (first
    | (go_at_call 20; (with_reducible refine (HFI.out _).mono ?_); rintro e w3 ⟨v3, rfl, hl3, hb3⟩; have HB3 := Lib.hid hb3; have HP3 := Lib.hid (HPL.out w3 v3 hl3); clear hl3 hb3)
    | (go_at_call 38; (with_reducible refine HP3.out.mono ?_); rintro e w4 ⟨v4, rfl, hm4, hb4⟩; have HM4 := Lib.hid hm4.own.at; have HB4 := Lib.hid (HB3.out.trans (hb4.mono HB3.out.size)); clear hb4 hm4))
  all_goals
    have HBW := Lib.hid (HB0.out.trans ((HD0.out.trans (HB4.out.mono HD0.out.size)).mono HB0.out.size))
    obtain ⟨a4, q4, rfl, -, -, hcell⟩ := HM4.out.opens
    have HC := Lib.hid hcell
    have HX4 := Lib.hid (HBX.out.mono (HD0.out.trans (HB4.out.mono HD0.out.size)))
    have hrl := HRL.out
    rw [hrl] at hcell ⊢
    clear hcell HSAT HSD0 HB4 HB3 HP3 HFI HPL
  all_goals
    have hkl := HKL.out
    have hsh : s + h ≤ 157 := by omega
    obtain ⟨n, hn⟩ : ∃ n, s + h + k = n := ⟨_, rfl⟩
    have HNN := Lib.hid hn
    rw [hn] at HLT HRB HH hrl ⊢
    have hnb : n ≤ 400 := by omega
    clear hkl
    have HRLN := Lib.hid hrl
    clear hn hrl HRL
    go_wp2_with fail
    go_loopw [12] (fun i wr => ∃ j : Nat, j ≤ n ∧ i = .int .i64 j ∧ Below w4.heap.size w4 wr) (fun i _ => n - (intOf i).toNat)
    case atStart => exact ⟨0, Nat.zero_le _, rfl, Below.refl _ _⟩
    case round =>
      obtain ⟨j, hj, rfl, hbel⟩ := hrel
      have HBL := Lib.hid hbel
      by_cases hlt : j < n
      · obtain ⟨br, or, rfl, hcc⟩ := HC.out (by rw [HRLN.out]; omega)
        obtain ⟨x, hx, hlx⟩ := hcc j (by rw [HRLN.out]; exact hlt)
        have HX := Lib.hid hx
        have HLX := Lib.hid hlx
        have HHJ := Lib.hid (HH.out j hlt)
        have hrbj := HRB.out j hlt
        have HLJ := Lib.hid (HLT.out j hlt)
        obtain ⟨ax, cx, hxe, -, -, -⟩ := hlx
        subst hxe
        by_cases hjs : j < s + h
        · have hdec : decide ((s : Int) + (h : Int) ≤ (j : Int)) = false := decide_eq_false (by omega)
          have HWE : Hid (wantH s h size S j = List.replicate size 0) := Lib.hid (if_pos hjs)
          clear hcc hx hbel hjs
          go_wp2_with (at_make; refine wpList_make_full _ rfl _ _ 52 rfl wr.heap.size 5 i0 (.int .u8 0) 1 Tryz.underlying52 hi iz0 iz1 .i64 .i64 _ _ size rfl rfl rfl rfl (by rw [iz2]; omega) (by unfold maxLen; omega) (Nat.le_refl _) ?_; intro w5 hown0 hgrow0; have HB5 := Lib.hid (HBL.out.trans (((Below.refl wr.heap.size wr).grown hgrow0 (Nat.le_refl _) (fun k hk => by cases hk)).mono HBL.out.size)); have HO5 := Lib.hid hown0; clear hown0 hgrow0; obtain ⟨c0, c1, c2, c3, c4⟩ := (HX4.out.mono HB5.out).cells)
          have HWA : Hid (ListAt byteV w5 (.slice (some ⟨wr.heap.size, 0, none⟩) size size) (List.replicate size 0)) := Lib.hid (by
            have := HO5.out
            rw [Nat.mul_one] at this
            refine ListAt.of_owns (f := byteV) (base := wr.heap.size) (n := size) (e := 5) ?_
            rw [List.map_replicate]
            exact toList_madeCells_one (.int .u8 0) size ▸ this)
          have hdr : Below w5.heap.size w5 w5.drew := (Below.refl _ _).drew
          have hbd := HB5.out.trans (hdr.mono HB5.out.size)
          have HBD := Lib.hid hbd
          have hcx : w5.drew.cell? ⟨br, or + j, none⟩ = some (.slice ax (R.getD j []).length cx) := (hbd.cell (p := ⟨br, or + j, none⟩) (World.block_lt_of_cell? w4 _ HX.out)).trans HX.out
          have HSUM := Lib.hid (r11Sum_any (w := w5.drew) (.slice ax (R.getD j []).length cx) (.slice a2 l q2) (R.getD j []) V size (HLX.out.mono hbd) (HM.out.mono (HBW.out.trans (hbd.mono HBW.out.size))) (by rw [HVL.out]; exact HLJ.out) (by omega) (fun r hr => (HVR.out r hr).1) (fun r hr => (HVR.out r hr).2) (by omega))
          have HWD := Lib.hid (HWA.out.mono hdr)
          have hk0 := HWD.out.str
          clear hdr hbd c0 c1 c2 c3 c4
          generalize (R.getD j []).length = rl at *
          go_wp2_with fail
          go_region_law (first
            | (go_simp; go_at_call 52; refine HSUM.out.mono ?_; rintro e w6 ⟨v6, rfl, ho6, hb6⟩; rw [HHJ.out, HWE.out] at ho6; have HB6 := Lib.hid (HBD.out.trans (hb6.mono HBD.out.size)); have hk1 := (HWD.out.mono hb6).str; have hk2 := (ListAt.of_owns ho6).str; obtain ⟨a6, q6, rfl, -, -⟩ := own_open ho6; clear ho6 hb6))
          all_goals go_wp2
          all_goals exact ⟨⟨j + 1, by omega, by go_num, HB6.out⟩, by simp [intOf]; omega⟩
        · obtain ⟨t, ht⟩ : ∃ t : Nat, (j : Int) - (s : Int) - (h : Int) = (t : Int) := ⟨j - s - h, by omega⟩
          have htk : t < k := by have := HNN.out; omega
          have hdec : decide ((s : Int) + (h : Int) ≤ (j : Int)) = true := decide_eq_true (by omega)
          have HWE : Hid (wantH s h size S j = S.getD t []) := Lib.hid (by
            unfold wantH
            rw [if_neg hjs]
            congr 1
            omega)
          obtain ⟨as1, cs1, hse, -, -, hsc⟩ := HS.out.opens
          rw [HSK.out] at hse
          cases hse
          obtain ⟨bs, os1, rfl, hsd⟩ := hsc (by rw [HSK.out]; omega)
          obtain ⟨y, hy, hly⟩ := hsd t (by rw [HSK.out]; exact htk)
          have HLY := Lib.hid hly
          have HY : Hid (∀ U, Below w4.heap.size w4 U → U.cell? ⟨bs, os1 + t, none⟩ = some y) := Lib.hid fun U hU => ((HBW.out.trans (hU.mono HBW.out.size)).cell (p := ⟨bs, os1 + t, none⟩) (World.block_lt_of_cell? w _ hy)).trans hy
          obtain ⟨ay, cy, hye, -, -, -⟩ := hly
          subst hye
          clear hcc hx hbel hjs hsc hsd hy
          generalize (S.getD t []).length = sl at *
          go_wp2_with (at_make; refine wpList_make_full _ rfl _ _ 52 rfl wr.heap.size 5 i0 (.int .u8 0) 1 Tryz.underlying52 hi iz0 iz1 .i64 .i64 _ _ size rfl rfl rfl rfl (by rw [iz2]; omega) (by unfold maxLen; omega) (Nat.le_refl _) ?_; intro w5 hown0 hgrow0; have HB5 := Lib.hid (HBL.out.trans (((Below.refl wr.heap.size wr).grown hgrow0 (Nat.le_refl _) (fun k hk => by cases hk)).mono HBL.out.size)); have HO5 := Lib.hid hown0; clear hown0 hgrow0; have hcy := HY.out _ HB5.out; obtain ⟨c0, c1, c2, c3, c4⟩ := (HX4.out.mono HB5.out).cells)
          have HWA : Hid (ListAt byteV w5 (.slice ay sl cy) (S.getD t [])) := Lib.hid (HLY.out.mono (HBW.out.trans (HB5.out.mono HBW.out.size)))
          have hdr : Below w5.heap.size w5 w5.drew := (Below.refl _ _).drew
          have hbd := HB5.out.trans (hdr.mono HB5.out.size)
          have HBD := Lib.hid hbd
          have hcx : w5.drew.cell? ⟨br, or + j, none⟩ = some (.slice ax (R.getD j []).length cx) := (hbd.cell (p := ⟨br, or + j, none⟩) (World.block_lt_of_cell? w4 _ HX.out)).trans HX.out
          have HSUM := Lib.hid (r11Sum_any (w := w5.drew) (.slice ax (R.getD j []).length cx) (.slice a2 l q2) (R.getD j []) V size (HLX.out.mono hbd) (HM.out.mono (HBW.out.trans (hbd.mono HBW.out.size))) (by rw [HVL.out]; exact HLJ.out) (by omega) (fun r hr => (HVR.out r hr).1) (fun r hr => (HVR.out r hr).2) (by omega))
          have HWD := Lib.hid (HWA.out.mono hdr)
          have hk0 := HWD.out.str
          clear hdr hbd c0 c1 c2 c3 c4
          generalize (R.getD j []).length = rl at *
          go_wp2_with fail
          go_region_law (first
            | (go_simp; go_at_call 52; refine HSUM.out.mono ?_; rintro e w6 ⟨v6, rfl, ho6, hb6⟩; rw [HHJ.out, HWE.out] at ho6; have HB6 := Lib.hid (HBD.out.trans (hb6.mono HBD.out.size)); have hk1 := (HWD.out.mono hb6).str; have hk2 := (ListAt.of_owns ho6).str; obtain ⟨a6, q6, rfl, -, -⟩ := own_open ho6; clear ho6 hb6))
          all_goals go_wp2
          all_goals exact ⟨⟨j + 1, by omega, by go_num, HB6.out⟩, by simp [intOf]; omega⟩
      · obtain rfl : j = n := by omega
        go_wp2
        go_ret
        exact ⟨rfl, HBW.out.trans (HBL.out.mono HBW.out.size)⟩
end Go.Proofs.YticoaioeeppapaaGreatDoor
end

section
/- Package elim: formed, over, Rank, Clashed, Whole; slices.Clone; (equation).clone. -/
namespace Go.Proofs.YticoaioeeppapaaGreatDoor
open Go.RowKit Go.Extern.Stop Go.Stop Go.Extern

theorem eshr_zero (x b : Nat) : (((x : Int) / 2 ^ b) == 0) = decide (x / 2 ^ b = 0) := by
  have e : ((x : Int) / 2 ^ b) = ((x / 2 ^ b : Nat) : Int) := by simp
  rw [e]
  by_cases h : x / 2 ^ b = 0
  · rw [h]; rfl
  · rw [decide_eq_false h]
    simp only [beq_eq_false_iff_ne, ne_eq]
    omega

set_option maxRecDepth 1000000 in
theorem eformed_any {w : World} (v : Value) (r : List Nat) (n : Nat) (h : ListAt wordV w v r) (hw : Word r) (hn : n ≤ 4096) :
    Calls Tryz.prog 105 #[v, .int .i64 (n : Int)] w fun e w' => e = .returned (.bool (wholeB n r)) ∧ w = w' := by
  have hlen := h.len
  have HS := Lib.hid (sizeI_of hn)
  have hK := kOf_le hn
  obtain ⟨a, cap, rfl, hcap, -, hcell⟩ := h
  by_cases hl : r.length = kOf n
  · have hwl := whole_last hw hl
    by_cases h0 : n % 64 = 0
    · have HR : Hid (wholeB n r = true) := Lib.hid (by rw [hwl, decide_eq_true h0]; rfl)
      have hb : ((r.length : Int) == (kOf n : Int)) = true := by simp; omega
      have hb2 : ((r.length : Int) != (kOf n : Int)) = false := by simp; omega
      have hm : ((n : Int) % 64 == 0) = true := by simp; omega
      clear hcell hw hwl hl h0
      generalize wholeB n r = R at *
      generalize kOf n = K at *
      go_enter Tryz.func105, Tryz.ntmps105
      go_wp2_with fail
      refine (Size_any (n : Int) (by omega)).mono ?_
      rintro e w1 ⟨rfl, rfl⟩
      rw [HS.out]
      go_wp2
      go_ret
      exact ⟨by rw [HR.out]; rfl, rfl⟩
    · have hlt : n / 64 < r.length := by unfold kOf at hl; omega
      obtain ⟨b, off, rfl, hc⟩ := hcell (by omega)
      have hx := hc (n / 64) hlt
      have e : r[n / 64] = r.getD (n / 64) 0 := by simp [hlt]
      rw [e] at hx
      have hxlt := hw.getD (n / 64)
      have HR : Hid (wholeB n r = decide (r.getD (n / 64) 0 / 2 ^ (n % 64) = 0)) := Lib.hid (by rw [hwl, decide_eq_false h0]; rfl)
      have hb : ((r.length : Int) == (kOf n : Int)) = true := by simp; omega
      have hb2 : ((r.length : Int) != (kOf n : Int)) = false := by simp; omega
      have hm : ((n : Int) % 64 == 0) = false := by simp; omega
      have hlt2 : (n : Int) / 64 < (r.length : Int) := by omega
      have hy : w.cell? ⟨b, off + n / 64, none⟩ = some (.int .u64 ((r.getD (n / 64) 0 : Nat) : Int)) := hx
      clear hcell hw hwl h0 hx hc e
      generalize r.getD (n / 64) 0 = x at *
      have hz := eshr_zero x (n % 64)
      generalize hd : decide (x / 2 ^ (n % 64) = 0) = D at *
      clear hd
      generalize wholeB n r = R at *
      generalize kOf n = K at *
      clear hl
      cases D with
      | true =>
        go_enter Tryz.func105, Tryz.ntmps105
        go_wp2_with fail
        refine (Size_any (n : Int) (by omega)).mono ?_
        rintro e w1 ⟨rfl, rfl⟩
        rw [HS.out]
        go_wp2
        go_ret
        exact ⟨by rw [HR.out]; rfl, rfl⟩
      | false =>
        go_enter Tryz.func105, Tryz.ntmps105
        go_wp2_with fail
        refine (Size_any (n : Int) (by omega)).mono ?_
        rintro e w1 ⟨rfl, rfl⟩
        rw [HS.out]
        go_wp2
        go_ret
        exact ⟨by rw [HR.out]; rfl, rfl⟩
  · have HR := Lib.hid (wholeB_len hl)
    have hb : ((r.length : Int) == (kOf n : Int)) = false := by simp; omega
    have hb2 : ((r.length : Int) != (kOf n : Int)) = true := by simp; omega
    clear hl hcell hw
    generalize wholeB n r = R at *
    generalize kOf n = K at *
    go_enter Tryz.func105, Tryz.ntmps105
    go_wp2_with fail
    refine (Size_any (n : Int) (by omega)).mono ?_
    rintro e w1 ⟨rfl, rfl⟩
    rw [HS.out]
    go_wp2
    go_ret
    exact ⟨by rw [HR.out]; rfl, rfl⟩

/-! ### slices.Clone -/

set_option maxRecDepth 1000000 in
theorem wClone_any {w : World} (v : Value) (r : List Nat) (h : ListAt wordV w v r) (hl : r.length ≤ 100000) :
    Calls Tryz.prog 108 #[v] w fun e w' => ∃ v', e = .returned v' ∧ w'.ownsRow w.heap.size 120 1 v' r.length (r.map wordV) ∧ (v = nilS → v' = nilS) ∧ Below w.heap.size w w' := by
  obtain ⟨i0, hi, hz0, hz1, hz2⟩ := info_parts info_u64
  have HL := Lib.hid h
  obtain ⟨a, cap, rfl, -, -, hc⟩ := h
  cases a with
  | none =>
    have hr : r = [] := by
      apply List.eq_nil_of_length_eq_zero
      apply Nat.eq_zero_of_not_pos
      intro hp
      obtain ⟨b, off, e, _⟩ := hc hp
      cases e
    subst hr
    clear hc
    have hq : (binOp .eql 62 (.slice none 0 cap) (.slice none 0 0)).run Tryz.prog w = .ok (.bool true) w := Lib.run_eql_slice_nil w 62 120 none 0 cap 0 0 Tryz.underlying62
    go_enter Tryz.func108, Tryz.ntmps108
    go_wp2
    go_ret
    exact ⟨_, rfl, World.ownsRow_nil _ _ _ _, fun _ => rfl, Below.refl _ _⟩
  | some ad =>
    clear hc
    have HB0 := Lib.hid ((Below.refl w.heap.size w).alloc (Nat.le_refl _) (.cells #[] 120))
    have HO0 := Lib.hid (World.ownsRow_made (base := w.heap.size) (e := 120) (size := 1) w #[] 0 (Nat.le_refl _) (by decide) rfl)
    have HLA := Lib.hid (HL.out.mono HB0.out)
    have hq : (binOp .eql 62 (.slice (some ad) r.length cap) (.slice none 0 0)).run Tryz.prog w = .ok (.bool false) w := Lib.run_eql_slice_nil w 62 120 (some ad) r.length cap 0 0 Tryz.underlying62
    go_enter Tryz.func108, Tryz.ntmps108
    go_wp2_with (at_builtin; refine wpList_append_of (f := wordV) _ rfl (.tmp 5) (.tmp 6) 62 rfl w.heap.size 120 i0 (.int .u64 0) 8 Tryz.underlying62 hi hz0 hz1 hz2 rfl _ 0 [] rfl HO0.out _ r rfl HLA.out (fun y _ => rfl) (by unfold maxLen; omega) (by omega) (by simp) ?_; intro o w1 hown1 hgrow1; have hb1 := Lib.hid (HB0.out.grown hgrow1 (by simp) (fun k hk => (HO0.out.lt k hk).1)); rw [Nat.zero_add, List.nil_append] at hown1; have ho1 := Lib.hid hown1; clear hown1 hgrow1)
    go_ret
    exact ⟨_, rfl, ho1.out, (by intro h; cases h), hb1.out⟩

set_option maxRecDepth 1000000 in
theorem bClone_any {w : World} (v : Value) (r : List Nat) (h : ListAt byteV w v r) (hl : r.length ≤ 100000) :
    Calls Tryz.prog 109 #[v] w fun e w' => ∃ v', e = .returned v' ∧ w'.ownsRow w.heap.size 5 1 v' r.length (r.map byteV) ∧ (v = nilS → v' = nilS) ∧ Below w.heap.size w w' := by
  obtain ⟨i0, hi, hz0, hz1, hz2⟩ := info_parts info_u8
  have HL := Lib.hid h
  obtain ⟨a, cap, rfl, -, -, hc⟩ := h
  cases a with
  | none =>
    have hr : r = [] := by
      apply List.eq_nil_of_length_eq_zero
      apply Nat.eq_zero_of_not_pos
      intro hp
      obtain ⟨b, off, e, _⟩ := hc hp
      cases e
    subst hr
    clear hc
    have hq : (binOp .eql 52 (.slice none 0 cap) (.slice none 0 0)).run Tryz.prog w = .ok (.bool true) w := Lib.run_eql_slice_nil w 52 5 none 0 cap 0 0 Tryz.underlying52
    go_enter Tryz.func109, Tryz.ntmps109
    go_wp2
    go_ret
    exact ⟨_, rfl, World.ownsRow_nil _ _ _ _, fun _ => rfl, Below.refl _ _⟩
  | some ad =>
    clear hc
    have HB0 := Lib.hid ((Below.refl w.heap.size w).alloc (Nat.le_refl _) (.cells #[] 5))
    have HO0 := Lib.hid (World.ownsRow_made (base := w.heap.size) (e := 5) (size := 1) w #[] 0 (Nat.le_refl _) (by decide) rfl)
    have HLA := Lib.hid (HL.out.mono HB0.out)
    have hq : (binOp .eql 52 (.slice (some ad) r.length cap) (.slice none 0 0)).run Tryz.prog w = .ok (.bool false) w := Lib.run_eql_slice_nil w 52 5 (some ad) r.length cap 0 0 Tryz.underlying52
    go_enter Tryz.func109, Tryz.ntmps109
    go_wp2_with (at_builtin; refine wpList_append_of (f := byteV) _ rfl (.tmp 5) (.tmp 6) 52 rfl w.heap.size 5 i0 (.int .u8 0) 1 Tryz.underlying52 hi hz0 hz1 hz2 rfl _ 0 [] rfl HO0.out _ r rfl HLA.out (fun y _ => rfl) (by unfold maxLen; omega) (by omega) (by simp) ?_; intro o w1 hown1 hgrow1; have hb1 := Lib.hid (HB0.out.grown hgrow1 (by simp) (fun k hk => (HO0.out.lt k hk).1)); rw [Nat.zero_add, List.nil_append] at hown1; have ho1 := Lib.hid hown1; clear hown1 hgrow1)
    go_ret
    exact ⟨_, rfl, ho1.out, (by intro h; cases h), hb1.out⟩


/-! ### what a system tells of itself -/
abbrev sysP (b : Nat) : Value := .pointer (some ⟨b, 0, none⟩)
abbrev nilP : Value := .pointer none

theorem over_nil {w : World} : Calls Tryz.prog 78 #[nilP] w fun e w' => e = .returned (.bool true) ∧ w = w' := by
  go_enter Tryz.func78, Tryz.ntmps78
  go_wp2
  go_ret
  exact ⟨rfl, rfl⟩
theorem over_any {w : World} (b : Nat) (cl : Bool) (h : w.cell? ⟨b, 4, none⟩ = some (.bool cl)) : Calls Tryz.prog 78 #[sysP b] w fun e w' => e = .returned (.bool cl) ∧ w = w' := by
  go_enter Tryz.func78, Tryz.ntmps78
  go_wp2
  go_ret
  exact ⟨rfl, rfl⟩
theorem below_drawn {w : World} (n : Nat) : Below w.heap.size w (w.drewN n) := below_draws (Below.refl _ _) n
theorem elWhole_nil {w : World} : Calls Tryz.prog 79 #[nilP] w fun e w' => e = .returned (.bool false) ∧ Below w.heap.size w w' := by
  have HCall : Hid (∀ nd, Calls Tryz.prog 78 #[nilP] (w.drewN nd) fun e w' => e = .returned (.bool true) ∧ w' = w.drewN nd) := Lib.hid fun nd => over_nil.mono (by rintro e w' ⟨rfl, rfl⟩; exact ⟨rfl, rfl⟩)
  go_enter Tryz.func79, Tryz.ntmps79
  go_wp2_with fail
  go_quiet (exact Calls.quiet_of_same (HCall.out _))
  go_wp2
  go_ret
  exact ⟨rfl, below_drawn _⟩
theorem elWhole_any {w : World} (b n r : Nat) (cl : Bool) (h0 : w.cell? ⟨b, 0, none⟩ = some (.int .i64 (n : Int))) (h3 : w.cell? ⟨b, 3, none⟩ = some (.int .i64 (r : Int))) (h4 : w.cell? ⟨b, 4, none⟩ = some (.bool cl)) :
    Calls Tryz.prog 79 #[sysP b] w fun e w' => e = .returned (.bool (!cl && decide (r = n))) ∧ Below w.heap.size w w' := by
  have HCall : Hid (∀ nd, Calls Tryz.prog 78 #[sysP b] (w.drewN nd) fun e w' => e = .returned (.bool cl) ∧ w' = w.drewN nd) := Lib.hid fun nd => (over_any b cl (((below_drawn nd).cell (p := ⟨b, 4, none⟩) (World.block_lt_of_cell? w _ h4)).trans h4)).mono (by rintro e w' ⟨rfl, rfl⟩; exact ⟨rfl, rfl⟩)
  have he : ((r : Int) == (n : Int)) = decide (r = n) := by
    by_cases e : r = n
    · simp [e]
    · rw [decide_eq_false e]; simp; omega
  have HE := Lib.hid he
  cases cl with
  | true =>
    clear he
    go_enter Tryz.func79, Tryz.ntmps79
    go_wp2_with fail
    go_quiet (exact Calls.quiet_of_same (HCall.out _))
    go_wp2
    go_ret
    exact ⟨rfl, below_drawn _⟩
  | false =>
    generalize decide (r = n) = D at *
    go_enter Tryz.func79, Tryz.ntmps79
    go_wp2_with fail
    go_quiet (exact Calls.quiet_of_same (HCall.out _))
    go_wp2
    go_ret
    exact ⟨by simp, below_drawn _⟩

/-! ### (equation).clone -/
theorem eq_laid (w : World) (r s : Value) : ∃ w0, w0 = (w.alloc (.cells #[r, s] 132)).alloc (.cells #[nilS, nilS] 132) ∧ Below w.heap.size w w0 ∧ w0.heap.size = w.heap.size + 2 ∧
    w0.cell? ⟨w.heap.size, 0, none⟩ = some r ∧ w0.cell? ⟨w.heap.size, 1, none⟩ = some s ∧ w0.heap[w.heap.size + 1]? = some (.cells #[nilS, nilS] 132 (0, 0)) := by
  have h1 : (w.alloc (.cells #[r, s] 132)).heap[w.heap.size]? = some (.cells #[r, s] 132 (0, 0)) := heap_alloc_new w _
  have hz : (w.alloc (.cells #[r, s] 132)).heap.size = w.heap.size + 1 := World.size_alloc _ _
  have h2 : ((w.alloc (.cells #[r, s] 132)).alloc (.cells #[nilS, nilS] 132)).heap[w.heap.size]? = some (.cells #[r, s] 132 (0, 0)) := by
    rw [Below.heap_alloc _ _ _ (by omega)]; exact h1
  refine ⟨_, rfl, ((Below.refl _ _).alloc (Nat.le_refl _) _).alloc (by omega) _, by rw [World.size_alloc, hz], cell_of_heap h2 rfl, cell_of_heap h2 rfl, ?_⟩
  have := heap_alloc_new (w.alloc (.cells #[r, s] 132)) (.cells #[nilS, nilS] 132)
  rwa [hz] at this

set_option maxRecDepth 1000000 in
set_option maxHeartbeats 1000000 in
theorem eqClone_any {w : World} (vr vs : Value) (r s : List Nat) (h1 : ListAt wordV w vr r) (h2 : ListAt byteV w vs s) (hl : r.length ≤ 100000) (hl2 : s.length ≤ 100000) :
    Calls Tryz.prog 75 #[.agg #[vr, vs]] w fun e w' => ∃ v1 v2, e = .returned (.agg #[v1, v2]) ∧ w'.ownsRow w.heap.size 120 1 v1 r.length (r.map wordV) ∧ w'.ownsRow w.heap.size 5 1 v2 s.length (s.map byteV) ∧
      (vr = nilS → v1 = nilS) ∧ (vs = nilS → v2 = nilS) ∧ Below w.heap.size w w' := by
  obtain ⟨w0, hw0, hb0, hs0, hc1, hc2, hres⟩ := eq_laid w vr vs
  have HB0 := Lib.hid hb0
  have HW0 := Lib.hid hw0
  have HRES := Lib.hid hres
  have HR := Lib.hid (h1.mono hb0)
  have HS := Lib.hid (h2.mono hb0)
  clear hb0 hw0 hres h1 h2
  have hbd : Below w0.heap.size w0 w0.drew := (Below.refl _ _).drew
  have HRD := Lib.hid (HR.out.mono hbd)
  have HSD := Lib.hid (HS.out.mono hbd)
  have HC2 : Hid (w0.drew.cell? ⟨w.heap.size, 1, none⟩ = some vs) := Lib.hid hc2
  have HRESD : Hid (w0.drew.heap[w.heap.size + 1]? = some (.cells #[nilS, nilS] 132 (0, 0))) := Lib.hid HRES.out
  have HBD := Lib.hid HB0.out.drew
  have hsz : w0.drew.heap.size = w.heap.size + 2 := hs0
  clear hbd
  go_enter Tryz.func75, Tryz.ntmps75
  go_wp2_with fail
  rw [← HW0.out]
  go_region_law (first
    | (go_simp; go_at_call 108; refine (wClone_any _ r HRD.out hl).mono ?_; rintro e wA ⟨vA, rfl, hoA, hnA, hbA⟩; have hcA : wA.cell? ⟨w.heap.size, 1, none⟩ = some vs := (hbA.cell (p := ⟨w.heap.size, 1, none⟩) (show w.heap.size < w0.drew.heap.size by omega)).trans HC2.out; have HRESA := Lib.hid ((hbA.block (w.heap.size + 1) (by omega)).trans HRESD.out); have HOA := Lib.hid (ownsRow_base hoA (show w.heap.size ≤ w0.drew.heap.size by omega)); have HSA := Lib.hid (HSD.out.mono hbA); have HBA := Lib.hid (HBD.out.trans (hbA.mono (by omega))); have hszA : w.heap.size + 2 ≤ wA.heap.size := (by have := hbA.size; omega); have HNA := Lib.hid hnA; obtain ⟨aA, cA, rfl, -, -⟩ := own_open hoA; clear hoA hnA hbA)
    | (go_simp; go_at_call 109; refine (bClone_any _ s HSA.out hl2).mono ?_; rintro e wB ⟨vB, rfl, hoB, hnB, hbB⟩; have hRB := (hbB.block (w.heap.size + 1) (by omega)).trans HRESA.out; have HRB := Lib.hid hRB; have hcB0 := cell_of_heap (j := 0) (u := nilS) hRB rfl; have hcB1 := cell_of_heap (j := 1) (u := nilS) hRB rfl; have hfB0 := frozen_of_heap (j := 0) hRB; have hfB1 := frozen_of_heap (j := 1) hRB; have HOB := Lib.hid hoB; have HOA2 := Lib.hid (owns_kept HOA.out hbB); have HNB := Lib.hid hnB; have HBB := Lib.hid (HBA.out.trans (hbB.mono (by omega))); obtain ⟨aB, cB, rfl, -, -⟩ := own_open hoB; clear hoB hnB hbB hRB))
  all_goals
    have HRES1 := Lib.hid (heap_setCell_at (j := 1) (u := .slice aB s.length cB) (heap_setCell_at (j := 0) (u := .slice aA r.length cA) HRB.out))
    have HO1 := Lib.hid (own_set (own_set HOA2.out HRB.out (by decide) 0 (.slice aA r.length cA)) (heap_setCell_at (j := 0) (u := .slice aA r.length cA) HRB.out) (by decide) 1 (.slice aB s.length cB))
    have HO2 := Lib.hid (own_set (own_set (ownsRow_base HOB.out (show w.heap.size ≤ wA.heap.size by omega)) HRB.out (by decide) 0 (.slice aA r.length cA)) (heap_setCell_at (j := 0) (u := .slice aA r.length cA) HRB.out) (by decide) 1 (.slice aB s.length cB))
    have HBF := Lib.hid ((HBB.out.setCell (p := ⟨w.heap.size + 1, 0, none⟩) (Nat.le_succ _) (.slice aA r.length cA)).setCell (p := ⟨w.heap.size + 1, 1, none⟩) (Nat.le_succ _) (.slice aB s.length cB))
    go_wp2
    refine bodyPost_ret (results_cell_row rfl _ _ (w.heap.size + 1) 132 _ (0, 0) _ rfl HRES1.out Tryz.underlying132 rfl (by kernel_rfl)) rfl ?_
    exact ⟨_, _, rfl, HO1.out, HO2.out, HNA.out, HNB.out, HBF.out⟩
end Go.Proofs.YticoaioeeppapaaGreatDoor
end

section
/- Package elim: (equation).add. -/
namespace Go.Proofs.YticoaioeeppapaaGreatDoor
open Go.RowKit Go.Extern.Stop Go.Stop Go.Extern

theorem eq2_laid (w : World) (r s r2 s2 : Value) : ∃ wz, wz = (w.alloc (.cells #[r, s] 132)).alloc (.cells #[r2, s2] 132) ∧ Below w.heap.size w wz ∧ wz.heap.size = w.heap.size + 2 ∧
    wz.cell? ⟨w.heap.size, 0, none⟩ = some r ∧ wz.cell? ⟨w.heap.size, 1, none⟩ = some s ∧ wz.cell? ⟨w.heap.size + 1, 0, none⟩ = some r2 ∧ wz.cell? ⟨w.heap.size + 1, 1, none⟩ = some s2 := by
  have h1 : (w.alloc (.cells #[r, s] 132)).heap[w.heap.size]? = some (.cells #[r, s] 132 (0, 0)) := heap_alloc_new w _
  have hz : (w.alloc (.cells #[r, s] 132)).heap.size = w.heap.size + 1 := World.size_alloc _ _
  have h2 : ((w.alloc (.cells #[r, s] 132)).alloc (.cells #[r2, s2] 132)).heap[w.heap.size]? = some (.cells #[r, s] 132 (0, 0)) := by
    rw [Below.heap_alloc _ _ _ (by omega)]; exact h1
  have h3 := heap_alloc_new (w.alloc (.cells #[r, s] 132)) (.cells #[r2, s2] 132)
  rw [hz] at h3
  exact ⟨_, rfl, ((Below.refl _ _).alloc (Nat.le_refl _) _).alloc (by omega) _, by rw [World.size_alloc, hz], cell_of_heap h2 rfl, cell_of_heap h2 rfl, cell_of_heap h3 rfl, cell_of_heap h3 rfl⟩

theorem own_block_ne {w : World} {e e' : TypeId} {g g' n n' c c' B B' : Nat} {xs xs' : List Value} (h : w.ownsRow B e 1 (.slice (some ⟨g, 0, none⟩) n c) n xs) (h' : w.ownsRow B' e' 1 (.slice (some ⟨g', 0, none⟩) n' c') n' xs') (hne : e ≠ e') : g ≠ g' := by
  rintro rfl
  rcases h.2 with ⟨h1, _⟩ | ⟨b, cap, cur, h1, h2, h3, _⟩
  · cases h1
  · rcases h'.2 with ⟨k1, _⟩ | ⟨b', cap', cur', k1, k2, k3, _⟩
    · cases k1
    · have e1 : g = b := by simpa [Value.ownBlock] using congrArg Value.ownBlock h1
      have e2 : g = b' := by simpa [Value.ownBlock] using congrArg Value.ownBlock k1
      subst e1
      subst e2
      rw [h3] at k3
      simp at k3
      exact hne k3.2

theorem ListAt.wordsN {w : World} {v : Value} {l : List Nat} (h : ListAt wordV w v l) (n : Nat) (hn : l.length = n) :
    ∃ a cap, v = .slice a n cap ∧ n ≤ cap ∧ cap ≤ maxLen ∧ (0 < n → ∃ b off, a = some ⟨b, off, none⟩ ∧ ∀ j, j < n → w.cell? ⟨b, off + j, none⟩ = some (.int .u64 ((l.getD j 0 : Nat) : Int))) := by
  subst hn
  obtain ⟨a, cap, rfl, hc, hm, h⟩ := h
  refine ⟨a, cap, rfl, hc, hm, fun hp => ?_⟩
  obtain ⟨b, off, rfl, hcell⟩ := h hp
  refine ⟨b, off, rfl, fun j hj => ?_⟩
  rw [hcell j hj, List.getD_eq_getElem?_getD, List.getElem?_eq_getElem hj]
  rfl

set_option maxRecDepth 1000000 in
set_option maxHeartbeats 4000000 in
theorem eqAdd_any {w0 w : World} (g1 c1 g2 c2 K S : Nat) (r s r2 s2 : List Nat) (v1 v2 : Value) (hb : Below w0.heap.size w0 w)
    (hr : w.ownsRow w0.heap.size 120 1 (.slice (some ⟨g1, 0, none⟩) K c1) K (r.map wordV)) (hs : w.ownsRow w0.heap.size 5 1 (.slice (some ⟨g2, 0, none⟩) S c2) S (s.map byteV))
    (h1 : ListAt wordV w0 v1 r2) (h2 : ListAt byteV w0 v2 s2) (hrl : r.length = K) (hsl : s.length = S) (hr2l : r2.length = K) (hs2l : s2.length = S) (hrw : Word r) (hsw : Octets s) (hr2w : Word r2) (hs2w : Octets s2) (hK : K ≤ 100000) (hS : S ≤ 100000) :
    Calls Tryz.prog 129 #[.agg #[.slice (some ⟨g1, 0, none⟩) K c1, .slice (some ⟨g2, 0, none⟩) S c2], .agg #[v1, v2]] w fun e w' => e = .returned (.tuple #[]) ∧
      w'.ownsRow w0.heap.size 120 1 (.slice (some ⟨g1, 0, none⟩) K c1) K ((xorW r r2).map wordV) ∧ w'.ownsRow w0.heap.size 5 1 (.slice (some ⟨g2, 0, none⟩) S c2) S ((xorW s s2).map byteV) ∧ Below w0.heap.size w0 w' ∧ (∀ k, k < w.heap.size → k ≠ g1 → k ≠ g2 → w'.heap[k]? = w.heap[k]?) := by
  have HNE := Lib.hid (own_block_ne hr hs (by decide))
  have hl1 := hr.lt g1 rfl
  have hl2 := hs.lt g2 rfl
  have HGE1 : Hid (w.heap.size ≠ g1) := Lib.hid (by omega)
  have HGE2 : Hid (w.heap.size ≠ g2) := Lib.hid (by omega)
  have HGF1 : Hid (w.heap.size + 1 ≠ g1) := Lib.hid (by omega)
  obtain ⟨wz, hwz, hbz, hzs, he0, he1, hf0, hf1⟩ := eq2_laid w (.slice (some ⟨g1, 0, none⟩) K c1) (.slice (some ⟨g2, 0, none⟩) S c2) v1 v2
  obtain ⟨a1, cp1, rfl, hcp1, -, hcell1⟩ := h1.wordsN K hr2l
  obtain ⟨a2, cp2, rfl, hcp2, -, hcell2⟩ := h2.bytes S hs2l
  have HBA := Lib.hid (hb.trans (hbz.mono hb.size))
  have HC1 : Hid (0 < K → ∃ b off, a1 = some ⟨b, off, none⟩ ∧ ∀ j, j < K → wz.cell? ⟨b, off + j, none⟩ = some (.int .u64 ((r2.getD j 0 : Nat) : Int)) ∧ b ≠ g1) := Lib.hid fun hp => by
    obtain ⟨b, off, e, hc⟩ := hcell1 (by omega)
    refine ⟨b, off, e, fun j hj => ?_⟩
    have hx := hc j (by omega)
    have hlt : b < w0.heap.size := World.block_lt_of_cell? w0 _ hx
    refine ⟨((hb.trans (hbz.mono hb.size)).cell (p := ⟨b, off + j, none⟩) hlt).trans hx, ?_⟩
    omega
  have HC2 : Hid (0 < S → ∃ b off, a2 = some ⟨b, off, none⟩ ∧ ∀ j, j < S → b ≠ g1 ∧ b ≠ g2 ∧ wz.cell? ⟨b, off + j, none⟩ = some (.int .u8 ((s2.getD j 0 : Nat) : Int))) := Lib.hid fun hp => by
    obtain ⟨b, off, e, hc⟩ := hcell2 (by omega)
    refine ⟨b, off, e, fun j hj => ?_⟩
    have hx := hc j (by omega)
    have hlt : b < w0.heap.size := World.block_lt_of_cell? w0 _ hx
    exact ⟨by omega, by omega, ((hb.trans (hbz.mono hb.size)).cell (p := ⟨b, off + j, none⟩) hlt).trans hx⟩
  have HOR := Lib.hid (owns_kept hr hbz)
  have HOS := Lib.hid (owns_kept hs hbz)
  have HE0 := Lib.hid he0
  have HE1Z := Lib.hid he1
  have HF1Z := Lib.hid hf1
  have HRL := Lib.hid hrl
  have HR2L := Lib.hid hr2l
  have HRW := Lib.hid hrw
  have HR2W := Lib.hid hr2w
  have HSL := Lib.hid hsl
  have HS2L := Lib.hid hs2l
  have HSW := Lib.hid hsw
  have HS2W := Lib.hid hs2w
  have HWZ := Lib.hid hwz
  have HBZ := Lib.hid hbz
  clear hwz hbz hb hr hs h1 hcell1 hcell2 hrl hr2l hrw hr2w hsl hs2l hsw hs2w hl1 hl2 h2
  go_enter Tryz.func129, Tryz.ntmps129
  go_wp2_with fail
  rw [← HWZ.out]
  go_wp2

  go_loopw [11] (fun q wr => ∃ k : Nat, k ≤ K ∧ q = .int .i64 k ∧ (∃ zs : List Nat, zs.length = K ∧ Word zs ∧ (∀ j, j < K → zs.getD j 0 = if j < k then r.getD j 0 ^^^ r2.getD j 0 else r.getD j 0) ∧ wr.ownsRow w0.heap.size 120 1 (.slice (some ⟨g1, 0, none⟩) K c1) K (zs.map wordV)) ∧ wz.grownBy wr (some g1)) (fun q _ => K - (intOf q).toNat)
  case atStart => exact ⟨0, Nat.zero_le _, rfl, ⟨r, HRL.out, HRW.out, fun j _ => by simp, HOR.out⟩, World.grownBy.refl _ _⟩
  case round =>
    obtain ⟨k, hk, rfl, ⟨zs, hzl, hzw, hzv, hown⟩, hgr⟩ := hrel
    by_cases hlt : k < K
    · obtain ⟨b, off, rfl, hcc⟩ := HC1.out (by omega)
      have hb1 : wr.cell? ⟨w.heap.size, 0, none⟩ = some (.slice (some ⟨g1, 0, none⟩) K c1) := hgr.cell HE0.out (by intro e; exact HGE1.out (by simpa using e))
      have hy1 : wr.cell? ⟨b, off + k, none⟩ = some (.int .u64 ((r2.getD k 0 : Nat) : Int)) := hgr.cell (hcc k hlt).1 (by intro e; exact (hcc k hlt).2 (by simpa using e))
      have hx1 : wr.cell? ⟨g1, k, none⟩ = some (.int .u64 ((r.getD k 0 : Nat) : Int)) := by
        rw [hown.cellAt k (by omega)]
        have e := hzv k hlt
        rw [if_neg (by omega)] at e
        have : k < zs.length := by omega
        simp only [List.getD_eq_getElem?_getD, List.getElem?_eq_getElem this, Option.getD_some] at e
        simp [this, wordV, e]
      have hf1 : wr.frozen? ⟨g1, k, none⟩ = false := hown.frozenAt k
      have hxlt := HRW.out.getD k
      have hylt := HR2W.out.getD k
      have hlt3 : r.getD k 0 ^^^ r2.getD k 0 < 18446744073709551616 := Nat.xor_lt_two_pow (n := 64) hxlt hylt
      have hbx := bits_xor_u64_nat (r.getD k 0) (r2.getD k 0) hxlt hylt
      have HZ1 : Hid (∀ u, r.getD k 0 ^^^ r2.getD k 0 = u → ∀ j, j < K → (zs.set k u).getD j 0 = if j < k + 1 then r.getD j 0 ^^^ r2.getD j 0 else r.getD j 0) := Lib.hid fun u e j hj => by
        rw [getD_set _ _ _ _ _ (by omega)]
        by_cases e1 : j = k
        · subst e1; rw [if_pos rfl, if_pos (by omega), e]
        · rw [if_neg e1, hzv j hj]
          by_cases e2 : j < k
          · rw [if_pos e2, if_pos (by omega)]
          · rw [if_neg e2, if_neg (by omega)]
      have HOW := Lib.hid hown
      have HG := Lib.hid hgr
      have HZL := Lib.hid hzl
      have HZW := Lib.hid hzw
      have HL3 := Lib.hid hlt3
      clear hown hgr hzl hzw hzv hxlt hylt hlt3 hcc
      generalize r.getD k 0 = X at *
      generalize r2.getD k 0 = Y at *
      go_wp2
      go_roundw
      case rel => exact ⟨k + 1, by omega, by go_num, ⟨zs.set k (X ^^^ Y), by simpa using HZL.out, HZW.out.set _ _ HL3.out, HZ1.out _ rfl, by rw [List.map_set]; exact (HOW.out.stored k (.int .u64 ((X ^^^ Y : Nat) : Int))).1⟩, grown_trans HG.out (HOW.out.stored k (.int .u64 ((X ^^^ Y : Nat) : Int))).2⟩
      case measure => simp [intOf]; omega
    · have hk' : k = K := by omega
      have HV : Hid (zs = xorW r r2) := Lib.hid (by
        have hxy : r.length = r2.length := by rw [HRL.out, HR2L.out]
        apply ext_getD (by rw [xorW_length hxy, hzl, HRL.out])
        intro j hj
        have e := hzv j (by omega)
        rw [if_pos (by omega), ← xorW_getD hxy] at e
        exact e)
      have HOR2 := Lib.hid hown
      rw [HV.out] at HOR2
      have HGR1 := Lib.hid hgr
      clear hown hgr hzv hzl hzw HV
      obtain ⟨wy, hwy⟩ : ∃ wy, wy = wr := ⟨_, rfl⟩
      subst hwy
      have HE1 : Hid (wy.cell? ⟨w.heap.size, 1, none⟩ = some (.slice (some ⟨g2, 0, none⟩) S c2)) := Lib.hid (HGR1.out.cell HE1Z.out (by intro e; exact HGE1.out (by simpa using e)))
      have hf1y : wy.cell? ⟨w.heap.size + 1, 1, none⟩ = some (.slice a2 S cp2) := HGR1.out.cell HF1Z.out (by intro e; exact HGF1.out (by simpa using e))
      have HOS2 := Lib.hid (HOS.out.kept HGR1.out (.inr (by intro e; exact HNE.out (by simpa [Value.ownBlock] using e.symm))))
      have HC2 : Hid (0 < S → ∃ b off, a2 = some ⟨b, off, none⟩ ∧ ∀ j, j < S → wy.cell? ⟨b, off + j, none⟩ = some (.int .u8 ((s2.getD j 0 : Nat) : Int)) ∧ b ≠ g2) := Lib.hid fun hp => by
        obtain ⟨b, off, e, hc⟩ := HC2.out hp
        refine ⟨b, off, e, fun j hj => ?_⟩
        obtain ⟨q1, q2, q3⟩ := hc j hj
        exact ⟨HGR1.out.cell q3 (by intro e; exact q1 (by simpa using e)), q2⟩
      clear HC1
      go_wp2

      go_loopw [28] (fun q wr => ∃ k : Nat, k ≤ S ∧ q = .int .i64 k ∧ (∃ zs : List Nat, zs.length = S ∧ Octets zs ∧ (∀ j, j < S → zs.getD j 0 = if j < k then s.getD j 0 ^^^ s2.getD j 0 else s.getD j 0) ∧ wr.ownsRow w0.heap.size 5 1 (.slice (some ⟨g2, 0, none⟩) S c2) S (zs.map byteV)) ∧ wy.grownBy wr (some g2)) (fun q _ => S - (intOf q).toNat)
      case atStart => exact ⟨0, Nat.zero_le _, rfl, ⟨s, HSL.out, HSW.out, fun j _ => by simp, HOS2.out⟩, World.grownBy.refl _ _⟩
      case round =>
        obtain ⟨k, hk, rfl, ⟨zs, hzl, hzw, hzv, hown⟩, hgr⟩ := hrel
        by_cases hlt : k < S
        · obtain ⟨b, off, rfl, hcc⟩ := HC2.out (by omega)
          have hb1 : wr.cell? ⟨w.heap.size, 1, none⟩ = some (.slice (some ⟨g2, 0, none⟩) S c2) := hgr.cell HE1.out (by intro e; exact HGE2.out (by simpa using e))
          have hy1 : wr.cell? ⟨b, off + k, none⟩ = some (.int .u8 ((s2.getD k 0 : Nat) : Int)) := hgr.cell (hcc k hlt).1 (by intro e; exact (hcc k hlt).2 (by simpa using e))
          have hx1 : wr.cell? ⟨g2, k, none⟩ = some (.int .u8 ((s.getD k 0 : Nat) : Int)) := by
            rw [hown.cellAt k (by omega)]
            have e := hzv k hlt
            rw [if_neg (by omega)] at e
            have : k < zs.length := by omega
            simp only [List.getD_eq_getElem?_getD, List.getElem?_eq_getElem this, Option.getD_some] at e
            simp [this, byteV, e]
          have hf1 : wr.frozen? ⟨g2, k, none⟩ = false := hown.frozenAt k
          have hxlt := HSW.out.getD k
          have hylt := HS2W.out.getD k
          have hlt3 : s.getD k 0 ^^^ s2.getD k 0 < 256 := Nat.xor_lt_two_pow (n := 8) hxlt hylt
          have hbx := bits_xor_u8_nat (s.getD k 0) (s2.getD k 0) hxlt hylt
          have HZ1 : Hid (∀ u, s.getD k 0 ^^^ s2.getD k 0 = u → ∀ j, j < S → (zs.set k u).getD j 0 = if j < k + 1 then s.getD j 0 ^^^ s2.getD j 0 else s.getD j 0) := Lib.hid fun u e j hj => by
            rw [getD_set _ _ _ _ _ (by omega)]
            by_cases e1 : j = k
            · subst e1; rw [if_pos rfl, if_pos (by omega), e]
            · rw [if_neg e1, hzv j hj]
              by_cases e2 : j < k
              · rw [if_pos e2, if_pos (by omega)]
              · rw [if_neg e2, if_neg (by omega)]
          have HOW := Lib.hid hown
          have HG := Lib.hid hgr
          have HZL := Lib.hid hzl
          have HZW := Lib.hid hzw
          have HL3 := Lib.hid hlt3
          clear hown hgr hzl hzw hzv hxlt hylt hlt3 hcc
          generalize s.getD k 0 = X at *
          generalize s2.getD k 0 = Y at *
          go_wp2
          go_roundw
          case rel => exact ⟨k + 1, by omega, by go_num, ⟨zs.set k (X ^^^ Y), by simpa using HZL.out, HZW.out.set _ _ HL3.out, HZ1.out _ rfl, by rw [List.map_set]; exact (HOW.out.stored k (.int .u8 ((X ^^^ Y : Nat) : Int))).1⟩, grown_trans HG.out (HOW.out.stored k (.int .u8 ((X ^^^ Y : Nat) : Int))).2⟩
          case measure => simp [intOf]; omega
        · have hk' : k = S := by omega
          have HV : Hid (zs = xorW s s2) := Lib.hid (by
            have hxy : s.length = s2.length := by rw [HSL.out, HS2L.out]
            apply ext_getD (by rw [xorW_length hxy, hzl, HSL.out])
            intro j hj
            have e := hzv j (by omega)
            rw [if_pos (by omega), ← xorW_getD hxy] at e
            exact e)
          have HOS3 := Lib.hid hown
          rw [HV.out] at HOS3
          have HGR2 := Lib.hid hgr
          clear hown hgr hzv hzl hzw HV

          have HORF := Lib.hid (HOR2.out.kept HGR2.out (.inr (by intro e; exact HNE.out (by simpa [Value.ownBlock] using e))))
          have HBF := Lib.hid ((HBA.out.grown HGR1.out HBA.out.size (fun k e => by cases e; exact (HOR2.out.lt g1 rfl).1)).grown HGR2.out (Nat.le_trans HBA.out.size HGR1.out.size) (fun k e => by cases e; exact (HOS3.out.lt g2 rfl).1))
          go_wp2
          go_end0
          exact ⟨rfl, HORF.out, HOS3.out, HBF.out, fun k hk n1 n2 => ((HGR2.out.block k (by have := HBZ.out.size; have := HGR1.out.size; omega) (by simpa using n2)).trans (HGR1.out.block k (by have := HBZ.out.size; omega) (by simpa using n1))).trans (HBZ.out.block k hk)⟩
end Go.Proofs.YticoaioeeppapaaGreatDoor
end
