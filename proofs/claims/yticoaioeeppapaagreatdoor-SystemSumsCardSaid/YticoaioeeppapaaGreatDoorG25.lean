import Derived.Test.YticoaioeeppapaaGreatDoorG10
import Derived.Test.YticoaioeeppapaaGreatDoorG17
import Derived.Test.YticoaioeeppapaaGreatDoorG22
import Derived.Test.YticoaioeeppapaaGreatDoorG24
import Derived.Test.YticoaioeeppapaaGreatDoorG18
import Derived.Deep.RegionHeld3
import Derived.Test.YticoaioeeppapaaGreatDoorG07
import Derived.Deep.AppendLies
import Derived.Deep.RegionLaw

section
/- The document's answers for layer 11: Check, First, Places. -/
namespace Go.Proofs.YticoaioeeppapaaGreatDoor
open Go.RowKit Go.Extern.Stop Go.Stop Go.Extern

set_option maxRecDepth 1000000 in
set_option maxHeartbeats 4000000 in
theorem rCheck_any {w : World} (K S H L P seed : Int) (v : Value) (es : List Int) (hK : I64 K) (hv : ListAt intV w v es) :
    Calls Tryz.prog 12 #[parV K S H L P, .int .i64 seed, v] w fun e w' => e = .returned (.int .i64 (checkR K S H L P seed es)) ∧ Below w.heap.size w w' := by
  obtain ⟨w0, hw0, hb0, hbx⟩ := par_laid w K S H L P
  have HW0 := Lib.hid hw0
  have HB0 := Lib.hid hb0
  obtain ⟨c0, c1, c2, c3, c4⟩ := hbx.cells
  have HV := Lib.hid hv
  obtain ⟨av, cv, rfl, -, -, -⟩ := hv
  by_cases hgood : Good K S H L P
  · have HG := Lib.hid hgood
    obtain ⟨k, s, h, l, p, rfl, rfl, rfl, rfl, rfl, hk1, hk2, hof⟩ := hgood
    have HR : Hid (∀ V, Calls Tryz.prog 35 #[.agg #[.int .i64 (k : Int), .int .i64 (s : Int), .int .i64 (h : Int), .int .i64 (l : Int), .int .i64 (p : Int)]] V fun e w' => e = .returned (.bool true) ∧ Below V.heap.size V w') := Lib.hid fun V => rRight_good k s h l p hof hk1 hk2
    clear hw0 hb0 hbx hK hof hk1 hk2
    by_cases hs : seed < 0 ∨ 65535 < seed
    · have HC := Lib.hid (checkR_one (K := k) (S := s) (H := h) (L := l) (P := p) (es := es) (.inr hs))
      have HD : Hid (decide (seed < 0) = true ∨ (decide (seed < 0) = false ∧ decide (65535 < seed) = true)) := Lib.hid (by
        simp only [decide_eq_true_eq, decide_eq_false_iff_not]
        omega)
      clear hs
      unfold parV parC
      rcases HD.out with d1 | ⟨d1, d2⟩
      all_goals
        go_enter Tryz.func12, Tryz.ntmps12
        go_upto_region 1 with fail
        rw [← HW0.out]
        go_wp2_with fail
        refine (HR.out _).mono ?_
        rintro e w1 ⟨rfl, hb1⟩
        have HB1 := Lib.hid (HB0.out.trans (hb1.mono HB0.out.size))
        clear hb1 c0 c1 c2 c3 c4
        go_wp2
        go_ret
        exact ⟨by rw [HC.out]; rfl, HB1.out⟩
    · have hbad : ¬ (¬ Good k s h l p ∨ seed < 0 ∨ 65535 < seed) := by
        rintro (hn | hn)
        · exact hn HG.out
        · exact hs hn
      have HBAD := Lib.hid hbad
      have d1 : decide (seed < 0) = false := decide_eq_false (by omega)
      have d2 : decide (65535 < seed) = false := decide_eq_false (by omega)
      clear hs hbad
      unfold parV parC
      go_enter Tryz.func12, Tryz.ntmps12
      go_upto_region 1 with fail
      rw [← HW0.out]
      go_wp2_with fail
      refine (HR.out _).mono ?_
      rintro e w1 ⟨rfl, hb1⟩
      have HB1 := Lib.hid (HB0.out.trans (hb1.mono HB0.out.size))
      have HV1 := Lib.hid (HV.out.mono HB1.out)
      clear hb1 c0 c1 c2 c3 c4
      have hlen := HV1.out.len
      obtain ⟨av', cv', hve, -, -, hcell⟩ := HV1.out
      cases hve
      have HC := Lib.hid hcell
      clear hcell
      go_wp2
      go_loopw [7] (fun i wr => ∃ j : Nat, j ≤ es.length ∧ i = .int .i64 j ∧ (∀ t, t < j → 0 ≤ es.getD t 0 ∧ es.getD t 0 < 65536) ∧ w1 = wr) (fun i _ => es.length - (intOf i).toNat)
      case atStart => exact ⟨0, Nat.zero_le _, rfl, fun t ht => by omega, rfl⟩
      case round =>
        obtain ⟨j, hj, rfl, hz, rfl⟩ := hrel
        clear d1 d2
        by_cases hlt : j < es.length
        · obtain ⟨b, off, rfl, hcc⟩ := HC.out (by omega)
          have hx := hcc j hlt
          have HF : Hid (es.getD j 0 < 0 ∨ 65536 ≤ es.getD j 0 → checkR k s h l p seed es = 1) := Lib.hid (checkR_esi HBAD.out hlt)
          have HZ : Hid (0 ≤ es.getD j 0 ∧ es.getD j 0 < 65536 → ∀ t, t < j + 1 → 0 ≤ es.getD t 0 ∧ es.getD t 0 < 65536) := Lib.hid fun hh t ht => by
            by_cases e : t = j
            · rw [e]; exact hh
            · exact hz t (by omega)
          have hxe : es[j] = es.getD j 0 := by simp [List.getD_eq_getElem?_getD, hlt]
          have hy : w1.cell? ⟨b, off + j, none⟩ = some (.int .i64 (es.getD j 0)) := by rw [hx, ← hxe]; rfl
          clear hcc hx hz hxe
          generalize es.getD j 0 = y at *
          by_cases h1 : y < 0
          · have d1 : decide (y < 0) = true := decide_eq_true h1
            have HE := Lib.hid (HF.out (.inl h1))
            clear HF HZ h1
            go_wp2
            go_ret
            exact ⟨by rw [HE.out]; rfl, HB1.out⟩
          · have d1 : decide (y < 0) = false := decide_eq_false h1
            by_cases h2 : 65535 < y
            · have d2 : decide (65535 < y) = true := decide_eq_true h2
              have HE := Lib.hid (HF.out (.inr (by omega)))
              clear HF HZ h1 h2
              go_wp2
              go_ret
              exact ⟨by rw [HE.out]; rfl, HB1.out⟩
            · have d2 : decide (65535 < y) = false := decide_eq_false h2
              have HZ' := Lib.hid (HZ.out ⟨by omega, by omega⟩)
              clear HF HZ h1 h2
              go_wp2
              go_roundw
              case rel => exact ⟨j + 1, by omega, by go_num, HZ'.out, trivial⟩
              case measure => simp [intOf]; omega
        · have hj' : j = es.length := by omega
          have HE : Hid (checkR k s h l p seed es = if 4096 < es.length then 3 else 0) := Lib.hid (checkR_rest HBAD.out fun t ht => hz t (by omega))
          clear hz
          by_cases h3 : 4096 < es.length
          · have HE' : Hid (checkR k s h l p seed es = 3) := Lib.hid (by rw [HE.out, if_pos h3])
            clear HE
            go_wp2
            go_ret
            exact ⟨by rw [HE'.out]; rfl, HB1.out⟩
          · have HE' : Hid (checkR k s h l p seed es = 0) := Lib.hid (by rw [HE.out, if_neg h3])
            clear HE
            go_wp2
            go_ret
            exact ⟨by rw [HE'.out]; rfl, HB1.out⟩
  · have HR : Hid (∀ V, Calls Tryz.prog 35 #[.agg #[.int .i64 K, .int .i64 S, .int .i64 H, .int .i64 L, .int .i64 P]] V fun e w' => e = .returned (.bool false) ∧ Below V.heap.size V w') := Lib.hid fun V => rRight_bad K S H L P hgood hK
    have HC := Lib.hid (checkR_one (K := K) (S := S) (H := H) (L := L) (P := P) (seed := seed) (es := es) (.inl hgood))
    clear hw0 hb0 hbx hK hgood
    unfold parV parC
    go_enter Tryz.func12, Tryz.ntmps12
    go_upto_region 1 with fail
    rw [← HW0.out]
    go_wp2_with fail
    refine (HR.out _).mono ?_
    rintro e w1 ⟨rfl, hb1⟩
    have HB1 := Lib.hid (HB0.out.trans (hb1.mono HB0.out.size))
    clear hb1 c0 c1 c2 c3 c4
    go_wp2
    go_ret
    exact ⟨by rw [HC.out]; rfl, HB1.out⟩

set_option maxRecDepth 1000000 in
set_option maxHeartbeats 4000000 in
theorem r11First_any {w : World} (k : Nat) (hk : k ≤ 1000) :
    Calls Tryz.prog 20 #[.int .i64 (k : Int)] w fun e w' => ∃ v, e = .returned v ∧ ListAt colV w' v (List.range k) ∧ Below w.heap.size w w' := by
  obtain ⟨i0, hi, hz0, hz1, hz2⟩ := info_parts info_int
  go_enter Tryz.func20, Tryz.ntmps20
  go_wp2_with fail
  go_loopw [3, 4] (fun o i wr => ∃ j : Nat, j ≤ k ∧ i = .int .i64 j ∧ wr.ownsRow w.heap.size 3 1 o j ((List.range j).map colV) ∧ Below w.heap.size w wr) (fun _ i _ => k - (intOf i).toNat)
  case atStart => exact ⟨0, Nat.zero_le _, rfl, World.ownsRow_made (base := w.heap.size) (e := 3) (size := 1) w #[] 0 (Nat.le_refl _) (by decide) rfl, (Below.refl _ _).alloc (Nat.le_refl _) _⟩
  case round =>
    obtain ⟨j, hj, rfl, hown, hbel⟩ := hrel
    have HO := Lib.hid hown
    have HB := Lib.hid hbel
    have hsz := hbel.size
    by_cases hlt : j < k
    · obtain ⟨ao, co, rfl, -, -⟩ := own_open hown
      clear hown hbel
      go_wp2_with (at_builtin; refine wpList_append_own _ rfl (.tmp 11) (.tmp 13) 24 rfl w.heap.size 3 i0 (.int .i64 0) 1 8 Tryz.underlying24 hi hz0 hz1 hz2 rfl (by decide) (.slice ao j co) j ((List.range j).map colV) rfl (HO.out.alloc _) ⟨wr.heap.size, 0, none⟩ 1 1 [.int .i64 (j : Int)] rfl rfl (cell_one_new _ _ _) (fun x hx => by simp at hx; subst hx; rfl) (by unfold maxLen; omega) (by omega) (by simp; omega) ?_; intro v2 w4 hown1 hgrow1 _; have hb3 := Lib.hid ((HB.out.alloc hsz _).grown hgrow1 (by simp; omega) (fun k hk => (HO.out.lt k hk).1)); have ho2 := Lib.hid hown1; clear hown1 hgrow1)
      go_roundw
      case rel => exact ⟨j + 1, by omega, by go_num, by rw [List.range_succ, List.map_append]; exact ho2.out, hb3.out⟩
      case measure => simp [intOf]; omega
    · obtain rfl : j = k := by omega
      clear hown hbel
      go_wp2
      go_ret
      exact ⟨_, rfl, ListAt.of_owns HO.out, HB.out⟩
end Go.Proofs.YticoaioeeppapaaGreatDoor
end

section
/- The document's answers for layer 11: Places, Rows. -/
namespace Go.Proofs.YticoaioeeppapaaGreatDoor
open Go.RowKit Go.Extern.Stop Go.Stop Go.Extern

theorem takeP_succ {k s h l p seed : Nat} {ns : List Nat} {j : Nat} (hj : j < ns.length) : rowsA k s h l p seed (ns.take (j + 1)) = rowsA k s h l p seed (ns.take j) ++ [rowE l p seed (ns.getD j 0)] := by
  rw [List.take_succ_eq_append_getElem hj, rowsA_snoc]
  simp [List.getD_eq_getElem?_getD, hj]
theorem takeP_len {k s h l p seed : Nat} {ns : List Nat} {j : Nat} (hj : j ≤ ns.length) : (rowsA k s h l p seed (ns.take j)).length = s + h + j := by
  rw [rowsA_length, List.length_take]
  omega
theorem ElAt.any {α : Type} {f : α → Value} {te : TypeId} {base : Nat} {w : World} {x : Value} {r : List α} (h : ElAt f te base w x r) (hf : ∀ b, x.ownBlock = some b → base ≤ b) (base' : Nat) : ElAt f te base' w x r :=
  ⟨h.1, fun hp b hx => .inr ((h.2 hp b hx).resolve_left (by have := hf b hx; omega))⟩
theorem map_colV (l : List Nat) : (l.map Int.ofNat).map intV = l.map colV := by
  rw [List.map_map]
  rfl

set_option maxRecDepth 1000000 in
set_option maxHeartbeats 4000000 in
theorem rPlaces_any {w : World} (k s h l p seed : Nat) (v : Value) (ns : List Nat) (H : OfP k s h l p) (hk1 : 1 ≤ k) (hk2 : k ≤ 128) (hs : seed < 65536) (hv : ListAt colV w v ns) (he : ∀ e ∈ ns, e < 65536) (hl : ns.length ≤ 4096) :
    Calls Tryz.prog 38 #[parV k s h l p, .int .i64 (seed : Int), v] w fun e w' => ∃ v', e = .returned v' ∧ MatFresh colV 3 w.heap.size 24 w' v' (rowsA k s h l p seed ns) ∧ Below w.heap.size w w' := by
  obtain ⟨j0, hj0, jz0, jz1, jz2⟩ := info_parts info_ints
  obtain ⟨b1, b2, b3, b4, b5, b6, b7⟩ := H.bounds hk1 hk2
  obtain ⟨w0, hw0, hb0, hbx⟩ := par_laid w k s h l p
  have HW0 := Lib.hid hw0
  have HB0 := Lib.hid hb0
  have HBX := Lib.hid hbx
  have HV := Lib.hid hv
  have hba : Below w0.heap.size w0 (w0.alloc (.cells #[] 24)) := (Below.refl _ _).alloc (Nat.le_refl _) _
  obtain ⟨c0, c1, c2, c3, c4⟩ := (hbx.mono hba).cells
  have HF : Hid (∀ V, Calls Tryz.prog 66 #[.agg #[.int .i64 (k : Int), .int .i64 (s : Int), .int .i64 (h : Int), .int .i64 (l : Int), .int .i64 (p : Int)]] V fun e w' => ∃ v, e = .returned v ∧ MatFresh colV 3 V.heap.size 24 w' v (rowsF0 k s h) ∧ Below V.heap.size V w') := Lib.hid fun V => by
    refine (rRows_new k s h l p H hk1 hk2).mono ?_
    rintro e w' ⟨v, g, rfl, h1, h2, h3⟩
    obtain rfl := graysE_eq h1
    exact ⟨v, rfl, h2, h3⟩
  have HD : Hid (∀ (V : World) (e : Nat), e < 65536 → Calls Tryz.prog 67 #[.agg #[.int .i64 (k : Int), .int .i64 (s : Int), .int .i64 (h : Int), .int .i64 (l : Int), .int .i64 (p : Int)], .int .i64 (seed : Int), .int .i64 (e : Int)] V fun e' w' => ∃ v, e' = .returned v ∧ w'.ownsRow V.heap.size 3 1 v (rowE l p seed e).length ((rowE l p seed e).map colV) ∧ Below V.heap.size V w') := Lib.hid fun V e he => by
    refine (rRow_own k s h l p seed e H hk1 hk2 hs he).mono ?_
    rintro e' w' ⟨v, W, rfl, h1, h2, h3⟩
    refine ⟨v, rfl, ?_, h3⟩
    unfold rowE
    rw [walkE_eq h1, ← map_colV]
    exact h2
  have hq := rowsF0_length k s h
  have HP0 : Hid (rowsF0 k s h = rowsA k s h l p seed (ns.take 0)) := Lib.hid (by rw [List.take_zero, rowsA_nil])
  have HPN : Hid (rowsA k s h l p seed (ns.take ns.length) = rowsA k s h l p seed ns) := Lib.hid (by rw [List.take_length])
  have HPS : Hid (∀ j, j < ns.length → rowsA k s h l p seed (ns.take (j + 1)) = rowsA k s h l p seed (ns.take j) ++ [rowE l p seed (ns.getD j 0)]) := Lib.hid fun j hj => takeP_succ hj
  have HPL : Hid (∀ j, j ≤ ns.length → (rowsA k s h l p seed (ns.take j)).length = s + h + j) := Lib.hid fun j hj => takeP_len hj
  have HE : Hid (∀ j, j < ns.length → ns.getD j 0 < 65536) := Lib.hid fun j hj => by
    rw [List.getD_eq_getElem?_getD, List.getElem?_eq_getElem hj]
    exact he _ (List.getElem_mem hj)
  have hsh : s + h ≤ 40 := by omega
  clear hw0 hb0 hbx hba H hk1 hk2 hs he b1 b2 b3 b4 b5 b6 b7
  obtain ⟨av, cv, rfl, hcv, -, hcell⟩ := hv
  have HC := Lib.hid hcell
  clear hcell
  unfold parV parC
  go_enter Tryz.func38, Tryz.ntmps38
  go_upto_region 1 with fail
  rw [← HW0.out]
  go_wp2_with fail
  refine (HF.out _).mono ?_
  rintro e w1 ⟨v1, rfl, hm1, hb1⟩
  have hsz0 := HB0.out.size
  have HO0 : Hid (w1.ownsRow w0.heap.size 24 1 (.slice (some ⟨w0.heap.size, 0, none⟩) 0 0) 0 []) := Lib.hid (owns_kept (World.ownsRow_made (base := w0.heap.size) (e := 24) (size := 1) w0 #[] 0 (Nat.le_refl _) (by decide) rfl) hb1)
  have HBA := Lib.hid (((Below.refl w0.heap.size w0).alloc (Nat.le_refl _) (.cells #[] 24)).trans (hb1.mono (by simp)))
  obtain ⟨vs1, k1, k2, k3⟩ := hm1
  rw [hq] at k1
  have hvl : vs1.length = s + h := by have := k1.1; omega
  have HVA : Hid (ListAt id w1 v1 vs1) := Lib.hid (ListAt.of_owns (f := id) (by rw [List.map_id]; exact k1))
  have HSL : Hid (∀ y ∈ vs1, (id y).oneCell' = true) := Lib.hid (MatAt.slices (L := rowsF0 k s h) fun i => (k2 i).1)
  have HM1 : Hid ((∀ i, ElAt colV 3 w0.heap.size w1 (vs1.getD i nilS) ((rowsF0 k s h).getD i [])) ∧ ∀ x ∈ vs1, ∀ b, x.ownBlock = some b → w0.heap.size ≤ b) := Lib.hid (by
    refine ⟨fun i => (k2 i).any (fun b hb => ?_) _, fun x hx b hb => Nat.le_trans (by simp) (k3 x hx b hb)⟩
    by_cases hi : i < vs1.length
    · have e1 : vs1.getD i nilS = vs1[i] := by simp [List.getD_eq_getElem?_getD, hi]
      rw [e1] at hb
      exact k3 _ (List.getElem_mem hi) b hb
    · rw [List.getD_eq_getElem?_getD, List.getElem?_eq_none (by omega)] at hb
      cases hb)
  obtain ⟨a1, cc1, rfl, -, -⟩ := own_open k1
  clear hb1 k1 k2 k3
  go_wp2_with (at_builtin; refine wpList_append_of (f := id) _ rfl (.tmp 9) (.tmp 11) 76 rfl w0.heap.size 24 j0 (.slice none 0 0) 24 Tryz.underlying76 hj0 jz0 jz1 jz2 rfl _ 0 [] rfl HO0.out _ vs1 rfl HVA.out HSL.out (by unfold maxLen; omega) (by omega) HBA.out.size ?_; intro o w2 hown1 hgrow1; have hb2 := Lib.hid (HBA.out.grown hgrow1 HBA.out.size (fun k hk => (HO0.out.lt k hk).1)); rw [Nat.zero_add, List.nil_append, List.map_id] at hown1; have ho2 := Lib.hid hown1; have HG2 := Lib.hid hgrow1; clear hown1 hgrow1)
  have HM2 : Hid (MatFresh colV 3 w0.heap.size 24 w2 o (rowsA k s h l p seed (ns.take 0))) := Lib.hid (by
    rw [← HP0.out]
    exact ⟨vs1, by rw [hq, ← hvl]; exact ho2.out, fun i => (HM1.out.1 i).grown (by decide) HO0.out HG2.out, HM1.out.2⟩)
  clear hvl HO0 HVA HSL HM1 ho2 HG2 c0 c1 c2 c3 c4
  go_wp2
  go_loopw [7, 8] (fun o i wr => ∃ j : Nat, j ≤ ns.length ∧ i = .int .i64 j ∧ MatFresh colV 3 w0.heap.size 24 wr o (rowsA k s h l p seed (ns.take j)) ∧ Below w0.heap.size w0 wr) (fun _ i _ => ns.length - (intOf i).toNat)
  case atStart => exact ⟨0, Nat.zero_le _, rfl, HM2.out, hb2.out⟩
  case round =>
    obtain ⟨j, hj, rfl, hmf, hbel⟩ := hrel
    clear HM2 hb2
    have HMF := Lib.hid hmf
    have HBL := Lib.hid hbel
    have HBW := Lib.hid (HB0.out.trans (hbel.mono HB0.out.size))
    by_cases hlt : j < ns.length
    · obtain ⟨bv, ov, rfl, hcc⟩ := HC.out (by omega)
      have hx := hcc j hlt
      have hbd := hbel.drew
      have HBD := Lib.hid hbd
      have hx' : wr.drew.cell? ⟨bv, ov + j, none⟩ = some (.int .i64 ((ns.getD j 0 : Nat) : Int)) := by
        rw [(HB0.out.trans (hbd.mono HB0.out.size)).cell (p := ⟨bv, ov + j, none⟩) (World.block_lt_of_cell? w _ hx), hx]
        simp [List.getD_eq_getElem?_getD, hlt, colV]
      obtain ⟨c0, c1, c2, c3, c4⟩ := (HBX.out.mono hbd).cells
      have HDR := Lib.hid (HD.out wr.drew (ns.getD j 0) (HE.out j hlt))
      have HST := Lib.hid (HPS.out j hlt)
      have HLN := Lib.hid (HPL.out j hj)
      have HMD := Lib.hid (hmf.mono ((Below.refl _ _).drew))
      have hszd := hbd.size
      clear hcc hx hmf hbel hbd
      generalize ns.getD j 0 = y at *
      generalize rowE l p seed y = PR at *
      go_wp2_with fail
      go_region_law (first
        | (go_simp; go_at_call 67; refine HDR.out.mono ?_; rintro e w5 ⟨v5, rfl, ho5, hb5⟩; have HO5 := Lib.hid ho5; have HB5 := Lib.hid (HBD.out.trans (hb5.mono hszd)); have hsz5 := HB5.out.size; obtain ⟨vs5, hv5, he5, hf5⟩ := HMD.out.mono hb5; rw [HLN.out] at hv5; have HV5 := Lib.hid hv5; have HE5 := Lib.hid he5; have HF5 := Lib.hid hf5; obtain ⟨a5, c5, rfl, -, -⟩ := own_open ho5; clear ho5 hb5 hv5 he5 hf5 hx' c0 c1 c2 c3 c4)
        | (refine step_append_lies _ rfl (.tmp 19) (.tmp 27) 76 rfl w0.heap.size 24 j0 (.slice none 0 0) 1 24 Tryz.underlying76 hj0 jz0 jz1 jz2 rfl (by decide) u7 (s + h + j) vs5 (by simp [Act.eval]) (HV5.out.alloc _) ⟨w5.heap.size, 0, none⟩ 1 1 [.slice a5 PR.length c5] (by simp [Act.eval]) rfl (cell_one_new _ _ _) (fun x hx => by simp at hx; subst hx; rfl) (by decide) (by unfold maxLen; omega) (by omega) (by simp; omega) _ rfl ?_; intro g2 q2 w6 hown1 hgrow1 _ _; have HB6 := Lib.hid ((HB5.out.alloc hsz5 _).grown hgrow1 (by simp; omega) (fun k hk => (HV5.out.lt k hk).1)); have HM6 : Hid (MatFresh colV 3 w0.heap.size 24 w6 _ (rowsA k s h l p seed (ns.take j) ++ [PR])) := Lib.hid (MatFresh.app HF5.out (fun b hb => Nat.le_trans hszd (HO5.out.lt b hb).1) (by decide) (by rw [HLN.out]; exact HV5.out) HE5.out (ElAt.own HO5.out) (by rw [HLN.out]; exact hown1) hgrow1); clear hown1 hgrow1))
      all_goals go_wp2
      all_goals exact ⟨⟨j + 1, by omega, by go_num, by rw [HST.out]; exact HM6.out, HB6.out⟩, by simp [intOf]; omega⟩
    · obtain rfl : j = ns.length := by omega
      clear hmf hbel
      go_wp2
      go_ret
      exact ⟨_, rfl, by rw [← HPN.out]; exact HMF.out.below HB0.out.size, HBW.out⟩
end Go.Proofs.YticoaioeeppapaaGreatDoor
end

section
/- Lists of rows in memory: as they are read (MatAt), as a call makes them (ElAt, MatOwn). -/
namespace Go.Proofs.YticoaioeeppapaaGreatDoor
open Go.RowKit Go.Extern.Stop Go.Stop Go.Extern

def boolV (b : Bool) : Value := .bool b

theorem info_row : (Tryz.prog.info? 62).map (fun i => (i.zero, i.size, i.bytes)) = some (some (.slice none 0 0), 1, 24) := by kernel_rfl
theorem info_bool : (Tryz.prog.info? 4).map (fun i => (i.zero, i.size, i.bytes)) = some (some (.bool false), 1, 1) := by kernel_rfl





theorem MatAt.getD_words {w : World} {v : Value} {L : List (List Nat)} (_ : MatAt wordV w v L) (h : ∀ r ∈ L, Word r) (k : Nat) : Word (L.getD k []) := by
  by_cases hk : k < L.length
  · exact h _ (getD_mem' hk)
  · rw [List.getD_eq_getElem?_getD, List.getElem?_eq_none (by omega)]
    intro x hx
    simp at hx

end Go.Proofs.YticoaioeeppapaaGreatDoor
end
