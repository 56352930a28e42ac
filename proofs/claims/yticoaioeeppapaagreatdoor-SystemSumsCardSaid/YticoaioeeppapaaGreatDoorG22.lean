import Derived.Test.YticoaioeeppapaaGreatDoorG18
import Derived.Test.YticoaioeeppapaaGreatDoorG21
import Derived.Test.YticoaioeeppapaaGreatDoorG06
import Derived.Maps.AppendAt
import Derived.Test.YticoaioeeppapaaGreatDoorG05
import Derived.Test.YticoaioeeppapaaGreatDoorG14
import Derived.Test.YticoaioeeppapaaGreatDoorG07
import Derived.Deep.LoopGhost
import Derived.Deep.CutBlock
import Derived.Shelf.Sort.Plain
import Derived.Sort.OwnSortedInts

section
/- The document's rows: ldpc, Rows, In. -/
namespace Go.Proofs.YticoaioeeppapaaGreatDoor
open Go.RowKit Go.Extern.Stop Go.Stop Go.Extern

set_option maxRecDepth 1000000 in
set_option maxHeartbeats 1000000 in
theorem ldpc_any {w : World} (k s h l p r i : Nat) (h3 : 3 ≤ s) (hs : s ≤ 19) (hk : k ≤ 128) (hr : r < s) (hi : i < k + s) :
    Calls Tryz.prog 101 #[parV k s h l p, .int .i64 (r : Int), .int .i64 (i : Int)] w fun e w' => e = .returned (.bool (ldB k s r i)) ∧ Below w.heap.size w w' := by
  obtain ⟨w0, hw0, hb0, hbx⟩ := par_laid w k s h l p
  have HW0 := Lib.hid hw0
  have HB0 := Lib.hid hb0
  obtain ⟨c0, c1, c2, c3, c4⟩ := hbx.cells
  clear hw0 hb0 hbx
  unfold parV parC
  by_cases hki : k ≤ i
  · have HE := Lib.hid (ldB_far (s := s) (row := r) hki)
    have d1 : decide ((k : Int) ≤ (i : Int)) = true := decide_eq_true (by omega)
    have d2 : decide (k ≤ i) = true := decide_eq_true hki
    by_cases he : i = k + r
    · have HD := Lib.hid (HE.out.trans (decide_eq_true he))
      have hb : ((i : Int) == (k : Int) + (r : Int)) = true := by rw [beq_iff_eq]; omega
      clear he
      go_enter Tryz.func101, Tryz.ntmps101
      go_upto_region 1 with fail
      rw [← HW0.out]
      go_wp2
      go_ret
      exact ⟨by rw [HD.out]; rfl, HB0.out⟩
    · have HD := Lib.hid (HE.out.trans (decide_eq_false he))
      have hb : ((i : Int) == (k : Int) + (r : Int)) = false := by rw [beq_eq_false_iff_ne]; omega
      clear he
      go_enter Tryz.func101, Tryz.ntmps101
      go_upto_region 1 with fail
      rw [← HW0.out]
      go_wp2
      go_ret
      exact ⟨by rw [HD.out]; rfl, HB0.out⟩
  · have HE := Lib.hid (ldB_near (s := s) (row := r) (show i < k by omega))
    have d1 : decide ((k : Int) ≤ (i : Int)) = false := decide_eq_false (by omega)
    have d2 : decide (k ≤ i) = false := decide_eq_false hki
    have hs0 : (s : Int) ≠ 0 := by omega
    have hs1 : ((s : Int) == 0) = false := by rw [beq_eq_false_iff_ne]; exact hs0
    have hs2 : (s : Int) - 1 ≠ 0 := by omega
    have hs3 : ((s : Int) - 1 == 0) = false := by rw [beq_eq_false_iff_ne]; exact hs2
    have HA : Hid (wrap64 (1 + (wrap64 ((i : Int) / (s : Int))).tmod ((s : Int) - 1)) = ((ldA s i : Nat) : Int)) := Lib.hid (ldA_int h3 (by omega) (by omega))
    have HBv : Hid ((i : Int) % (s : Int) = ((i % s : Nat) : Int)) := Lib.hid (Int.natCast_emod _ _).symm
    have l1 : i % s < s := Nat.mod_lt _ (by omega)
    have a1 : ldA s i ≤ s := by unfold ldA; have := Nat.mod_lt (i / s) (show s - 1 > 0 by omega); omega
    have l2 : (i % s + ldA s i) % s < s := Nat.mod_lt _ (by omega)
    have l3 : (i % s + 2 * ldA s i) % s < s := Nat.mod_lt _ (by omega)
    have hY : ((i % s : Nat) : Int) + ((ldA s i : Nat) : Int) = ((i % s + ldA s i : Nat) : Int) := by omega
    have hZ : ((i % s : Nat) : Int) + 2 * ((ldA s i : Nat) : Int) = ((i % s + 2 * ldA s i : Nat) : Int) := by omega
    have hY2 : (((i % s : Nat) : Int) + ((ldA s i : Nat) : Int)) % (s : Int) = (((i % s + ldA s i) % s : Nat) : Int) := by rw [hY]; exact (Int.natCast_emod _ _).symm
    have hZ2 : (((i % s : Nat) : Int) + 2 * ((ldA s i : Nat) : Int)) % (s : Int) = (((i % s + 2 * ldA s i) % s : Nat) : Int) := by rw [hZ]; exact (Int.natCast_emod _ _).symm
    have HY2 := Lib.hid hY2
    have HZ2 := Lib.hid hZ2
    obtain ⟨x, hx⟩ : ∃ x, i % s = x := ⟨_, rfl⟩
    obtain ⟨a, ha⟩ : ∃ a, ldA s i = a := ⟨_, rfl⟩
    rw [hx] at HE HBv HY2 HZ2 l1 l2 l3
    rw [ha] at HE HA HY2 HZ2 a1 l2 l3
    obtain ⟨y, hy⟩ : ∃ y, (x + a) % s = y := ⟨_, rfl⟩
    obtain ⟨z, hz⟩ : ∃ z, (x + 2 * a) % s = z := ⟨_, rfl⟩
    rw [hy] at HE HY2 l2
    rw [hz] at HE HZ2 l3
    have HP : Hid ((r = x ∧ ((r : Int) == (x : Int)) = true) ∨ (r ≠ x ∧ ((r : Int) == (x : Int)) = false)) := Lib.hid (by
      by_cases e : r = x
      · exact .inl ⟨e, by rw [beq_iff_eq]; omega⟩
      · exact .inr ⟨e, by rw [beq_eq_false_iff_ne]; omega⟩)
    have HQ : Hid ((r = y ∧ ((r : Int) == (y : Int)) = true) ∨ (r ≠ y ∧ ((r : Int) == (y : Int)) = false)) := Lib.hid (by
      by_cases e : r = y
      · exact .inl ⟨e, by rw [beq_iff_eq]; omega⟩
      · exact .inr ⟨e, by rw [beq_eq_false_iff_ne]; omega⟩)
    have HS : Hid ((r = z ∧ ((r : Int) == (z : Int)) = true) ∨ (r ≠ z ∧ ((r : Int) == (z : Int)) = false)) := Lib.hid (by
      by_cases e : r = z
      · exact .inl ⟨e, by rw [beq_iff_eq]; omega⟩
      · exact .inr ⟨e, by rw [beq_eq_false_iff_ne]; omega⟩)
    clear hY hZ hY2 hZ2 hx ha hy hz
    go_enter Tryz.func101, Tryz.ntmps101
    go_upto_region 1 with fail
    rw [← HW0.out]
    go_wp2_with fail
    go_quiet (fail)
    have hd := below_draws (Below.refl w0.heap.size w0) nq
    have HB1 := Lib.hid (HB0.out.trans (hd.mono HB0.out.size))
    rw [HA.out]
    clear hd
    have c0 : (w0.drewN nq).cell? ⟨w.heap.size, 0, none⟩ = some (.int .i64 (k : Int)) := c0
    have c1 : (w0.drewN nq).cell? ⟨w.heap.size, 1, none⟩ = some (.int .i64 (s : Int)) := c1
    generalize w0.drewN nq = wq at *
    have hbv := HBv.out
    have hY2 := HY2.out
    have hZ2 := HZ2.out
    rcases HP.out with ⟨e1, p1⟩ | ⟨e1, p1⟩
    · have HD : Hid (ldB k s r i = true) := Lib.hid (by rw [HE.out, decide_eq_true e1]; rfl)
      clear e1
      go_wp2
      go_ret
      exact ⟨by rw [HD.out]; rfl, HB1.out⟩
    · rcases HQ.out with ⟨e2, p2⟩ | ⟨e2, p2⟩
      · have HD : Hid (ldB k s r i = true) := Lib.hid (by rw [HE.out, decide_eq_true e2]; simp)
        clear e1 e2
        go_wp2
        go_ret
        exact ⟨by rw [HD.out]; rfl, HB1.out⟩
      · rcases HS.out with ⟨e3, p3⟩ | ⟨e3, p3⟩
        · have HD : Hid (ldB k s r i = true) := Lib.hid (by rw [HE.out, decide_eq_true e3]; simp)
          clear e1 e2 e3
          go_wp2
          go_ret
          exact ⟨by rw [HD.out]; rfl, HB1.out⟩
        · have HD : Hid (ldB k s r i = false) := Lib.hid (by rw [HE.out, decide_eq_false e1, decide_eq_false e2, decide_eq_false e3]; rfl)
          clear e1 e2 e3
          go_wp2
          go_ret
          exact ⟨by rw [HD.out]; rfl, HB1.out⟩

theorem range_map_succ {α : Type} (f : Nat → α) (n : Nat) : (List.range (n + 1)).map f = (List.range n).map f ++ [f n] := by rw [List.range_succ, List.map_append]; rfl

set_option maxRecDepth 1000000 in
set_option maxHeartbeats 8000000 in
theorem rRows_new {w : World} (k s h l p : Nat) (H : OfP k s h l p) (hk1 : 1 ≤ k) (hk2 : k ≤ 128) :
    Calls Tryz.prog 66 #[parV k s h l p] w fun e w' => ∃ v g, e = .returned v ∧ IsGr ((h + 1) / 2) (k + s) g ∧ MatFresh colV 3 w.heap.size 24 w' v (rowsP k s h g) ∧ Below w.heap.size w w' := by
  obtain ⟨i0, hi0, hz0, hz1, hz2⟩ := info_parts info_int
  obtain ⟨j0, hj0, jz0, jz1, jz2⟩ := info_parts info_ints
  obtain ⟨w0, hw0, hb0, hbx⟩ := par_laid w k s h l p
  have HW0 := Lib.hid hw0
  have HB0 := Lib.hid hb0
  have HBX := Lib.hid hbx
  obtain ⟨c0, c1, c2, c3, c4⟩ := hbx.cells
  obtain ⟨b1, b2, b3, b4, b5, b6, b7⟩ := H.bounds hk1 hk2
  have HOF := Lib.hid H
  clear hw0 hb0 hbx H
  unfold parV parC
  go_enter Tryz.func66, Tryz.ntmps66
  go_upto_region 1 with fail
  rw [← HW0.out]
  go_wp2_with fail
  obtain ⟨M, hM⟩ : ∃ M, k + s = M := ⟨_, rfl⟩
  have HMM := Lib.hid hM
  have hM1 : M ≤ 147 := by omega
  have hM2 : 1 ≤ M := by omega
  rw [show ((h : Int) + 1) / 2 = (((h + 1) / 2 : Nat) : Int) by omega, show (k : Int) + (s : Int) = (M : Int) by omega]
  clear hM
  refine (rGray_any ((h + 1) / 2) M (by omega) (by omega)).mono ?_
  rintro e w1 ⟨vg, g, rfl, hgr, hgl, hb1⟩
  have HGR := Lib.hid hgr
  rw [← HMM.out] at hgr
  obtain ⟨hln, hgb⟩ := gr_of HOF.out hk1 hk2 hgr
  rw [HMM.out] at hln
  have HGB := Lib.hid hgb
  have HLN := Lib.hid hln
  obtain ⟨ag, cg, rfl, hcg, -, hcell⟩ := hgl
  rw [hln] at hcg ⊢
  obtain ⟨bg, og, rfl, hgc⟩ := hcell (by rw [hln]; omega)
  have HC : Hid (∀ i, i < M → w1.cell? ⟨bg, og + i, none⟩ = some (.int .i64 ((g.getD i 0 : Nat) : Int))) := Lib.hid fun i hi => by
    have hil : i < g.length := by rw [hln]; exact hi
    rw [hgc i hil]
    simp [hil, colV]
  have HBX1 := Lib.hid (HBX.out.mono hb1)
  have HB1 := Lib.hid (HB0.out.trans (hb1.mono HB0.out.size))
  clear hgr hln hgb hb1 hcell hgc c0 c1 c2 c3 c4
  go_wp2
  go_loopw [4, 5] (fun o i wr => ∃ r : Nat, r ≤ s ∧ i = .int .i64 r ∧ MatFresh colV 3 w1.heap.size 24 wr o ((List.range r).map (rowL k s)) ∧ Below w1.heap.size w1 wr) (fun _ i _ => s - (intOf i).toNat)
  case atStart => exact ⟨0, Nat.zero_le _, rfl, MatFresh.start w1 (Nat.le_refl _), (Below.refl _ _).alloc (Nat.le_refl _) _⟩
  case round =>
    obtain ⟨r, hr, rfl, hmo, hbel⟩ := hrel
    have hsz := hbel.size
    have HMO := Lib.hid hmo
    have HB := Lib.hid hbel
    obtain ⟨c0, c1, c2, c3, c4⟩ := (HBX1.out.mono hbel).cells
    clear hmo hbel
    by_cases hlt : r < s
    · go_wp2_with fail
      obtain ⟨wo, hwo⟩ : ∃ wo, wo = wr := ⟨_, rfl⟩
      subst hwo
      clear c0 c1 c2 c3 c4
      go_loopw [6, 7] (fun o i wr => ∃ q m : Nat, q ≤ M ∧ i = .int .i64 q ∧ ((List.range q).filter (ldB k s r)).length = m ∧ wr.ownsRow wo.heap.size 3 1 o m (((List.range q).filter (ldB k s r)).map colV) ∧ Below wo.heap.size wo wr) (fun _ i _ => M - (intOf i).toNat)
      case atStart => exact ⟨0, 0, Nat.zero_le _, rfl, rfl, World.ownsRow_made (base := wo.heap.size) (e := 3) (size := 1) wo #[] 0 (Nat.le_refl _) (by decide) rfl, (Below.refl _ _).alloc (Nat.le_refl _) _⟩
      case round =>
        obtain ⟨q, m, hq, rfl, hm, hown, hbel⟩ := hrel
        have hsz2 := hbel.size
        have HMQ := Lib.hid hm
        have hmq : m ≤ q := by rw [← hm]; exact fr_len _ _
        have HO := Lib.hid hown
        have HB2 := Lib.hid hbel
        have hbx2 := HBX1.out.mono (HB.out.trans (hbel.mono hsz))
        have HBX2 := Lib.hid hbx2
        obtain ⟨c0, c1, c2, c3, c4⟩ := hbx2.cells
        obtain ⟨ao, co, rfl, -, -⟩ := own_open hown
        have HKS : Hid ((k : Int) + (s : Int) = (M : Int)) := Lib.hid (by have := HMM.out; omega)
        have hks := HKS.out
        clear hm hown hbel hbx2
        by_cases hlq : q < M
        · have HLD : Hid (∀ W, Calls Tryz.prog 101 #[.agg #[.int .i64 (k : Int), .int .i64 (s : Int), .int .i64 (h : Int), .int .i64 (l : Int), .int .i64 (p : Int)], .int .i64 (r : Int), .int .i64 (q : Int)] W fun e w' => e = .returned (.bool (ldB k s r q)) ∧ Below W.heap.size W w') := Lib.hid fun W => ldpc_any k s h l p r q b1 b2 hk2 hlt (by have := HMM.out; omega)
          cases hl : ldB k s r q with
          | true =>
            rw [hl] at HLD
            have HS : Hid ((List.range (q + 1)).filter (ldB k s r) = (List.range q).filter (ldB k s r) ++ [q]) := Lib.hid (fr_one hl)
            clear hl
            go_wp2_with fail
            refine (HLD.out _).mono ?_
            rintro e w2 ⟨rfl, hb2⟩
            have HO2 := Lib.hid (owns_kept HO.out hb2)
            have HB3 := Lib.hid (HB2.out.trans (hb2.mono hsz2))
            have hsz3 := HB3.out.size
            clear c0 c1 c2 c3 c4 hb2
            go_wp2_with (at_builtin; refine wpList_append_own _ rfl (.tmp 42) (.tmp 44) 24 rfl wo.heap.size 3 i0 (.int .i64 0) 1 8 Tryz.underlying24 hi0 hz0 hz1 hz2 rfl (by decide) (.slice ao m co) m (((List.range q).filter (ldB k s r)).map colV) rfl (HO2.out.alloc _) ⟨w2.heap.size, 0, none⟩ 1 1 [.int .i64 (q : Int)] rfl rfl (cell_one_new _ _ _) (fun x hx => by simp at hx; subst hx; rfl) (by unfold maxLen; omega) (by omega) (by simp; omega) ?_; intro v2 w4 hown1 hgrow1 _; have hb3 := Lib.hid ((HB3.out.alloc hsz3 _).grown hgrow1 (by simp; omega) (fun k hk => (HO2.out.lt k hk).1)); have ho2 := Lib.hid hown1; clear hown1 hgrow1)
            go_roundw
            case rel => exact ⟨q + 1, m + 1, by omega, by go_num, by rw [HS.out, List.length_append, HMQ.out]; rfl, by rw [HS.out, List.map_append]; exact ho2.out, hb3.out⟩
            case measure => simp [intOf]; omega
          | false =>
            rw [hl] at HLD
            have HS : Hid ((List.range (q + 1)).filter (ldB k s r) = (List.range q).filter (ldB k s r)) := Lib.hid (fr_none hl)
            clear hl
            go_wp2_with fail
            refine (HLD.out _).mono ?_
            rintro e w2 ⟨rfl, hb2⟩
            have HO2 := Lib.hid (owns_kept HO.out hb2)
            have HB3 := Lib.hid (HB2.out.trans (hb2.mono hsz2))
            clear c0 c1 c2 c3 c4 hb2
            go_wp2
            go_roundw
            case rel => exact ⟨q + 1, m, by omega, by go_num, by rw [HS.out]; exact HMQ.out, by rw [HS.out]; exact HO2.out, HB3.out⟩
            case measure => simp [intOf]; omega
        · obtain rfl : q = M := by omega
          obtain ⟨vs, hown, hel, hfr⟩ := HMO.out.mono HB2.out
          have HFR := Lib.hid hfr
          rw [List.length_map, List.length_range] at hown
          have HO3 := Lib.hid hown
          have HEL := Lib.hid hel
          have HEN : Hid (ElAt colV 3 w1.heap.size wr (.slice ao m co) (rowL k s r)) := Lib.hid (by
            have := HO.out
            unfold rowL
            rw [HMM.out]
            exact ElAt.own this)
          have HB3 := Lib.hid (HB.out.trans (HB2.out.mono hsz))
          have hsz3 := HB3.out.size
          clear hown hel hfr
          go_wp2_with (at_builtin; refine wpList_append_own _ rfl (.tmp 46) (.tmp 48) 76 rfl w1.heap.size 24 j0 (.slice none 0 0) 1 24 Tryz.underlying76 hj0 jz0 jz1 jz2 rfl (by decide) u4 r vs rfl (HO3.out.alloc _) ⟨wr.heap.size, 0, none⟩ 1 1 [.slice ao m co] rfl rfl (cell_one_new _ _ _) (fun x hx => by simp at hx; subst hx; rfl) (by unfold maxLen; omega) (by omega) (by simp; omega) ?_; intro v2 w4 hown1 hgrow1 _; have hb3 := Lib.hid ((HB3.out.alloc hsz3 _).grown hgrow1 (by simp; omega) (fun k hk => (HO3.out.lt k hk).1)); have ho2 : Hid (MatFresh colV 3 w1.heap.size 24 w4 v2 ((List.range r).map (rowL k s) ++ [rowL k s r])) := Lib.hid (MatFresh.app HFR.out (fun b hb => Nat.le_trans hsz (HO.out.lt b hb).1) (by decide) (by rw [List.length_map, List.length_range]; exact HO3.out) HEL.out HEN.out (by rw [List.length_map, List.length_range]; exact hown1) hgrow1); clear hown1 hgrow1)
          go_roundw
          case rel => exact ⟨r + 1, by omega, by go_num, by rw [range_map_succ]; exact ho2.out, hb3.out⟩
          case measure => simp [intOf]; omega
    · obtain rfl : r = s := by omega
      have HLL : ∀ x, ((List.range r).map (rowL k r) ++ (List.range x).map (rowH k r g)).length = r + x := fun x => by simp
      have HLEN := Lib.hid HLL
      clear HLL
      go_wp2_with fail
      obtain ⟨wa, hwa⟩ : ∃ wa, wa = wr := ⟨_, rfl⟩
      subst hwa
      clear c0 c1 c2 c3 c4
      go_loopw [4, 8] (fun o i wr => ∃ x : Nat, x ≤ h ∧ i = .int .i64 x ∧ MatFresh colV 3 w1.heap.size 24 wr o ((List.range r).map (rowL k r) ++ (List.range x).map (rowH k r g)) ∧ Below w1.heap.size w1 wr) (fun _ i _ => h - (intOf i).toNat)
      case atStart => exact ⟨0, Nat.zero_le _, rfl, by rw [show (List.range 0).map (rowH k r g) = [] from rfl, List.append_nil]; exact HMO.out, HB.out⟩
      case round =>
        clear HMO HB
        obtain ⟨x, hx, rfl, hmo, hbel⟩ := hrel
        have hsz := hbel.size
        have HMO := Lib.hid hmo
        have HB := Lib.hid hbel
        obtain ⟨c0, c1, c2, c3, c4⟩ := (HBX1.out.mono hbel).cells
        clear hmo hbel
        by_cases hlx : x < h
        · go_wp2_with fail
          obtain ⟨wo, hwo⟩ : ∃ wo, wo = wr := ⟨_, rfl⟩
          subst hwo
          clear c0 c1 c2 c3 c4
          go_loopw [9, 10] (fun o i wr => ∃ q m : Nat, q ≤ M ∧ i = .int .i64 q ∧ (colB g q x).length = m ∧ wr.ownsRow wo.heap.size 3 1 o m ((colB g q x).map colV) ∧ Below wo.heap.size wo wr) (fun _ i _ => M - (intOf i).toNat)
          case atStart => exact ⟨0, 0, Nat.zero_le _, rfl, rfl, World.ownsRow_made (base := wo.heap.size) (e := 3) (size := 1) wo #[] 0 (Nat.le_refl _) (by decide) rfl, (Below.refl _ _).alloc (Nat.le_refl _) _⟩
          case round =>
            obtain ⟨q, m, hq, rfl, hm, hown, hbel⟩ := hrel
            have hsz2 := hbel.size
            have HMQ := Lib.hid hm
            have hmq : m ≤ q := by rw [← hm]; exact fr_len _ _
            have HO := Lib.hid hown
            have HB2 := Lib.hid hbel
            have hb12 := HB.out.trans (hbel.mono hsz)
            have HB12 := Lib.hid hb12
            obtain ⟨c0, c1, c2, c3, c4⟩ := (HBX1.out.mono hb12).cells
            obtain ⟨ao, co, rfl, -, -⟩ := own_open hown
            have HKS : Hid ((k : Int) + (r : Int) = (M : Int)) := Lib.hid (by have := HMM.out; omega)
            have hks := HKS.out
            clear hm hown hbel
            by_cases hlq : q < M
            · have hcx := HC.out q hlq
              have hcy := (hb12.cell (p := ⟨bg, og + q, none⟩) (World.block_lt_of_cell? w1 _ hcx)).trans hcx
              have hX : g.getD q 0 < 2 ^ h ∧ pop (g.getD q 0) = (h + 1) / 2 := HGB.out _ (by
                have hil : q < g.length := by rw [HLN.out]; exact hlq
                rw [List.getD_eq_getElem?_getD, List.getElem?_eq_getElem hil]
                exact List.getElem_mem hil)
              have hp2 : 2 ^ h ≤ 2 ^ 10 := Nat.pow_le_pow_right (by decide) b3
              have HT1 : Hid ((g.getD q 0).testBit x = true → colB g (q + 1) x = colB g q x ++ [q]) := Lib.hid colB_one
              have HT2 : Hid ((g.getD q 0).testBit x = false → colB g (q + 1) x = colB g q x) := Lib.hid colB_none
              have hX1 : g.getD q 0 < 1024 := by have := hX.1; omega
              clear hcx hX hp2 hb12
              generalize g.getD q 0 = X at *
              cases hl : X.testBit x with
              | true =>
                have HS := Lib.hid (HT1.out hl)
                have HLD : Hid (∀ W, Calls Tryz.prog 102 #[.int .u64 (X : Int), .int .i64 (x : Int)] W fun e w' => e = .returned (.bool true) ∧ W = w') := Lib.hid fun W => by
                  have := Bit_any (w := W) X x (by omega)
                  rw [hl] at this
                  exact this
                clear hl HT1 HT2
                go_wp2_with fail
                refine (HLD.out _).mono ?_
                rintro e w2 ⟨rfl, rfl⟩
                go_wp2_with (at_builtin; refine wpList_append_own _ rfl (.tmp 73) (.tmp 75) 24 rfl wo.heap.size 3 i0 (.int .i64 0) 1 8 Tryz.underlying24 hi0 hz0 hz1 hz2 rfl (by decide) (.slice ao m co) m ((colB g q x).map colV) rfl (HO.out.alloc _) ⟨wr.heap.size, 0, none⟩ 1 1 [.int .i64 (q : Int)] rfl rfl (cell_one_new _ _ _) (fun x hx => by simp at hx; subst hx; rfl) (by unfold maxLen; omega) (by omega) (by simp; omega) ?_; intro v2 w4 hown1 hgrow1 _; have hb3 := Lib.hid ((HB2.out.alloc hsz2 _).grown hgrow1 (by simp; omega) (fun k hk => (HO.out.lt k hk).1)); have ho2 := Lib.hid hown1; clear hown1 hgrow1)
                go_roundw
                case rel => exact ⟨q + 1, m + 1, by omega, by go_num, by rw [HS.out, List.length_append, HMQ.out]; rfl, by rw [HS.out, List.map_append]; exact ho2.out, hb3.out⟩
                case measure => simp [intOf]; omega
              | false =>
                have HS := Lib.hid (HT2.out hl)
                have HLD : Hid (∀ W, Calls Tryz.prog 102 #[.int .u64 (X : Int), .int .i64 (x : Int)] W fun e w' => e = .returned (.bool false) ∧ W = w') := Lib.hid fun W => by
                  have := Bit_any (w := W) X x (by omega)
                  rw [hl] at this
                  exact this
                clear hl HT1 HT2
                go_wp2_with fail
                refine (HLD.out _).mono ?_
                rintro e w2 ⟨rfl, rfl⟩
                go_wp2
                go_roundw
                case rel => exact ⟨q + 1, m, by omega, by go_num, by rw [HS.out]; exact HMQ.out, by rw [HS.out]; exact HO.out, HB2.out⟩
                case measure => simp [intOf]; omega
            · obtain rfl : q = M := by omega
              have HMX : Hid ((q : Int) + (x : Int) = ((q + x : Nat) : Int)) := Lib.hid (by omega)
              have HROW : Hid (rowH k r g x = colB g q x ++ [q + x]) := Lib.hid (by unfold rowH; rw [HMM.out])
              have HLX : Hid (((List.range r).map (rowL k r) ++ (List.range x).map (rowH k r g)) ++ [rowH k r g x] = (List.range r).map (rowL k r) ++ (List.range (x + 1)).map (rowH k r g)) := Lib.hid (by rw [range_map_succ, List.append_assoc])
              have HE3 : Hid (∀ (v3 : Value) (w3 : World), w3.ownsRow wo.heap.size 3 1 v3 (m + 1) ((colB g q x).map colV ++ [.int .i64 ((q : Int) + (x : Int))]) → ElAt colV 3 w1.heap.size w3 v3 (rowH k r g x)) := Lib.hid fun v3 w3 ho => by
                rw [HROW.out]
                rw [HMX.out] at ho
                have e1 : (colB g q x).map colV ++ [.int .i64 ((q + x : Nat) : Int)] = (colB g q x ++ [q + x]).map colV := by rw [List.map_append]; rfl
                rw [e1] at ho
                exact ElAt.own ho
              clear hb12
              go_wp2_with (first
                | (at_builtin; refine wpList_append_own _ rfl (.tmp 78) (.tmp 86) 24 rfl wo.heap.size 3 i0 (.int .i64 0) 1 8 Tryz.underlying24 hi0 hz0 hz1 hz2 rfl (by decide) (.slice ao m co) m ((colB g q x).map colV) rfl (HO.out.alloc _) ⟨wr.heap.size, 0, none⟩ 1 1 [.int .i64 ((q : Int) + (x : Int))] rfl rfl (cell_one_new _ _ _) (fun x hx => by simp at hx; subst hx; rfl) (by unfold maxLen; omega) (by omega) (by simp; omega) ?_; intro v3 w3 hown1 hgrow1 _; have HB3 := Lib.hid ((HB2.out.alloc hsz2 _).grown hgrow1 (by simp; omega) (fun k hk => (HO.out.lt k hk).1)); have HEN := Lib.hid (HE3.out v3 w3 hown1); have HXB : Hid (∀ b, v3.ownBlock = some b → w1.heap.size ≤ b) := Lib.hid (fun b hb => Nat.le_trans hsz (hown1.lt b hb).1); obtain ⟨g3, q3, rfl⟩ := ownsRow_succ hown1; obtain ⟨vs, hown3, hel3, hfr3⟩ := HMO.out.mono HB3.out; have HFR := Lib.hid hfr3; rw [HLEN.out] at hown3; have HO3 := Lib.hid hown3; have HEL := Lib.hid hel3; have HB13 := Lib.hid (HB.out.trans (HB3.out.mono hsz)); have hsz3 := HB13.out.size; clear hown1 hgrow1 hown3 hel3 hfr3)
                | (at_builtin; refine wpList_append_own _ rfl (.tmp 77) (.tmp 88) 76 rfl w1.heap.size 24 j0 (.slice none 0 0) 1 24 Tryz.underlying76 hj0 jz0 jz1 jz2 rfl (by decide) u4 (r + x) vs rfl (HO3.out.alloc _) ⟨w3.heap.size, 0, none⟩ 1 1 [.slice (some ⟨g3, 0, none⟩) (m + 1) q3] rfl rfl (cell_one_new _ _ _) (fun x hx => by simp at hx; subst hx; rfl) (by unfold maxLen; omega) (by omega) (by simp; omega) ?_; intro v4 w4 hown1 hgrow1 _; have hb4 := Lib.hid ((HB13.out.alloc hsz3 _).grown hgrow1 (by simp; omega) (fun k hk => (HO3.out.lt k hk).1)); have ho4 : Hid (MatFresh colV 3 w1.heap.size 24 w4 v4 (((List.range r).map (rowL k r) ++ (List.range x).map (rowH k r g)) ++ [rowH k r g x])) := Lib.hid (MatFresh.app HFR.out HXB.out (by decide) (by rw [HLEN.out]; exact HO3.out) HEL.out HEN.out (by rw [HLEN.out]; exact hown1) hgrow1); clear hown1 hgrow1))
              go_roundw
              case rel => exact ⟨x + 1, by omega, by go_num, by rw [← HLX.out]; exact ho4.out, hb4.out⟩
              case measure => simp [intOf]; omega
        · obtain rfl : x = h := by omega
          have HAT : Hid (MatFresh colV 3 w.heap.size 24 wr u4 (rowsP k r x g)) := Lib.hid (HMO.out.below HB1.out.size)
          go_wp2
          go_ret
          exact ⟨_, g, rfl, by rw [HMM.out]; exact HGR.out, HAT.out, HB1.out.trans (HB.out.mono HB1.out.size)⟩
theorem rRows_any {w : World} (k s h l p : Nat) (H : OfP k s h l p) (hk1 : 1 ≤ k) (hk2 : k ≤ 128) :
    Calls Tryz.prog 66 #[parV k s h l p] w fun e w' => ∃ v g, e = .returned v ∧ IsGr ((h + 1) / 2) (k + s) g ∧ MatAt colV w' v (rowsP k s h g) ∧ Below w.heap.size w w' := by
  refine (rRows_new k s h l p H hk1 hk2).mono ?_
  rintro e w' ⟨v, g, rfl, h1, h2, h3⟩
  exact ⟨v, g, rfl, h1, h2.own.at, h3⟩
end Go.Proofs.YticoaioeeppapaaGreatDoor
end

section
/- Package ltrow: walk. -/
namespace Go.Proofs.YticoaioeeppapaaGreatDoor
open Go.RowKit Go.Extern.Stop Go.Stop Go.Extern

theorem take_set {vs : List Int} {k : Nat} {L : List Int} {x : Int} (h : vs.take k = L) (hk : k < vs.length) : (vs.set k x).take (k + 1) = L ++ [x] := by
  subst h
  rw [List.take_set, List.take_succ_eq_append_getElem hk, List.set_append]
  simp [Nat.le_of_lt hk]

set_option maxRecDepth 1000000 in
set_option maxHeartbeats 4000000 in
theorem walk_ok {w : World} (k s h l p d st a : Nat) (hp : IsP p) (hlp : l ≤ p) (hp2 : p ≤ 1000) (hs1 : 1 ≤ st) (hs2 : st < p) (ha : a < p) (hd : d ≤ l) :
    Calls Tryz.prog 92 #[parV k s h l p, tripV d st a] w fun e w' => ∃ g W, e = .returned (.slice (some ⟨g, 0, none⟩) d d) ∧ IsTr l p st a d W ∧ w'.ownsRow w.heap.size 3 1 (.slice (some ⟨g, 0, none⟩) d d) d ((W.map Int.ofNat).map intV) ∧ Below w.heap.size w w' := by
  obtain ⟨i0, hi, hz0, hz1, hz2⟩ := info_parts info_int
  obtain ⟨w0, hw0, hb0, hbx⟩ := par_laid w k s h l p
  obtain ⟨w1, hw1, hb1, hbt⟩ := trip_laid w0 d st a
  have hs0 : w0.heap.size = w.heap.size + 1 := by rw [hw0]; simp
  have hs3 : w1.heap.size = w.heap.size + 2 := by rw [hw1]; simp; omega
  have HW0 := Lib.hid hw0
  have HW1 := Lib.hid hw1
  have HB1 := Lib.hid (hb0.trans (hb1.mono hb0.size))
  rw [hs0] at hbt
  have HBX := Lib.hid (hbx.mono hb1)
  have HBT := Lib.hid hbt
  have HS3 := Lib.hid hs3
  obtain ⟨c0, c1, c2, c3, c4⟩ := HBX.out.cells
  obtain ⟨t0, t1, t2⟩ := HBT.out.cells
  have hsz1 := HB1.out.size
  have hdI : (d : Int) ≤ 1000 := by omega
  have HP := Lib.hid hp
  have hp1 : 2 ≤ p := hp.1
  have hpz : ((p : Int) == 0) = false := by simp; omega
  clear hw0 hw1 hb0 hb1 hbx hbt hs0 hs3 hp
  unfold parV parC tripV tripC
  go_enter Tryz.func92, Tryz.ntmps92
  go_upto_region 1 with fail
  rw [← HW0.out, ← HW1.out]
  go_wp2_with fail
  go_step3
  go_upto_region 2 with (at_make; refine wpList_make_full _ rfl _ _ 24 rfl w1.heap.size 3 i0 (.int .i64 0) 1 Tryz.underlying24 hi hz0 hz1 .i64 .i64 _ _ d rfl rfl rfl rfl (by rw [hz2]; omega) (by unfold maxLen; omega) (Nat.le_refl _) ?_; intro w2 hown0 hgrow0; have hb2 := Lib.hid ((Below.refl w1.heap.size w1).grown hgrow0 (Nat.le_refl _) (fun k hk => by cases hk)); have ho2 := Lib.hid hown0; clear hown0 hgrow0)
  have HB2 := Lib.hid (HB1.out.trans (hb2.out.mono HB1.out.size))
  have HBX2 := Lib.hid (HBX.out.mono hb2.out)
  have HBT2 := Lib.hid (HBT.out.mono hb2.out)
  clear c0 c1 c2 c3 c4 t0 t1 t2
  obtain ⟨c0, c1, c2, c3, c4⟩ := HBX2.out.cells
  obtain ⟨t0, t1, t2⟩ := HBT2.out.cells
  have HGG : Hid (w.heap.size ≠ w1.heap.size ∧ w.heap.size + 1 ≠ w1.heap.size ∧ w.heap.size ≤ w1.heap.size) := Lib.hid (by have := HS3.out; omega)
  clear hsz1
  generalize w1.heap.size = g at *
  go_wp2_with fail
  go_step3
  go_wp2_with fail
  go_loopg [6, 16] d (fun gk nx i wr => ∃ k' j : Nat, k' + gk = d ∧ i = .int .i64 (k' : Int) ∧ nx = .int .i64 (seqA p st a j : Int) ∧ (trW l p st a j).length = k' ∧ j ≤ p ∧ (∃ vs : List Int, vs.length = d ∧ vs.take k' = (trW l p st a j).map Int.ofNat ∧ wr.ownsRow w.heap.size 3 1 (.slice (some ⟨g, 0, none⟩) d d) d (vs.map intV)) ∧ ParBox wr w.heap.size k s h l p ∧ TripBox wr (w.heap.size + 1) d st a ∧ Below w.heap.size w wr)
  case atStart => exact ⟨0, 0, by omega, rfl, by rw [seqA_zero ha], rfl, by omega, ⟨List.replicate d 0, by simp, rfl, by rw [List.map_replicate]; have := ho2.out; rw [Nat.mul_one] at this; exact ownsRow_base (toList_madeCells_one (.int .i64 0) d ▸ this) HGG.out.2.2⟩, HBX2.out, HBT2.out, HB2.out⟩
  case round =>
    clear c0 c1 c2 c3 c4 t0 t1 t2 HBX2 HBT2 HB2 HBX HBT HB1 ho2 hb2 HW0 HW1 HS3
    obtain ⟨k', j, hkd, rfl, rfl, hlen, hj, ⟨vs, hvl, hvt, hown⟩, hx, ht, hbel⟩ := hrel
    have HX := Lib.hid hx
    have HTB := Lib.hid ht
    have HB := Lib.hid hbel
    have HO := Lib.hid hown
    have HVL := Lib.hid hvl
    have HVT := Lib.hid hvt
    have HLEN := Lib.hid hlen
    have HJ := Lib.hid hj
    obtain ⟨c0, c1, c2, c3, c4⟩ := hx.cells
    obtain ⟨t0, t1, t2⟩ := ht.cells
    obtain ⟨go, rfl⟩ : ∃ go, go = gk := ⟨gk, rfl⟩
    cases go with
    | zero =>
      obtain rfl : k' = d := by omega
      have HW : Hid (vs.take vs.length = (trW l p st a j).map Int.ofNat) := Lib.hid (by rw [hvl]; exact hvt)
      clear hkd hlen hj hvl hvt hown hx ht hbel
      go_wp2_with fail
      try rw [Exit.noGoto_ret]
      go_ret
      exact ⟨g, trW l p st a j, rfl, ⟨HLEN.out, j, HJ.out, rfl⟩, by have h1 := HO.out; have e := HW.out; rw [List.take_length] at e; rw [e] at h1; exact h1, HB.out⟩
    | succ go =>
      obtain ⟨ie, hi1, hi2, hi3, hi4⟩ := trW_more (a := a) HP.out hs1 hs2 hlp (show (trW l p st a j).length < l by omega)
      have HI3 := Lib.hid hi3
      have HI4 := Lib.hid hi4
      have hkd1 : k' < d := by omega
      have HGO : Hid (k' + 1 + go = d) := Lib.hid (by omega)
      have hy3 : wr.cell? ⟨g, k', none⟩ = some (.int .i64 (vs.getD k' 0)) := by
        rw [hown.cellAt k' (by omega)]
        simp [List.getD_eq_getElem?_getD, hvl, hkd1, intV]
      have hy4 : wr.frozen? ⟨g, k', none⟩ = false := hown.frozenAt k'
      generalize vs.getD k' 0 = z at hy3
      clear hkd hlen hj hvl hvt hown hx ht hbel hi3 hi4
      obtain ⟨wo, hwo⟩ : ∃ wo, wo = wr := ⟨_, rfl⟩
      subst hwo
      go_wp2_with fail
      go_loopg [6] p (fun gd nx wq => (∃ jj : Nat, nx = .int .i64 (seqA p st a jj : Int) ∧ j ≤ jj ∧ jj ≤ ie ∧ trW l p st a jj = trW l p st a j ∧ ie - jj < gd) ∧ wo = wq)
      case atStart => exact ⟨⟨j, rfl, by omega, hi1, rfl, by omega⟩, rfl⟩
      case round =>
        obtain ⟨⟨jj, rfl, h1, h2, h3, h4⟩, rfl⟩ := hrel
        obtain ⟨gd, rfl⟩ : ∃ gd, gk = gd + 1 := ⟨gk - 1, by omega⟩
        have hsu := seqA_succ p st a jj
        obtain ⟨x, hx⟩ : ∃ x, seqA p st a jj = x := ⟨_, rfl⟩
        obtain ⟨y, hy⟩ : ∃ y, seqA p st a (jj + 1) = y := ⟨_, rfl⟩
        have hxp : x < p := hx ▸ seqA_lt (by omega)
        rw [hx, hy] at hsu
        rw [hx]
        have hmod : ((x : Int) + (st : Int)) % (p : Int) = (y : Int) := by rw [hsu]; push_cast; rfl
        have HXX := Lib.hid hx
        have HYY := Lib.hid hy
        have H3 := Lib.hid h3
        clear hx hy hsu h3
        by_cases hlt : x < l
        · clear h4
          go_wp2_with fail
          go_roundg go
          case measure => omega
          case rel =>
            have hin : trW l p st a (jj + 1) = trW l p st a j ++ [x] := by rw [trW_in (by rw [HXX.out]; exact hlt), HXX.out, H3.out]
            exact ⟨k' + 1, jj + 1, HGO.out, by go_num, by rw [HYY.out, hmod], by rw [hin, List.length_append, HLEN.out]; rfl, by omega,
              ⟨vs.set k' (x : Int), by rw [List.length_set]; exact HVL.out, by rw [take_set HVT.out (by rw [HVL.out]; omega), hin, List.map_append]; rfl, by rw [List.map_set]; exact (HO.out.stored k' (.int .i64 (x : Int))).1⟩,
              HX.out.set HGG.out.1, HTB.out.set HGG.out.2.1, HB.out.setCell (p := ⟨g, k', none⟩) HGG.out.2.2 _⟩
        · go_wp2_with fail
          go_roundg gd
          case measure => omega
          case rel =>
            have hne : jj ≠ ie := by
              rintro rfl
              have := HI3.out
              rw [HXX.out] at this
              exact hlt this
            exact ⟨⟨jj + 1, by rw [HYY.out, hmod], by omega, by omega, by rw [trW_out (by rw [HXX.out]; exact hlt), H3.out], by omega⟩, rfl⟩
end Go.Proofs.YticoaioeeppapaaGreatDoor
end

section
/- slices.Sort at lists of numbers, by the shelf's contract (laid by name). -/
namespace Go.Proofs.YticoaioeeppapaaGreatDoor
open Go.Shelf Go.Sort

def Tryz.lays189_ren : Go.Shelf.Ren := ⟨fun | 125 => 119 | 128 => 145 | 129 => 146 | 189 => 93 | 215 => 158 | 216 => 142 | 257 => 118 | 294 => 136 | 295 => 137 | 296 => 138 | 297 => 139 | 298 => 140 | 299 => 141 | 300 => 143 | 301 => 144 | 328 => 153 | 329 => 154 | 330 => 155 | 331 => 156 | 332 => 157 | 343 => 160 | n => n, fun | 0 => 0 | 3 => 3 | 4 => 4 | 5 => 5 | 9 => 9 | 28 => 24 | 46 => 42 | 51 => 143 | 53 => 120 | 131 => 204 | 182 => 198 | 183 => 199 | 218 => 212 | 222 => 216 | 228 => 218 | 229 => 219 | n => n, fun | n => n⟩
theorem Tryz.lays189 : Go.Proofs.Lays.n189 Tryz.prog Tryz.lays189_ren := {
  mixed := by kernel_rfl
  f125 := Tryz.func119.trans (congrArg some (by kernel_rfl))
  f128 := Tryz.func145.trans (congrArg some (by kernel_rfl))
  f129 := Tryz.func146.trans (congrArg some (by kernel_rfl))
  f189 := Tryz.func93.trans (congrArg some (by kernel_rfl))
  f215 := Tryz.func158.trans (congrArg some (by kernel_rfl))
  f216 := Tryz.func142.trans (congrArg some (by kernel_rfl))
  f257 := Tryz.func118.trans (congrArg some (by kernel_rfl))
  f294 := Tryz.func136.trans (congrArg some (by kernel_rfl))
  f295 := Tryz.func137.trans (congrArg some (by kernel_rfl))
  f296 := Tryz.func138.trans (congrArg some (by kernel_rfl))
  f297 := Tryz.func139.trans (congrArg some (by kernel_rfl))
  f298 := Tryz.func140.trans (congrArg some (by kernel_rfl))
  f299 := Tryz.func141.trans (congrArg some (by kernel_rfl))
  f300 := Tryz.func143.trans (congrArg some (by kernel_rfl))
  f301 := Tryz.func144.trans (congrArg some (by kernel_rfl))
  f328 := Tryz.func153.trans (congrArg some (by kernel_rfl))
  f329 := Tryz.func154.trans (congrArg some (by kernel_rfl))
  f330 := Tryz.func155.trans (congrArg some (by kernel_rfl))
  f331 := Tryz.func156.trans (congrArg some (by kernel_rfl))
  f332 := Tryz.func157.trans (congrArg some (by kernel_rfl))
  f343 := Tryz.func160.trans (congrArg some (by kernel_rfl))
  t0 := Tryz.underlying0
  a0 := Tryz.isAgg0
  z0 := Tryz.sizeOf0
  v0 := Tryz.zeroValue0
  t3 := Tryz.underlying3
  a3 := Tryz.isAgg3
  z3 := Tryz.sizeOf3
  v3 := Tryz.zeroValue3
  t4 := Tryz.underlying4
  a4 := Tryz.isAgg4
  z4 := Tryz.sizeOf4
  v4 := Tryz.zeroValue4
  t5 := Tryz.underlying5
  a5 := Tryz.isAgg5
  z5 := Tryz.sizeOf5
  v5 := Tryz.zeroValue5
  t9 := Tryz.underlying9
  a9 := Tryz.isAgg9
  z9 := Tryz.sizeOf9
  v9 := Tryz.zeroValue9
  t28 := Tryz.underlying24
  a28 := Tryz.isAgg24
  z28 := Tryz.sizeOf24
  v28 := Tryz.zeroValue24
  t46 := Tryz.underlying42
  a46 := Tryz.isAgg42
  z46 := Tryz.sizeOf42
  v46 := Tryz.zeroValue42
  t51 := Tryz.underlying143
  a51 := Tryz.isAgg143
  z51 := Tryz.sizeOf143
  v51 := Tryz.zeroValue143
  t53 := Tryz.underlying120
  a53 := Tryz.isAgg120
  z53 := Tryz.sizeOf120
  v53 := Tryz.zeroValue120
  t131 := Tryz.underlying204
  a131 := Tryz.isAgg204
  z131 := Tryz.sizeOf204
  v131 := Tryz.zeroValue204
  t182 := Tryz.underlying198
  a182 := Tryz.isAgg198
  z182 := Tryz.sizeOf198
  v182 := Tryz.zeroValue198
  t183 := Tryz.underlying199
  a183 := Tryz.isAgg199
  z183 := Tryz.sizeOf199
  v183 := Tryz.zeroValue199
  t218 := Tryz.underlying212
  a218 := Tryz.isAgg212
  z218 := Tryz.sizeOf212
  v218 := Tryz.zeroValue212
  t222 := Tryz.underlying216
  a222 := Tryz.isAgg216
  z222 := Tryz.sizeOf216
  v222 := Tryz.zeroValue216
  t228 := Tryz.underlying218
  a228 := Tryz.isAgg218
  z228 := Tryz.sizeOf218
  v228 := Tryz.zeroValue218
  t229 := Tryz.underlying219
  a229 := Tryz.isAgg219
  z229 := Tryz.sizeOf219
  v229 := Tryz.zeroValue219 }
/-- slices.Sort, off its contract: a row of the call's own, of which the capacity is the length. -/
theorem Tryz.slices_Sort_int (blk off cap : Nat) (zs : List Int) (w : World) (hH : Holds (Value.int .i64) w blk off zs.toArray) (hblk : blk < w.heap.size) (hsz : zs.length < 4611686018427387904) :
    Calls Tryz.prog 93 #[.slice (some ⟨blk, off, none⟩) zs.length cap] w fun e w' => e = .returned (.tuple #[]) ∧ ∃ n os, w' = grow (putRow (Value.int .i64) (Sort.ahead w n) blk off (zs.mergeSort fun x y => decide (x ≤ y)).toArray) os :=
  Any.slices_Sort_int Tryz.lays189 blk off cap zs w hH hblk hsz
end Go.Proofs.YticoaioeeppapaaGreatDoor
end
