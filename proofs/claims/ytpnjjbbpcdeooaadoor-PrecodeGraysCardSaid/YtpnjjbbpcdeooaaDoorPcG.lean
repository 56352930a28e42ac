/- The document's rows: ldpc, Rows, In. -/
import Derived.Test.YtpnjjbbpcdeooaaDoorPcF
import Derived.Test.YtpnjjbbpcdeooaaDoorPkIn
import Derived.Maps.AppendAt
namespace Go.Proofs.YtpnjjbbpcdeooaaDoor
open Go.RowKit Go.Extern.Stop Go.Stop Go.Extern

set_option maxRecDepth 1000000 in
set_option maxHeartbeats 1000000 in
theorem ldpc_any {w : World} (k s h l p r i : Nat) (h3 : 3 ≤ s) (hs : s ≤ 19) (hk : k ≤ 128) (hr : r < s) (hi : i < k + s) :
    Calls Tryd.prog 24 #[parV k s h l p, .int .i64 (r : Int), .int .i64 (i : Int)] w fun e w' => e = .returned (.bool (ldB k s r i)) ∧ Below w.heap.size w w' := by
  obtain ⟨w0, hw0, hb0, hbx⟩ := par_laid w k s h l p
  have HW0 := Lib.hid hw0
  have HB0 := Lib.hid hb0
  obtain ⟨c0, c1, c2, c3, c4⟩ := hbx.cells
  clear hw0 hb0 hbx
  unfold parV parC
  by_cases hki : k ≤ i
  · have HE := Lib.hid (ldB_far (s := s) (row := r) hki)
    have d1 : decide ((k : Int) ≤ (i : Int)) = true := decide_eq_true (by omega)
    have d2 : decide (k ≤ i) = true := decide_eq_true hki
    by_cases he : i = k + r
    · have HD := Lib.hid (HE.out.trans (decide_eq_true he))
      have hb : ((i : Int) == (k : Int) + (r : Int)) = true := by rw [beq_iff_eq]; omega
      clear he
      go_enter Tryd.func24, Tryd.ntmps24
      go_upto_region 1 with fail
      rw [← HW0.out]
      go_wp2
      go_ret
      exact ⟨by rw [HD.out]; rfl, HB0.out⟩
    · have HD := Lib.hid (HE.out.trans (decide_eq_false he))
      have hb : ((i : Int) == (k : Int) + (r : Int)) = false := by rw [beq_eq_false_iff_ne]; omega
      clear he
      go_enter Tryd.func24, Tryd.ntmps24
      go_upto_region 1 with fail
      rw [← HW0.out]
      go_wp2
      go_ret
      exact ⟨by rw [HD.out]; rfl, HB0.out⟩
  · have HE := Lib.hid (ldB_near (s := s) (row := r) (show i < k by omega))
    have d1 : decide ((k : Int) ≤ (i : Int)) = false := decide_eq_false (by omega)
    have d2 : decide (k ≤ i) = false := decide_eq_false hki
    have hs0 : (s : Int) ≠ 0 := by omega
    have hs1 : ((s : Int) == 0) = false := by rw [beq_eq_false_iff_ne]; exact hs0
    have hs2 : (s : Int) - 1 ≠ 0 := by omega
    have hs3 : ((s : Int) - 1 == 0) = false := by rw [beq_eq_false_iff_ne]; exact hs2
    have HA : Hid (wrap64 (1 + (wrap64 ((i : Int) / (s : Int))).tmod ((s : Int) - 1)) = ((ldA s i : Nat) : Int)) := Lib.hid (ldA_int h3 (by omega) (by omega))
    have HBv : Hid ((i : Int) % (s : Int) = ((i % s : Nat) : Int)) := Lib.hid (Int.natCast_emod _ _).symm
    have l1 : i % s < s := Nat.mod_lt _ (by omega)
    have a1 : ldA s i ≤ s := by unfold ldA; have := Nat.mod_lt (i / s) (show s - 1 > 0 by omega); omega
    have l2 : (i % s + ldA s i) % s < s := Nat.mod_lt _ (by omega)
    have l3 : (i % s + 2 * ldA s i) % s < s := Nat.mod_lt _ (by omega)
    have hY : ((i % s : Nat) : Int) + ((ldA s i : Nat) : Int) = ((i % s + ldA s i : Nat) : Int) := by omega
    have hZ : ((i % s : Nat) : Int) + 2 * ((ldA s i : Nat) : Int) = ((i % s + 2 * ldA s i : Nat) : Int) := by omega
    have hY2 : (((i % s : Nat) : Int) + ((ldA s i : Nat) : Int)) % (s : Int) = (((i % s + ldA s i) % s : Nat) : Int) := by rw [hY]; exact (Int.natCast_emod _ _).symm
    have hZ2 : (((i % s : Nat) : Int) + 2 * ((ldA s i : Nat) : Int)) % (s : Int) = (((i % s + 2 * ldA s i) % s : Nat) : Int) := by rw [hZ]; exact (Int.natCast_emod _ _).symm
    have HY2 := Lib.hid hY2
    have HZ2 := Lib.hid hZ2
    obtain ⟨x, hx⟩ : ∃ x, i % s = x := ⟨_, rfl⟩
    obtain ⟨a, ha⟩ : ∃ a, ldA s i = a := ⟨_, rfl⟩
    rw [hx] at HE HBv HY2 HZ2 l1 l2 l3
    rw [ha] at HE HA HY2 HZ2 a1 l2 l3
    obtain ⟨y, hy⟩ : ∃ y, (x + a) % s = y := ⟨_, rfl⟩
    obtain ⟨z, hz⟩ : ∃ z, (x + 2 * a) % s = z := ⟨_, rfl⟩
    rw [hy] at HE HY2 l2
    rw [hz] at HE HZ2 l3
    have HP : Hid ((r = x ∧ ((r : Int) == (x : Int)) = true) ∨ (r ≠ x ∧ ((r : Int) == (x : Int)) = false)) := Lib.hid (by
      by_cases e : r = x
      · exact .inl ⟨e, by rw [beq_iff_eq]; omega⟩
      · exact .inr ⟨e, by rw [beq_eq_false_iff_ne]; omega⟩)
    have HQ : Hid ((r = y ∧ ((r : Int) == (y : Int)) = true) ∨ (r ≠ y ∧ ((r : Int) == (y : Int)) = false)) := Lib.hid (by
      by_cases e : r = y
      · exact .inl ⟨e, by rw [beq_iff_eq]; omega⟩
      · exact .inr ⟨e, by rw [beq_eq_false_iff_ne]; omega⟩)
    have HS : Hid ((r = z ∧ ((r : Int) == (z : Int)) = true) ∨ (r ≠ z ∧ ((r : Int) == (z : Int)) = false)) := Lib.hid (by
      by_cases e : r = z
      · exact .inl ⟨e, by rw [beq_iff_eq]; omega⟩
      · exact .inr ⟨e, by rw [beq_eq_false_iff_ne]; omega⟩)
    clear hY hZ hY2 hZ2 hx ha hy hz
    go_enter Tryd.func24, Tryd.ntmps24
    go_upto_region 1 with fail
    rw [← HW0.out]
    go_wp2_with fail
    go_quiet (fail)
    have hd := below_draws (Below.refl w0.heap.size w0) nq
    have HB1 := Lib.hid (HB0.out.trans (hd.mono HB0.out.size))
    rw [HA.out]
    clear hd
    have c0 : (w0.drewN nq).cell? ⟨w.heap.size, 0, none⟩ = some (.int .i64 (k : Int)) := c0
    have c1 : (w0.drewN nq).cell? ⟨w.heap.size, 1, none⟩ = some (.int .i64 (s : Int)) := c1
    generalize w0.drewN nq = wq at *
    have hbv := HBv.out
    have hY2 := HY2.out
    have hZ2 := HZ2.out
    rcases HP.out with ⟨e1, p1⟩ | ⟨e1, p1⟩
    · have HD : Hid (ldB k s r i = true) := Lib.hid (by rw [HE.out, decide_eq_true e1]; rfl)
      clear e1
      go_wp2
      go_ret
      exact ⟨by rw [HD.out]; rfl, HB1.out⟩
    · rcases HQ.out with ⟨e2, p2⟩ | ⟨e2, p2⟩
      · have HD : Hid (ldB k s r i = true) := Lib.hid (by rw [HE.out, decide_eq_true e2]; simp)
        clear e1 e2
        go_wp2
        go_ret
        exact ⟨by rw [HD.out]; rfl, HB1.out⟩
      · rcases HS.out with ⟨e3, p3⟩ | ⟨e3, p3⟩
        · have HD : Hid (ldB k s r i = true) := Lib.hid (by rw [HE.out, decide_eq_true e3]; simp)
          clear e1 e2 e3
          go_wp2
          go_ret
          exact ⟨by rw [HD.out]; rfl, HB1.out⟩
        · have HD : Hid (ldB k s r i = false) := Lib.hid (by rw [HE.out, decide_eq_false e1, decide_eq_false e2, decide_eq_false e3]; rfl)
          clear e1 e2 e3
          go_wp2
          go_ret
          exact ⟨by rw [HD.out]; rfl, HB1.out⟩

theorem range_map_succ {α : Type} (f : Nat → α) (n : Nat) : (List.range (n + 1)).map f = (List.range n).map f ++ [f n] := by rw [List.range_succ, List.map_append]; rfl

set_option maxRecDepth 1000000 in
set_option maxHeartbeats 8000000 in
theorem rRows_any {w : World} (k s h l p : Nat) (H : OfP k s h l p) (hk1 : 1 ≤ k) (hk2 : k ≤ 128) :
    Calls Tryd.prog 12 #[parV k s h l p] w fun e w' => ∃ v g, e = .returned v ∧ IsGr ((h + 1) / 2) (k + s) g ∧ MatAt colV w' v (rowsP k s h g) ∧ Below w.heap.size w w' := by
  obtain ⟨i0, hi0, hz0, hz1, hz2⟩ := info_parts info_int
  obtain ⟨j0, hj0, jz0, jz1, jz2⟩ := info_parts info_ints
  obtain ⟨w0, hw0, hb0, hbx⟩ := par_laid w k s h l p
  have HW0 := Lib.hid hw0
  have HB0 := Lib.hid hb0
  have HBX := Lib.hid hbx
  obtain ⟨c0, c1, c2, c3, c4⟩ := hbx.cells
  obtain ⟨b1, b2, b3, b4, b5, b6, b7⟩ := H.bounds hk1 hk2
  have HOF := Lib.hid H
  clear hw0 hb0 hbx H
  unfold parV parC
  go_enter Tryd.func12, Tryd.ntmps12
  go_upto_region 1 with fail
  rw [← HW0.out]
  go_wp2_with fail
  obtain ⟨M, hM⟩ : ∃ M, k + s = M := ⟨_, rfl⟩
  have HMM := Lib.hid hM
  have hM1 : M ≤ 147 := by omega
  have hM2 : 1 ≤ M := by omega
  rw [show ((h : Int) + 1) / 2 = (((h + 1) / 2 : Nat) : Int) by omega, show (k : Int) + (s : Int) = (M : Int) by omega]
  clear hM
  refine (rGray_any ((h + 1) / 2) M (by omega) (by omega)).mono ?_
  rintro e w1 ⟨vg, g, rfl, hgr, hgl, hb1⟩
  have HGR := Lib.hid hgr
  rw [← HMM.out] at hgr
  obtain ⟨hln, hgb⟩ := gr_of HOF.out hk1 hk2 hgr
  rw [HMM.out] at hln
  have HGB := Lib.hid hgb
  have HLN := Lib.hid hln
  obtain ⟨ag, cg, rfl, hcg, -, hcell⟩ := hgl
  rw [hln] at hcg ⊢
  obtain ⟨bg, og, rfl, hgc⟩ := hcell (by rw [hln]; omega)
  have HC : Hid (∀ i, i < M → w1.cell? ⟨bg, og + i, none⟩ = some (.int .i64 ((g.getD i 0 : Nat) : Int))) := Lib.hid fun i hi => by
    have hil : i < g.length := by rw [hln]; exact hi
    rw [hgc i hil]
    simp [hil, colV]
  have HBX1 := Lib.hid (HBX.out.mono hb1)
  have HB1 := Lib.hid (HB0.out.trans (hb1.mono HB0.out.size))
  clear hgr hln hgb hb1 hcell hgc c0 c1 c2 c3 c4
  go_wp2
  go_loopw [4, 5] (fun o i wr => ∃ r : Nat, r ≤ s ∧ i = .int .i64 r ∧ MatOwn colV 3 w1.heap.size 24 wr o ((List.range r).map (rowL k s)) ∧ Below w1.heap.size w1 wr) (fun _ i _ => s - (intOf i).toNat)
  case atStart => exact ⟨0, Nat.zero_le _, rfl, MatOwn.start w1 (Nat.le_refl _), (Below.refl _ _).alloc (Nat.le_refl _) _⟩
  case round =>
    obtain ⟨r, hr, rfl, hmo, hbel⟩ := hrel
    have hsz := hbel.size
    have HMO := Lib.hid hmo
    have HB := Lib.hid hbel
    obtain ⟨c0, c1, c2, c3, c4⟩ := (HBX1.out.mono hbel).cells
    clear hmo hbel
    by_cases hlt : r < s
    · go_wp2_with fail
      obtain ⟨wo, hwo⟩ : ∃ wo, wo = wr := ⟨_, rfl⟩
      subst hwo
      clear c0 c1 c2 c3 c4
      go_loopw [6, 7] (fun o i wr => ∃ q m : Nat, q ≤ M ∧ i = .int .i64 q ∧ ((List.range q).filter (ldB k s r)).length = m ∧ wr.ownsRow wo.heap.size 3 1 o m (((List.range q).filter (ldB k s r)).map colV) ∧ Below wo.heap.size wo wr) (fun _ i _ => M - (intOf i).toNat)
      case atStart => exact ⟨0, 0, Nat.zero_le _, rfl, rfl, World.ownsRow_made (base := wo.heap.size) (e := 3) (size := 1) wo #[] 0 (Nat.le_refl _) (by decide) rfl, (Below.refl _ _).alloc (Nat.le_refl _) _⟩
      case round =>
        obtain ⟨q, m, hq, rfl, hm, hown, hbel⟩ := hrel
        have hsz2 := hbel.size
        have HMQ := Lib.hid hm
        have hmq : m ≤ q := by rw [← hm]; exact fr_len _ _
        have HO := Lib.hid hown
        have HB2 := Lib.hid hbel
        have hbx2 := HBX1.out.mono (HB.out.trans (hbel.mono hsz))
        have HBX2 := Lib.hid hbx2
        obtain ⟨c0, c1, c2, c3, c4⟩ := hbx2.cells
        obtain ⟨ao, co, rfl, -, -⟩ := own_open hown
        have HKS : Hid ((k : Int) + (s : Int) = (M : Int)) := Lib.hid (by have := HMM.out; omega)
        have hks := HKS.out
        clear hm hown hbel hbx2
        by_cases hlq : q < M
        · have HLD : Hid (∀ W, Calls Tryd.prog 24 #[.agg #[.int .i64 (k : Int), .int .i64 (s : Int), .int .i64 (h : Int), .int .i64 (l : Int), .int .i64 (p : Int)], .int .i64 (r : Int), .int .i64 (q : Int)] W fun e w' => e = .returned (.bool (ldB k s r q)) ∧ Below W.heap.size W w') := Lib.hid fun W => ldpc_any k s h l p r q b1 b2 hk2 hlt (by have := HMM.out; omega)
          cases hl : ldB k s r q with
          | true =>
            rw [hl] at HLD
            have HS : Hid ((List.range (q + 1)).filter (ldB k s r) = (List.range q).filter (ldB k s r) ++ [q]) := Lib.hid (fr_one hl)
            clear hl
            go_wp2_with fail
            refine (HLD.out _).mono ?_
            rintro e w2 ⟨rfl, hb2⟩
            have HO2 := Lib.hid (owns_kept HO.out hb2)
            have HB3 := Lib.hid (HB2.out.trans (hb2.mono hsz2))
            have hsz3 := HB3.out.size
            clear c0 c1 c2 c3 c4 hb2
            go_wp2_with (at_builtin; refine wpList_append_own _ rfl (.tmp 42) (.tmp 44) 24 rfl wo.heap.size 3 i0 (.int .i64 0) 1 8 Tryd.underlying24 hi0 hz0 hz1 hz2 rfl (by decide) (.slice ao m co) m (((List.range q).filter (ldB k s r)).map colV) rfl (HO2.out.alloc _) ⟨w2.heap.size, 0, none⟩ 1 1 [.int .i64 (q : Int)] rfl rfl (cell_one_new _ _ _) (fun x hx => by simp at hx; subst hx; rfl) (by unfold maxLen; omega) (by omega) (by simp; omega) ?_; intro v2 w4 hown1 hgrow1 _; have hb3 := Lib.hid ((HB3.out.alloc hsz3 _).grown hgrow1 (by simp; omega) (fun k hk => (HO2.out.lt k hk).1)); have ho2 := Lib.hid hown1; clear hown1 hgrow1)
            go_roundw
            case rel => exact ⟨q + 1, m + 1, by omega, by go_num, by rw [HS.out, List.length_append, HMQ.out]; rfl, by rw [HS.out, List.map_append]; exact ho2.out, hb3.out⟩
            case measure => simp [intOf]; omega
          | false =>
            rw [hl] at HLD
            have HS : Hid ((List.range (q + 1)).filter (ldB k s r) = (List.range q).filter (ldB k s r)) := Lib.hid (fr_none hl)
            clear hl
            go_wp2_with fail
            refine (HLD.out _).mono ?_
            rintro e w2 ⟨rfl, hb2⟩
            have HO2 := Lib.hid (owns_kept HO.out hb2)
            have HB3 := Lib.hid (HB2.out.trans (hb2.mono hsz2))
            clear c0 c1 c2 c3 c4 hb2
            go_wp2
            go_roundw
            case rel => exact ⟨q + 1, m, by omega, by go_num, by rw [HS.out]; exact HMQ.out, by rw [HS.out]; exact HO2.out, HB3.out⟩
            case measure => simp [intOf]; omega
        · obtain rfl : q = M := by omega
          obtain ⟨vs, hown, hel⟩ := HMO.out.mono HB2.out
          rw [List.length_map, List.length_range] at hown
          have HO3 := Lib.hid hown
          have HEL := Lib.hid hel
          have HEN : Hid (ElAt colV 3 w1.heap.size wr (.slice ao m co) (rowL k s r)) := Lib.hid (by
            have := HO.out
            unfold rowL
            rw [HMM.out]
            exact ElAt.own this)
          have HB3 := Lib.hid (HB.out.trans (HB2.out.mono hsz))
          have hsz3 := HB3.out.size
          clear hown hel
          go_wp2_with (at_builtin; refine wpList_append_own _ rfl (.tmp 46) (.tmp 48) 33 rfl w1.heap.size 24 j0 (.slice none 0 0) 1 24 Tryd.underlying33 hj0 jz0 jz1 jz2 rfl (by decide) u4 r vs rfl (HO3.out.alloc _) ⟨wr.heap.size, 0, none⟩ 1 1 [.slice ao m co] rfl rfl (cell_one_new _ _ _) (fun x hx => by simp at hx; subst hx; rfl) (by unfold maxLen; omega) (by omega) (by simp; omega) ?_; intro v2 w4 hown1 hgrow1 _; have hb3 := Lib.hid ((HB3.out.alloc hsz3 _).grown hgrow1 (by simp; omega) (fun k hk => (HO3.out.lt k hk).1)); have ho2 : Hid (MatOwn colV 3 w1.heap.size 24 w4 v2 ((List.range r).map (rowL k s) ++ [rowL k s r])) := Lib.hid (MatOwn.app (by decide) (by rw [List.length_map, List.length_range]; exact HO3.out) HEL.out HEN.out (by rw [List.length_map, List.length_range]; exact hown1) hgrow1); clear hown1 hgrow1)
          go_roundw
          case rel => exact ⟨r + 1, by omega, by go_num, by rw [range_map_succ]; exact ho2.out, hb3.out⟩
          case measure => simp [intOf]; omega
    · obtain rfl : r = s := by omega
      have HLL : ∀ x, ((List.range r).map (rowL k r) ++ (List.range x).map (rowH k r g)).length = r + x := fun x => by simp
      have HLEN := Lib.hid HLL
      clear HLL
      go_wp2_with fail
      obtain ⟨wa, hwa⟩ : ∃ wa, wa = wr := ⟨_, rfl⟩
      subst hwa
      clear c0 c1 c2 c3 c4
      go_loopw [4, 8] (fun o i wr => ∃ x : Nat, x ≤ h ∧ i = .int .i64 x ∧ MatOwn colV 3 w1.heap.size 24 wr o ((List.range r).map (rowL k r) ++ (List.range x).map (rowH k r g)) ∧ Below w1.heap.size w1 wr) (fun _ i _ => h - (intOf i).toNat)
      case atStart => exact ⟨0, Nat.zero_le _, rfl, by rw [show (List.range 0).map (rowH k r g) = [] from rfl, List.append_nil]; exact HMO.out, HB.out⟩
      case round =>
        clear HMO HB
        obtain ⟨x, hx, rfl, hmo, hbel⟩ := hrel
        have hsz := hbel.size
        have HMO := Lib.hid hmo
        have HB := Lib.hid hbel
        obtain ⟨c0, c1, c2, c3, c4⟩ := (HBX1.out.mono hbel).cells
        clear hmo hbel
        by_cases hlx : x < h
        · go_wp2_with fail
          obtain ⟨wo, hwo⟩ : ∃ wo, wo = wr := ⟨_, rfl⟩
          subst hwo
          clear c0 c1 c2 c3 c4
          go_loopw [9, 10] (fun o i wr => ∃ q m : Nat, q ≤ M ∧ i = .int .i64 q ∧ (colB g q x).length = m ∧ wr.ownsRow wo.heap.size 3 1 o m ((colB g q x).map colV) ∧ Below wo.heap.size wo wr) (fun _ i _ => M - (intOf i).toNat)
          case atStart => exact ⟨0, 0, Nat.zero_le _, rfl, rfl, World.ownsRow_made (base := wo.heap.size) (e := 3) (size := 1) wo #[] 0 (Nat.le_refl _) (by decide) rfl, (Below.refl _ _).alloc (Nat.le_refl _) _⟩
          case round =>
            obtain ⟨q, m, hq, rfl, hm, hown, hbel⟩ := hrel
            have hsz2 := hbel.size
            have HMQ := Lib.hid hm
            have hmq : m ≤ q := by rw [← hm]; exact fr_len _ _
            have HO := Lib.hid hown
            have HB2 := Lib.hid hbel
            have hb12 := HB.out.trans (hbel.mono hsz)
            have HB12 := Lib.hid hb12
            obtain ⟨c0, c1, c2, c3, c4⟩ := (HBX1.out.mono hb12).cells
            obtain ⟨ao, co, rfl, -, -⟩ := own_open hown
            have HKS : Hid ((k : Int) + (r : Int) = (M : Int)) := Lib.hid (by have := HMM.out; omega)
            have hks := HKS.out
            clear hm hown hbel
            by_cases hlq : q < M
            · have hcx := HC.out q hlq
              have hcy := (hb12.cell (p := ⟨bg, og + q, none⟩) (World.block_lt_of_cell? w1 _ hcx)).trans hcx
              have hX : g.getD q 0 < 2 ^ h ∧ pop (g.getD q 0) = (h + 1) / 2 := HGB.out _ (by
                have hil : q < g.length := by rw [HLN.out]; exact hlq
                rw [List.getD_eq_getElem?_getD, List.getElem?_eq_getElem hil]
                exact List.getElem_mem hil)
              have hp2 : 2 ^ h ≤ 2 ^ 10 := Nat.pow_le_pow_right (by decide) b3
              have HT1 : Hid ((g.getD q 0).testBit x = true → colB g (q + 1) x = colB g q x ++ [q]) := Lib.hid colB_one
              have HT2 : Hid ((g.getD q 0).testBit x = false → colB g (q + 1) x = colB g q x) := Lib.hid colB_none
              have hX1 : g.getD q 0 < 1024 := by have := hX.1; omega
              clear hcx hX hp2 hb12
              generalize g.getD q 0 = X at *
              cases hl : X.testBit x with
              | true =>
                have HS := Lib.hid (HT1.out hl)
                have HLD : Hid (∀ W, Calls Tryd.prog 25 #[.int .u64 (X : Int), .int .i64 (x : Int)] W fun e w' => e = .returned (.bool true) ∧ W = w') := Lib.hid fun W => by
                  have := Bit_any (w := W) X x (by omega)
                  rw [hl] at this
                  exact this
                clear hl HT1 HT2
                go_wp2_with fail
                refine (HLD.out _).mono ?_
                rintro e w2 ⟨rfl, rfl⟩
                go_wp2_with (at_builtin; refine wpList_append_own _ rfl (.tmp 73) (.tmp 75) 24 rfl wo.heap.size 3 i0 (.int .i64 0) 1 8 Tryd.underlying24 hi0 hz0 hz1 hz2 rfl (by decide) (.slice ao m co) m ((colB g q x).map colV) rfl (HO.out.alloc _) ⟨wr.heap.size, 0, none⟩ 1 1 [.int .i64 (q : Int)] rfl rfl (cell_one_new _ _ _) (fun x hx => by simp at hx; subst hx; rfl) (by unfold maxLen; omega) (by omega) (by simp; omega) ?_; intro v2 w4 hown1 hgrow1 _; have hb3 := Lib.hid ((HB2.out.alloc hsz2 _).grown hgrow1 (by simp; omega) (fun k hk => (HO.out.lt k hk).1)); have ho2 := Lib.hid hown1; clear hown1 hgrow1)
                go_roundw
                case rel => exact ⟨q + 1, m + 1, by omega, by go_num, by rw [HS.out, List.length_append, HMQ.out]; rfl, by rw [HS.out, List.map_append]; exact ho2.out, hb3.out⟩
                case measure => simp [intOf]; omega
              | false =>
                have HS := Lib.hid (HT2.out hl)
                have HLD : Hid (∀ W, Calls Tryd.prog 25 #[.int .u64 (X : Int), .int .i64 (x : Int)] W fun e w' => e = .returned (.bool false) ∧ W = w') := Lib.hid fun W => by
                  have := Bit_any (w := W) X x (by omega)
                  rw [hl] at this
                  exact this
                clear hl HT1 HT2
                go_wp2_with fail
                refine (HLD.out _).mono ?_
                rintro e w2 ⟨rfl, rfl⟩
                go_wp2
                go_roundw
                case rel => exact ⟨q + 1, m, by omega, by go_num, by rw [HS.out]; exact HMQ.out, by rw [HS.out]; exact HO.out, HB2.out⟩
                case measure => simp [intOf]; omega
            · obtain rfl : q = M := by omega
              have HMX : Hid ((q : Int) + (x : Int) = ((q + x : Nat) : Int)) := Lib.hid (by omega)
              have HROW : Hid (rowH k r g x = colB g q x ++ [q + x]) := Lib.hid (by unfold rowH; rw [HMM.out])
              have HLX : Hid (((List.range r).map (rowL k r) ++ (List.range x).map (rowH k r g)) ++ [rowH k r g x] = (List.range r).map (rowL k r) ++ (List.range (x + 1)).map (rowH k r g)) := Lib.hid (by rw [range_map_succ, List.append_assoc])
              have HE3 : Hid (∀ (v3 : Value) (w3 : World), w3.ownsRow wo.heap.size 3 1 v3 (m + 1) ((colB g q x).map colV ++ [.int .i64 ((q : Int) + (x : Int))]) → ElAt colV 3 w1.heap.size w3 v3 (rowH k r g x)) := Lib.hid fun v3 w3 ho => by
                rw [HROW.out]
                rw [HMX.out] at ho
                have e1 : (colB g q x).map colV ++ [.int .i64 ((q + x : Nat) : Int)] = (colB g q x ++ [q + x]).map colV := by rw [List.map_append]; rfl
                rw [e1] at ho
                exact ElAt.own ho
              clear hb12
              go_wp2_with (first
                | (at_builtin; refine wpList_append_own _ rfl (.tmp 78) (.tmp 86) 24 rfl wo.heap.size 3 i0 (.int .i64 0) 1 8 Tryd.underlying24 hi0 hz0 hz1 hz2 rfl (by decide) (.slice ao m co) m ((colB g q x).map colV) rfl (HO.out.alloc _) ⟨wr.heap.size, 0, none⟩ 1 1 [.int .i64 ((q : Int) + (x : Int))] rfl rfl (cell_one_new _ _ _) (fun x hx => by simp at hx; subst hx; rfl) (by unfold maxLen; omega) (by omega) (by simp; omega) ?_; intro v3 w3 hown1 hgrow1 _; have HB3 := Lib.hid ((HB2.out.alloc hsz2 _).grown hgrow1 (by simp; omega) (fun k hk => (HO.out.lt k hk).1)); have HEN := Lib.hid (HE3.out v3 w3 hown1); obtain ⟨g3, q3, rfl⟩ := ownsRow_succ hown1; obtain ⟨vs, hown3, hel3⟩ := HMO.out.mono HB3.out; rw [HLEN.out] at hown3; have HO3 := Lib.hid hown3; have HEL := Lib.hid hel3; have HB13 := Lib.hid (HB.out.trans (HB3.out.mono hsz)); have hsz3 := HB13.out.size; clear hown1 hgrow1 hown3 hel3)
                | (at_builtin; refine wpList_append_own _ rfl (.tmp 77) (.tmp 88) 33 rfl w1.heap.size 24 j0 (.slice none 0 0) 1 24 Tryd.underlying33 hj0 jz0 jz1 jz2 rfl (by decide) u4 (r + x) vs rfl (HO3.out.alloc _) ⟨w3.heap.size, 0, none⟩ 1 1 [.slice (some ⟨g3, 0, none⟩) (m + 1) q3] rfl rfl (cell_one_new _ _ _) (fun x hx => by simp at hx; subst hx; rfl) (by unfold maxLen; omega) (by omega) (by simp; omega) ?_; intro v4 w4 hown1 hgrow1 _; have hb4 := Lib.hid ((HB13.out.alloc hsz3 _).grown hgrow1 (by simp; omega) (fun k hk => (HO3.out.lt k hk).1)); have ho4 : Hid (MatOwn colV 3 w1.heap.size 24 w4 v4 (((List.range r).map (rowL k r) ++ (List.range x).map (rowH k r g)) ++ [rowH k r g x])) := Lib.hid (MatOwn.app (by decide) (by rw [HLEN.out]; exact HO3.out) HEL.out HEN.out (by rw [HLEN.out]; exact hown1) hgrow1); clear hown1 hgrow1))
              go_roundw
              case rel => exact ⟨x + 1, by omega, by go_num, by rw [← HLX.out]; exact ho4.out, hb4.out⟩
              case measure => simp [intOf]; omega
        · obtain rfl : x = h := by omega
          have HAT : Hid (MatAt colV wr u4 (rowsP k r x g)) := Lib.hid HMO.out.at
          go_wp2
          go_ret
          exact ⟨_, g, rfl, by rw [HMM.out]; exact HGR.out, HAT.out, HB1.out.trans (HB.out.mono HB1.out.size)⟩
end Go.Proofs.YtpnjjbbpcdeooaaDoor
