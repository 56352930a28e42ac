/- The tenth layer's law LtrowWhole: the walk. -/
import Derived.Test.YtedadhoaegjhfaaDoorLaw10A
namespace Go.Proofs.YtedadhoaegjhfaaDoor
open Go.RowKit Go.Extern.Stop Go.Stop Go.Extern

theorem Row_open {w : World} (k s h l p seed esi : Nat) (H : OfP k s h l p) (hk1 : 1 ≤ k) (hk2 : k ≤ 128) (hs : seed < 65536) (he : esi < 65536) (hT : DgTab w) :
    Calls Tryd.prog 17 #[.agg #[.int .i64 (k : Int), .int .i64 (s : Int), .int .i64 (h : Int), .int .i64 (l : Int), .int .i64 (p : Int)], .int .i64 (seed : Int), .int .i64 (esi : Int)] w fun e w' => ∃ b off cap W, e = .returned (.tuple #[.slice (some ⟨b, off, none⟩) (trD l (mixN esi seed)) cap, .nilIface]) ∧ IsTr l p (trS p (mixN esi seed)) (trA p (mixN esi seed)) (trD l (mixN esi seed)) W ∧ (risN l W).length = trD l (mixN esi seed) ∧ ListAt intV w' (.slice (some ⟨b, off, none⟩) (trD l (mixN esi seed)) cap) ((risN l W).map Int.ofNat) ∧ Below w.heap.size w w' := by
  have hl1 : 1 ≤ l := by have := H.2.2.1; omega
  have hp2 : 2 ≤ p := H.2.2.2.two
  refine (Row_ok k s h l p seed esi H hk1 hk2 hs he hT).mono ?_
  rintro e w' ⟨v, W, rfl, hw, hl, hb⟩
  have bD := trD_bd (y := mixN esi seed) hl1
  have bS := trS_bd (y := mixN esi seed) hp2
  have hlen : (risN l W).length = trD l (mixN esi seed) := by
    rw [risN_length (hw.nodup H.2.2.2.1 bS.1 bS.2) (fun x hx => hw.lt hx), hw.1]
  have hl' := hl
  obtain ⟨ad, cap, rfl, hcap, -, hcell⟩ := hl
  obtain ⟨b, off, rfl, -⟩ := hcell (by rw [List.length_map]; omega)
  rw [List.length_map, hlen] at hl' ⊢
  exact ⟨b, off, cap, W, rfl, hw, hlen, hl', hb⟩

set_option maxRecDepth 1000000 in
set_option maxHeartbeats 4000000 in
theorem whole10 {w : World} (k0 seed0 esi0 : Int) (hT : DgTab w) : Calls Tryd.prog 7 #[.int .i64 k0, .int .i64 seed0, .int .i64 esi0] w fun e w' => e = .returned (.bool true) ∧ Below w.heap.size w w' := by
  have HT0 := Lib.hid hT
  obtain ⟨a, ha0, ha1⟩ := wrapU_rest k0 (m := 128) (by decide)
  have ha : (IntKind.u64.wrap k0).tmod 128 = (a : Int) := ha0
  obtain ⟨se, hse0, hse⟩ := wrapU_rest seed0 (m := 65536) (by decide)
  have hsd : (IntKind.u64.wrap seed0).tmod 65536 = (se : Int) := hse0
  obtain ⟨es, hes0, hes⟩ := wrapU_rest esi0 (m := 65536) (by decide)
  have hsi : (IntKind.u64.wrap esi0).tmod 65536 = (es : Int) := hes0
  obtain ⟨k, hk⟩ : ∃ k : Nat, 1 + (a : Int) = (k : Int) := ⟨a + 1, by omega⟩
  have hk1 : 1 ≤ k := by omega
  have hk2 : k ≤ 128 := by omega
  have HK := Lib.hid hk
  clear hk ha0 hT hse0 hes0
  go_enter Tryd.func7, Tryd.ntmps7
  go_wp2_with fail
  clear ha
  rw [HK.out]
  refine (rOf_any k hk1 hk2).mono ?_
  rintro e w1 ⟨s, h, l, p, rfl, hof, hb1⟩
  obtain ⟨b1, b2, b3, b4, b5, b6, b7⟩ := hof.bounds hk1 hk2
  have hp2 : 2 ≤ p := hof.2.2.2.two
  have hl1 : 1 ≤ l := by have := hof.2.2.1; omega
  have bD := trD_bd (y := mixN es se) hl1
  have bS := trS_bd (y := mixN es se) hp2
  have bA := trA_bd (y := mixN es se) hp2
  have HRO : Hid (∀ V, DgTab V → Calls Tryd.prog 17 #[.agg #[.int .i64 (k : Int), .int .i64 (s : Int), .int .i64 (h : Int), .int .i64 (l : Int), .int .i64 (p : Int)], .int .i64 (se : Int), .int .i64 (es : Int)] V fun e w' => ∃ b off cap W, e = .returned (.tuple #[.slice (some ⟨b, off, none⟩) (trD l (mixN es se)) cap, .nilIface]) ∧ IsTr l p (trS p (mixN es se)) (trA p (mixN es se)) (trD l (mixN es se)) W ∧ (risN l W).length = trD l (mixN es se) ∧ ListAt intV w' (.slice (some ⟨b, off, none⟩) (trD l (mixN es se)) cap) ((risN l W).map Int.ofNat) ∧ Below V.heap.size V w') := Lib.hid fun V hV => Row_open k s h l p se es hof hk1 hk2 (by omega) (by omega) hV
  have HTR : Hid (∀ V, DgTab V → Calls Tryd.prog 8 #[.agg #[.int .i64 (k : Int), .int .i64 (s : Int), .int .i64 (h : Int), .int .i64 (l : Int), .int .i64 (p : Int)], .int .i64 (se : Int), .int .i64 (es : Int)] V fun e w' => e = .returned (.tuple #[.agg #[.int .i64 (trD l (mixN es se) : Nat), .int .i64 (trS p (mixN es se) : Nat), .int .i64 (trA p (mixN es se) : Nat)], .nilIface]) ∧ Below V.heap.size V w') := Lib.hid fun V hV => Trip_ok k s h l p se es hof hk1 hk2 (by omega) (by omega) hV
  obtain ⟨D, hD⟩ : ∃ D, trD l (mixN es se) = D := ⟨_, rfl⟩
  obtain ⟨S, hS⟩ : ∃ S, trS p (mixN es se) = S := ⟨_, rfl⟩
  obtain ⟨A, hA⟩ : ∃ A, trA p (mixN es se) = A := ⟨_, rfl⟩
  rw [hD, hS, hA] at HRO HTR
  rw [hD] at bD
  rw [hS] at bS
  rw [hA] at bA
  have HWK : Hid (∀ V, Calls Tryd.prog 13 #[.agg #[.int .i64 (k : Int), .int .i64 (s : Int), .int .i64 (h : Int), .int .i64 (l : Int), .int .i64 (p : Int)], .agg #[.int .i64 (D : Int), .int .i64 (S : Int), .int .i64 (A : Int)]] V fun e w' => ∃ b off cap L, e = .returned (.tuple #[.slice (some ⟨b, off, none⟩) D cap, .nilIface]) ∧ L.length = D ∧ D ≤ cap ∧ IsTr l p S A D L ∧ L.Nodup ∧ (∀ x ∈ L, x < l) ∧ ListAt intV w' (.slice (some ⟨b, off, none⟩) D cap) (L.map Int.ofNat) ∧ Below V.heap.size V w') := Lib.hid fun V => lWalk_open k s h l p D S A hof hk1 hk2 bD.1 bD.2 bS.1 bS.2 bA
  obtain ⟨W, hW, hbW, hbx⟩ := par_laid w1 k s h l p
  have HW := Lib.hid hW
  have HB1 := Lib.hid (hb1.trans (hbW.mono hb1.size))
  have HBX := Lib.hid hbx
  have HDB : Hid (D ≤ 1000 ∧ 1 ≤ D) := Lib.hid ⟨by omega, bD.1⟩
  obtain ⟨c0, c1, c2, c3, c4⟩ := hbx.cells
  clear hb1 hW hbW hbx hof b1 b2 b3 b4 b5 b6 b7 hp2 hl1 bD bS bA hD hS hA
  unfold parV parC
  go_upto_region 2 with fail
  rw [← HW.out]
  generalize w1.heap.size = gp at *
  go_wp2_with fail
  refine (HTR.out _ (PairsAt.mono HT0.out HB1.out)).mono ?_
  rintro e w2 ⟨rfl, hb2⟩
  obtain ⟨w3, hw3, hb3, hbt⟩ := trip_laid w2 D S A
  have HW3 := Lib.hid hw3
  have HBS3 := Lib.hid (hb2.trans (hb3.mono hb2.size))
  have HB3 := Lib.hid (HB1.out.trans (HBS3.out.mono HB1.out.size))
  have HBT3 := Lib.hid hbt
  clear hw3 hb2 hb3 hbt c0 c1 c2 c3 c4
  obtain ⟨c0, c1, c2, c3, c4⟩ := (HBX.out.mono HBS3.out).cells
  obtain ⟨t0, t1, t2⟩ := HBT3.out.cells
  go_upto_region 5 with fail
  rw [← HW3.out]
  generalize w2.heap.size = gt at *
  go_wp2_with fail
  refine (HWK.out _).mono ?_
  rintro e w4 ⟨b4, off4, cap4, L, rfl, hlen, hcap, hw, hnd, hlt, hl, hb4⟩
  have HL := Lib.hid hl
  have HLW := Lib.hid hw
  have HLEN := Lib.hid hlen
  have HBS4 := Lib.hid (HBS3.out.trans (hb4.mono HBS3.out.size))
  have HB4 := Lib.hid (HB3.out.trans (hb4.mono HB3.out.size))
  have HBT4 := Lib.hid (HBT3.out.mono hb4)
  clear hlen hcap hw hnd hlt hl hb4 c0 c1 c2 c3 c4 t0 t1 t2
  obtain ⟨c0, c1, c2, c3, c4⟩ := (HBX.out.mono HBS4.out).cells
  go_wp2_with fail
  refine (HRO.out _ (PairsAt.mono HT0.out HB4.out)).mono ?_
  rintro e w5 ⟨b5, off5, cap5, L5, rfl, hw, hlen, hl, hb5⟩
  obtain rfl := hw.unique HLW.out
  have HR := Lib.hid hl
  have HRL := Lib.hid hlen
  have HL5 := Lib.hid (HL.out.mono hb5)
  have HB5 := Lib.hid (HB4.out.trans (hb5.mono HB4.out.size))
  have HBT5 := Lib.hid (HBT4.out.mono hb5)
  obtain ⟨hDb, hD1⟩ := HDB.out
  have hne : ((D : Int) != (D : Int)) = false := by simp
  clear hw hlen hl hb5 c0 c1 c2 c3 c4
  obtain ⟨t0, t1, t2⟩ := HBT5.out.cells
  go_wp2_with fail
  clear t0 t1 t2
  have HPW := Lib.hid (risN_sorted l L5)
  have HMM : Hid (∀ x ∈ risN l L5, x ∈ L5) := Lib.hid fun x hx => (mem_risN.1 hx).2
  generalize risN l L5 = R at *
  go_loopw [14] (fun i wr => ∃ q : Nat, q ≤ D ∧ i = .int .i64 (q : Int) ∧ Below w5.heap.size w5 wr) (fun i _ => D - (intOf i).toNat)
  case atStart => exact ⟨0, Nat.zero_le _, rfl, Below.refl _ _⟩
  case round =>
    obtain ⟨q, hq, rfl, hbel⟩ := hrel
    have HB := Lib.hid hbel
    by_cases hlt : q < D
    · have hqL : q < R.length := by rw [HRL.out]; exact hlt
      have HCELL : Hid (∀ j, j < D → wr.cell? ⟨b5, off5 + j, none⟩ = some (.int .i64 (R.getD j 0 : Nat))) := Lib.hid fun j hj => by
        obtain ⟨a', cap', e, -, -, hcell⟩ := HR.out.mono hbel
        cases e
        obtain ⟨b', off', e, hc⟩ := hcell (by rw [List.length_map]; omega)
        cases e
        have hjR : j < R.length := by rw [HRL.out]; exact hj
        have := hc j (by rw [List.length_map]; exact hjR)
        rw [this, List.getElem_map]
        simp [hjR, intV]
      obtain ⟨x, hx⟩ : ∃ x, R.getD q 0 = x := ⟨_, rfl⟩
      have hxL : R[q] = x := by rw [← hx]; simp [hqL]
      have hin : x ∈ L5 := HMM.out x (hxL ▸ List.getElem_mem hqL)
      have hy := HCELL.out q hlt
      rw [hx] at hy
      have HIN : Hid (∀ nd : Nat, Calls Tryd.prog 20 #[.slice (some ⟨b4, off4, none⟩) D cap4, .int .i64 (x : Int)] (wr.drewN nd) fun e w'' => e = .returned (.bool true) ∧ w'' = wr.drewN nd) := Lib.hid fun nd => by
        have hl2 := (HL5.out.mono hbel).mono (below_draws (Below.refl wr.heap.size wr) nd)
        refine (In_any _ _ (x : Int) hl2).mono ?_
        rintro e w' ⟨rfl, rfl⟩
        exact ⟨by rw [decide_eq_true (by rw [mem_mapI]; exact hin)], rfl⟩
      by_cases hq0 : q = 0
      · subst hq0
        rw [Nat.add_zero] at hy
        clear hbel hx hxL hin hqL
        go_wp2_with fail
        go_quiet (exact Calls.quiet_of_same (HIN.out _))
        go_wp2
        go_roundw
        case rel => exact ⟨1, by omega, by go_num, below_draws HB.out _⟩
        case measure => simp [intOf]; omega
      · obtain ⟨j, rfl⟩ : ∃ j, q = j + 1 := ⟨q - 1, by omega⟩
        obtain ⟨z, hz⟩ : ∃ z, R.getD j 0 = z := ⟨_, rfl⟩
        have hjR : j < R.length := by omega
        have hzL : R[j] = z := by rw [← hz]; simp [hjR]
        have hord : z < x := by rw [← hzL, ← hxL]; exact (List.pairwise_iff_getElem.1 HPW.out) j (j + 1) hjR hqL (by omega)
        have hy2 := HCELL.out j (by omega)
        rw [hz] at hy2
        have hj0 : (0 : Int) < (j : Int) + 1 := by omega
        have hdc : ¬ ((x : Int) ≤ (z : Int)) := by omega
        have hdd : decide ((x : Int) ≤ (z : Int)) = false := decide_eq_false hdc
        clear hbel hx hxL hin hqL hz hzL hjR
        rw [show ((j + 1 : Nat) : Int) = (j : Int) + 1 from by omega]
        go_wp2_with fail
        go_quiet (exact Calls.quiet_of_same (HIN.out _))
        go_wp2
        go_roundw
        case rel => exact ⟨j + 2, by omega, by go_num, below_draws HB.out _⟩
        case measure => simp [intOf]; omega
    · have HT5 := Lib.hid (PairsAt.mono HT0.out (HB5.out.trans (hbel.mono HB5.out.size)))
      clear hbel
      go_wp2_with fail
      refine (awake10 _ HT5.out).mono ?_
      rintro e w6 ⟨rfl, hb6⟩
      have HB6 := Lib.hid (HB5.out.trans ((HB.out.trans (hb6.mono HB.out.size)).mono HB5.out.size))
      clear hb6
      go_wp2
      go_ret
      exact ⟨rfl, HB6.out⟩
end Go.Proofs.YtedadhoaegjhfaaDoor
