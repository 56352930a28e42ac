/- The tenth layer's law LtrowApart: the walk. -/
import Derived.Test.YtedadhoaegjhfaaDoorLaw10
namespace Go.Proofs.YtedadhoaegjhfaaDoor
open Go.RowKit Go.Extern.Stop Go.Stop Go.Extern

theorem wrapU_nonneg (k : Int) : 0 ≤ IntKind.u64.wrap k := by rw [IntKind.wrap_u64]; omega
theorem wrapU_rest (k : Int) {m : Nat} (hm : 0 < m) : ∃ a : Nat, (IntKind.u64.wrap k).tmod (m : Int) = (a : Int) ∧ a < m := by
  have h0 := wrapU_nonneg k
  have := Int.tmod_nonneg (m : Int) h0
  have := Int.tmod_lt_of_pos (IntKind.u64.wrap k) (b := (m : Int)) (by omega)
  exact ⟨((IntKind.u64.wrap k).tmod m).toNat, by omega, by omega⟩

theorem lWalk_open {w : World} (k s h l p d st a : Nat) (H : OfP k s h l p) (hk1 : 1 ≤ k) (hk2 : k ≤ 128) (hd1 : 1 ≤ d) (hd2 : d ≤ l) (hs1 : 1 ≤ st) (hs2 : st < p) (ha : a < p) :
    Calls Tryd.prog 13 #[.agg #[.int .i64 (k : Int), .int .i64 (s : Int), .int .i64 (h : Int), .int .i64 (l : Int), .int .i64 (p : Int)], .agg #[.int .i64 (d : Int), .int .i64 (st : Int), .int .i64 (a : Int)]] w fun e w' => ∃ b off cap L, e = .returned (.tuple #[.slice (some ⟨b, off, none⟩) d cap, .nilIface]) ∧ L.length = d ∧ d ≤ cap ∧ IsTr l p st a d L ∧ L.Nodup ∧ (∀ x ∈ L, x < l) ∧ ListAt intV w' (.slice (some ⟨b, off, none⟩) d cap) (L.map Int.ofNat) ∧ Below w.heap.size w w' := by
  refine (lWalk_ok k s h l p d st a H hk1 hk2 hd1 hd2 hs1 hs2 ha).mono ?_
  rintro e w' ⟨v, L, rfl, hw, hl, hb⟩
  have hl' := hl
  obtain ⟨ad, cap, rfl, hcap, -, hcell⟩ := hl
  have e1 := hw.1
  obtain rfl := e1
  obtain ⟨b, off, rfl, -⟩ := hcell (by rw [List.length_map]; omega)
  rw [List.length_map] at hcap hl' ⊢
  exact ⟨b, off, cap, L, rfl, rfl, hcap, hw, hw.nodup H.2.2.2.1 hs1 hs2, fun x hx => hw.lt hx, hl', hb⟩
theorem nodup_take {L : List Nat} {i : Nat} (hnd : L.Nodup) (hi : i < L.length) : ¬ L[i] ∈ L.take i := by
  intro hm
  obtain ⟨j, hj, e⟩ := List.getElem_of_mem hm
  rw [List.getElem_take] at e
  rw [List.length_take] at hj
  have hp := List.pairwise_iff_getElem.1 hnd j i (by omega) hi (by omega)
  exact hp e

set_option maxRecDepth 1000000 in
set_option maxHeartbeats 4000000 in
theorem apart10 {w : World} (k0 td ts ta : Int) (hT : DgTab w) : Calls Tryd.prog 6 #[.int .i64 k0, tripV td ts ta] w fun e w' => e = .returned (.bool true) ∧ Below w.heap.size w w' := by
  obtain ⟨w0, hw0, hb0, hbt⟩ := trip_laid w td ts ta
  have HW0 := Lib.hid hw0
  have HB0 := Lib.hid hb0
  have HBT := Lib.hid hbt
  have HT0 := Lib.hid hT
  obtain ⟨t0, t1, t2⟩ := hbt.cells
  obtain ⟨a, ha0, ha1⟩ := wrapU_rest k0 (m := 128) (by decide)
  have ha : (IntKind.u64.wrap k0).tmod 128 = (a : Int) := ha0
  obtain ⟨k, hk⟩ : ∃ k : Nat, 1 + (a : Int) = (k : Int) := ⟨a + 1, by omega⟩
  have hk1 : 1 ≤ k := by omega
  have hk2 : k ≤ 128 := by omega
  have HK := Lib.hid hk
  clear hk hw0 hb0 hbt hT ha0
  unfold tripV tripC
  go_enter Tryd.func6, Tryd.ntmps6
  go_upto_region 1 with fail
  rw [← HW0.out]
  go_wp2_with fail
  clear ha
  rw [HK.out]
  refine (rOf_any k hk1 hk2).mono ?_
  rintro e w1 ⟨s, h, l, p, rfl, hof, hb1⟩
  obtain ⟨b1, b2, b3, b4, b5, b6, b7⟩ := hof.bounds hk1 hk2
  have hpp : IsP p := hof.2.2.2.1
  have hp2 : 2 ≤ p := hof.2.2.2.two
  have hl1 : 1 ≤ l := by have := hof.2.2.1; omega
  have HOF := Lib.hid hof
  have HPP := Lib.hid hpp
  have HLP := Lib.hid b6
  obtain ⟨W, hW, hbW, hbx⟩ := par_laid w1 k s h l p
  have HW := Lib.hid hW
  have HBS1 := Lib.hid (hb1.trans (hbW.mono hb1.size))
  have HB1 := Lib.hid (HB0.out.trans (HBS1.out.mono HB0.out.size))
  have HBX := Lib.hid hbx
  have HGP0 : Hid (w.heap.size < w1.heap.size) := Lib.hid (Nat.lt_of_lt_of_le HBT.out.lt hb1.size)
  have HBT1 := Lib.hid (HBT.out.mono HBS1.out)
  obtain ⟨d0, hd0, hd1⟩ := wrapU_rest td (m := l) (by omega)
  obtain ⟨s0, hs0, hs1⟩ := wrapU_rest ts (m := p - 1) (by omega)
  obtain ⟨a0, ha0, ha1'⟩ := wrapU_rest ta (m := p) (by omega)
  rw [show ((p - 1 : Nat) : Int) = (p : Int) - 1 by omega] at hs0
  have hwp : IntKind.i64.wrap ((p : Int) - 1) = (p : Int) - 1 := IntWalk.i64_in _ (by omega)
  have hul : IntKind.u64.wrap (l : Int) = (l : Int) := by rw [IntKind.wrap_u64]; omega
  have hup : IntKind.u64.wrap (p : Int) = (p : Int) := by rw [IntKind.wrap_u64]; omega
  have huq : IntKind.u64.wrap ((p : Int) - 1) = (p : Int) - 1 := by rw [IntKind.wrap_u64]; omega
  have hwd : IntKind.i64.wrap (d0 : Int) = (d0 : Int) := IntWalk.i64_in _ (by omega)
  have hws : IntKind.i64.wrap (s0 : Int) = (s0 : Int) := IntWalk.i64_in _ (by omega)
  have hwa : IntKind.i64.wrap (a0 : Int) = (a0 : Int) := IntWalk.i64_in _ (by omega)
  have hwd1 : IntKind.i64.wrap (1 + (d0 : Int)) = 1 + (d0 : Int) := IntWalk.i64_in _ (by omega)
  have hws1 : IntKind.i64.wrap (1 + (s0 : Int)) = 1 + (s0 : Int) := IntWalk.i64_in _ (by omega)
  obtain ⟨c0, c1, c2, c3, c4⟩ := hbx.cells
  clear t0 t1 t2
  obtain ⟨t0, t1, t2⟩ := HBT1.out.cells
  obtain ⟨f0, f1, f2⟩ := HBT1.out.free
  clear hb1 hof hpp hW hbW hbx b1 b2 b3 b4
  unfold parV parC
  go_upto_region 2 with fail
  rw [← HW.out]
  have HGP : Hid (w1.heap.size ≠ w.heap.size) := Lib.hid (by have := HGP0.out; omega)
  generalize w1.heap.size = gp at *
  --F[
  go_region
  --F]
  obtain ⟨D, hD⟩ : ∃ D : Nat, 1 + (d0 : Int) = (D : Int) := ⟨d0 + 1, by omega⟩
  obtain ⟨S, hS⟩ : ∃ S : Nat, 1 + (s0 : Int) = (S : Int) := ⟨s0 + 1, by omega⟩
  rw [hD, hS]
  obtain ⟨V, hV, hbV, htV, hxV⟩ : ∃ V, V = (((W.setCell ⟨w.heap.size, 0, none⟩ (.int .i64 (D : Int))).setCell ⟨w.heap.size, 1, none⟩ (.int .i64 (S : Int))).setCell ⟨w.heap.size, 2, none⟩ (.int .i64 (a0 : Int))).drew ∧ Below w.heap.size w V ∧ TripBox V w.heap.size D S a0 ∧ ParBox V gp k s h l p :=
    ⟨_, rfl, (TripBox.below HB1.out (Nat.le_refl _) _ _ _).drew, HBT1.out.done _ _ _, ((HBX.out.set HGP.out).set HGP.out).set HGP.out⟩
  rw [← hV]
  have HBV := Lib.hid hbV
  have HTV := Lib.hid htV
  have HXV := Lib.hid hxV
  have HTD := Lib.hid (PairsAt.mono HT0.out hbV)
  have hD1 : 1 ≤ D := by omega
  have hD2 : D ≤ l := by omega
  have hS1 : 1 ≤ S := by omega
  have hS2 : S < p := by omega
  have HWK : Hid (∀ V, Calls Tryd.prog 13 #[.agg #[.int .i64 (k : Int), .int .i64 (s : Int), .int .i64 (h : Int), .int .i64 (l : Int), .int .i64 (p : Int)], .agg #[.int .i64 (D : Int), .int .i64 (S : Int), .int .i64 (a0 : Int)]] V fun e w' => ∃ b off cap L, e = .returned (.tuple #[.slice (some ⟨b, off, none⟩) D cap, .nilIface]) ∧ L.length = D ∧ D ≤ cap ∧ IsTr l p S a0 D L ∧ L.Nodup ∧ (∀ x ∈ L, x < l) ∧ ListAt intV w' (.slice (some ⟨b, off, none⟩) D cap) (L.map Int.ofNat) ∧ Below V.heap.size V w') := Lib.hid fun V => lWalk_open k s h l p D S a0 HOF.out hk1 hk2 hD1 hD2 hS1 hS2 ha1'
  clear hd0 hs0 ha0 hwp hul hup huq hwd hws hwa hwd1 hws1 hd1 hs1 hD hS hV hbV htV hxV c0 c1 c2 c3 c4 t0 t1 t2 f0 f1 f2
  obtain ⟨c0, c1, c2, c3, c4⟩ := HXV.out.cells
  obtain ⟨t0, t1, t2⟩ := HTV.out.cells
  go_wp2_with fail
  refine (HWK.out _).mono ?_
  rintro e w2 ⟨b, off, cap, L, rfl, hlen, hcap, -, hnd, hlt, hl, hb2⟩
  have HB2 := Lib.hid (HBV.out.trans (hb2.mono HBV.out.size))
  have HTV2 := Lib.hid (HTV.out.mono hb2)
  have HXV2 := Lib.hid (HXV.out.mono hb2)
  have HTD2 := Lib.hid (PairsAt.mono HTD.out hb2)
  have HL := Lib.hid hl
  have HND := Lib.hid hnd
  have HLT := Lib.hid hlt
  have HLEN := Lib.hid hlen
  have hDb : D ≤ 1000 := by omega
  have hne : ((D : Int) != (D : Int)) = false := by simp
  clear hb2 hnd hlt hl hlen c0 c1 c2 c3 c4 t0 t1 t2 b5 b6 b7 ha1 ha1' hS1 hS2 hl1 hp2 hk1 hk2 hD1 HWK HXV HTV HTD HBX HBT1 HBT HT0 HGP HGP0 HBS1 HB1 HB0 HK HOF HPP HLP HBV HW0 HW
  obtain ⟨c0, c1, c2, c3, c4⟩ := HXV2.out.cells
  obtain ⟨t0, t1, t2⟩ := HTV2.out.cells
  go_wp2_with fail
  clear c0 c1 c2 c3 c4 t0 t1 t2
  go_loopw [8] (fun i wr => ∃ q : Nat, q ≤ D ∧ i = .int .i64 (q : Int) ∧ Below w2.heap.size w2 wr) (fun i _ => D - (intOf i).toNat)
  case atStart => exact ⟨0, Nat.zero_le _, rfl, Below.refl _ _⟩
  case round =>
    obtain ⟨q, hq, rfl, hbel⟩ := hrel
    have HB := Lib.hid hbel
    obtain ⟨c0, c1, c2, c3, c4⟩ := (HXV2.out.mono hbel).cells
    by_cases hlt : q < D
    · obtain ⟨x, hx⟩ : ∃ x, L.getD q 0 = x := ⟨_, rfl⟩
      have hqL : q < L.length := by rw [HLEN.out]; exact hlt
      have hxL : L[q] = x := by rw [← hx]; simp [hqL]
      have hxlt : x < l := HLT.out x (hxL ▸ List.getElem_mem hqL)
      have hnin : ¬ x ∈ L.take q := hxL ▸ nodup_take HND.out hqL
      have hy : wr.cell? ⟨b, off + q, none⟩ = some (.int .i64 (x : Int)) := by
        obtain ⟨a', cap', e, -, -, hcell⟩ := HL.out.mono hbel
        cases e
        obtain ⟨b', off', e, hc⟩ := hcell (by rw [List.length_map]; omega)
        cases e
        have := hc q (by rw [List.length_map]; exact hqL)
        rw [this, List.getElem_map, hxL]
        rfl
      have HIN : Hid (∀ nd : Nat, Calls Tryd.prog 20 #[.slice (some ⟨b, off, none⟩) q cap, .int .i64 (x : Int)] (wr.drewN nd) fun e w'' => e = .returned (.bool false) ∧ w'' = wr.drewN nd) := Lib.hid fun nd => by
        have hl2 := (HL.out.mono hbel).mono (below_draws (Below.refl wr.heap.size wr) nd)
        have hl3 : ListAt intV (wr.drewN nd) (.slice (some ⟨b, off, none⟩) q cap) ((L.take q).map Int.ofNat) := by
          have := ListAt.take (l := L.map Int.ofNat) (a := some ⟨b, off, none⟩) (cap := cap) (w := wr.drewN nd) (f := intV) (by rw [List.length_map, HLEN.out]; exact hl2) q (by rw [List.length_map]; omega)
          rwa [← List.map_take] at this
        refine (In_any _ _ (x : Int) hl3).mono ?_
        rintro e w' ⟨rfl, rfl⟩
        exact ⟨by rw [decide_eq_false (by rw [mem_mapI]; exact hnin)], rfl⟩
      have hqc : (q : Int) ≤ (cap : Int) := by omega
      have hd1 : decide ((x : Int) < 0) = false := decide_eq_false (by omega)
      have hd2 : decide ((l : Int) ≤ (x : Int)) = false := decide_eq_false (by omega)
      have hd3 : decide (l ≤ x) = false := decide_eq_false (by omega)
      clear hbel hx hxL hnin hqL
      go_wp2_with fail
      go_quiet (exact Calls.quiet_of_same (HIN.out _))
      go_wp2
      go_roundw
      case rel => exact ⟨q + 1, by omega, by go_num, below_draws HB.out _⟩
      case measure => simp [intOf]; omega
    · clear hbel
      go_wp2_with fail
      refine (awake10 _ (PairsAt.mono HTD2.out HB.out)).mono ?_
      rintro e w3 ⟨rfl, hb3⟩
      have HB3 := Lib.hid (HB2.out.trans ((HB.out.trans (hb3.mono HB.out.size)).mono HB2.out.size))
      clear hb3
      go_wp2
      go_ret
      exact ⟨rfl, HB3.out⟩
end Go.Proofs.YtedadhoaegjhfaaDoor
