/- The sixteenth layer's law WirePuts. (Made by gen16p.py.) -/
import Derived.Test.YtmihpbdgilmdiaaDoorLaw16
import Derived.Test.YtmihpbdgilmdiaaDoorLaw16T
import Derived.Test.YtmihpbdgilmdiaaDoorErrRow
import Derived.Laws.AppendOwnNone
namespace Go.Proofs.YtmihpbdgilmdiaaDoor
open Go.RowKit Go.Extern.Stop Go.Stop Go.Extern

/-- What Put says: a row, and why not. -/
theorem wrPut_both (hP : WrPutC) (p : Pkt) (hF : FitsP p) : ∃ L : List Nat, (ckN p = 0 → L = putP p) ∧ (ckN p ≠ 0 → L = []) ∧ ∀ (V : World) (D : Value), ListAt byteV V D p.data →
    Calls Tryd.prog 12 #[pktV p D] V fun e w' => ∃ v1 E, e = .returned (.tuple #[v1, E]) ∧ ErrAns (ckN p) nameWrPut w' E ∧ w'.ownsRow V.heap.size 5 1 v1 L.length (L.map byteV) ∧ Below V.heap.size V w' := by
  by_cases hk : ckN p = 0
  · refine ⟨putP p, fun _ => rfl, fun h => absurd hk h, fun V D hD => (hP V p D hD hF).mono ?_⟩
    rintro e w' ⟨hb, ⟨h, -⟩ | ⟨-, v', rfl, ho⟩⟩
    · exact absurd hk h
    · exact ⟨v', _, rfl, by rw [hk]; exact ErrAns.none _ _, ho, hb⟩
  · refine ⟨[], fun h => absurd h hk, fun _ => rfl, fun V D hD => (hP V p D hD hF).mono ?_⟩
    rintro e w' ⟨hb, ⟨-, E, rfl, he⟩ | ⟨h, -⟩⟩
    · exact ⟨_, E, rfl, he, World.ownsRow_nil _ _ _ _, hb⟩
    · exact absurd h hk

set_option linter.unusedSimpArgs false in
set_option maxRecDepth 1000000 in
set_option maxHeartbeats 8000000 in
theorem puts16 (hP : WrPutC) (hG : WrGetC) {w : World} (p : Pkt) (D : Value) (hD : ListAt byteV w D p.data) (hF : FitsP p) (hR : p.data.length * 1 ≤ reachBytes) (hg : Laid w) :
    Calls Tryd.prog 4 #[pktV p D] w fun e w' => e = .returned (.bool true) ∧ Below w.heap.size w w' := by
  have hR2 : p.data.length ≤ 140737488351232 := by unfold reachBytes at hR; omega
  have HAW := Lib.hid (awake16 hP hG)
  have HG := Lib.hid hg
  obtain ⟨LB, hLB0, hLB1, hput⟩ := wrPut_both hP p hF
  have HPUT := Lib.hid hput
  have HLB0 := Lib.hid hLB0
  have HLB1 := Lib.hid hLB1
  have hlen := hD.len
  obtain ⟨ad, cd, hDe, -, -, -⟩ := id hD
  subst hDe
  obtain ⟨W0, hW0, hb0, hx0⟩ := pkt_laid w p (.slice ad p.data.length cd)
  have HW0 := Lib.hid hW0
  have HB0 := Lib.hid hb0
  have HX0 := Lib.hid hx0
  have HDD := Lib.hid hD
  have HF := Lib.hid hF
  have HCP := Lib.hid (copied_any (w := W0) p _ (hD.mono hb0) (by omega))
  have HRC : Hid (∀ V : World, Below w.heap.size w V → Calls Tryd.prog 10 #[.agg (pktC p (.slice ad p.data.length cd))] V fun e w' => e = .returned (.int .i64 (ckN p)) ∧ Below V.heap.size V w') := Lib.hid fun V hV => rCheck_any p _ (hD.mono hV) hF
  have HRP : Hid (ckN p = 0 → ∀ V : World, Below w.heap.size w V → Calls Tryd.prog 13 #[.agg (pktC p (.slice ad p.data.length cd))] V fun e w' => ∃ v', e = .returned v' ∧ w'.ownsRow V.heap.size 5 1 v' (putP p).length ((putP p).map byteV) ∧ Below V.heap.size V w') := Lib.hid fun h0 V hV => rPut_any p _ (hD.mono hV) hF.octs (ckN_zero.1 h0).1 (ckN_zero.1 h0).2
  unfold pktV at HCP
  unfold pktV
  clear hP hG hW0 hb0 hx0 hg hD hF hR hput hLB0 hLB1
  go_enter Tryd.func4, Tryd.ntmps4
  go_upto_region 1 with fail
  rw [← HW0.out]
  go_wp2_with ((with_reducible show wpList _ _ _ (⟨some 8, _, _, _, _, _⟩ :: _) _ _); refine wpList_load_row rfl 26 (.tmp 1) rfl w.heap.size rfl 26 _ (0, 0) _ HX0.out Tryd.underlying26 rfl (by kernel_rfl) ?_)
  refine HCP.out.mono ?_
  rintro e w1 ⟨D2, rfl, ho1, hb1⟩
  obtain ⟨ao, co, hD2, hco, hao⟩ := own_open ho1
  subst hD2
  obtain ⟨w2, hw2, hb2, hx2⟩ := pkt_laid w1 p (.slice ao p.data.length co)
  have HW2 := Lib.hid hw2
  have HB1 := Lib.hid (HB0.out.trans (hb1.mono HB0.out.size))
  have HB2 := Lib.hid (HB1.out.trans (hb2.mono HB1.out.size))
  have HAO := Lib.hid hao
  have HO1W := Lib.hid ho1
  have HO1 := Lib.hid (ownsRow_base ho1 HB0.out.size)
  have HX2 := Lib.hid hx2
  have HY2 := Lib.hid ((HX0.out.mono hb1).mono hb2)
  have HO2 := Lib.hid (owns_kept HO1.out hb2)
  have HPC := Lib.hid (HPUT.out w2 _ (ListAt.of_owns (f := byteV) HO2.out))
  unfold pktV at HPC
  clear ho1 hb1 hw2 hb2 hx2 hao
  go_upto_region 2 with ((with_reducible show wpList _ _ _ (⟨none, _, _, _, _, _⟩ :: _) _ _); refine wpList_storeRow0 _ rfl 26 (.tmp 3) (.tmp 9) rfl rfl rfl (by kernel_rfl) (by rfl) (by kernel_rfl) ?_)
  rw [← HW2.out]
  go_wp2_with ((with_reducible show wpList _ _ _ (⟨some 11, _, _, _, _, _⟩ :: _) _ _); refine wpList_load_row rfl 26 (.tmp 3) rfl w1.heap.size rfl 26 _ (0, 0) _ HX2.out Tryd.underlying26 rfl (by kernel_rfl) ?_)
  refine HPC.out.mono ?_
  rintro e w3 ⟨vb, E, rfl, he, hvb, hb3⟩
  obtain ⟨ab, qb, hvbe, -, -⟩ := own_open hvb
  subst hvbe
  have HSZ2 := Lib.hid HX2.out.lt
  have HSZ3 := Lib.hid hb3.size
  have HB3 := Lib.hid (HB2.out.trans (hb3.mono HB2.out.size))
  have HO3 := Lib.hid (owns_kept HO2.out hb3)
  have HX3 := Lib.hid (HX2.out.mono hb3)
  have HY3 := Lib.hid (HY2.out.mono hb3)
  have HE3 := Lib.hid he
  have HV3 := Lib.hid hvb
  clear he hvb hb3
  go_wp2_with fail
  go_loopw [6] (fun i wr => ∃ (k : Nat) (R : List Nat), k ≤ p.data.length ∧ i = .int .i64 (k : Int) ∧ R.length = p.data.length ∧ Octets R ∧ wr.ownsRow w.heap.size 5 1 (.slice ao p.data.length co) p.data.length (R.map byteV) ∧ w3.grownBy wr (Value.slice ao p.data.length co).ownBlock ∧ (p.data.length = 0 → w3 = wr)) (fun i _ => p.data.length - (intOf i).toNat)
  case atStart => exact ⟨0, p.data, by omega, rfl, rfl, HF.out.octs, HO3.out, World.grownBy.refl _ _, fun _ => rfl⟩
  case round =>
    obtain ⟨k, R, hk, rfl, hRl, hRo, hown, hgr, hz0⟩ := hrel
    have HX4 : Hid (PktBox wr w1.heap.size p (.slice ao p.data.length co)) := Lib.hid ((hgr.block _ HX3.out.lt (fun e => by
        have h2 := (HO1.out.lt _ e.symm).2
        omega)).trans HX3.out)
    have c10 := HX4.out.cells.c10
    by_cases hlt : k < p.data.length
    · obtain ⟨g, rfl⟩ := HAO.out (by omega)
      have d2 : decide ((k : Int) < (p.data.length : Int)) = true := decide_eq_true (by omega)
      have hcell := hown.cellAt k (by omega)
      have hx : R.getD k 0 < 256 := hRo.getD k
      have hcell' : wr.cell? ⟨g, k, none⟩ = some (.int .u8 ((R.getD k 0 : Nat) : Int)) := by
        rw [hcell]
        have : k < R.length := by omega
        simp [byteV, List.getD_eq_getElem?_getD, this]
      have hfr : wr.frozen? ⟨g, k, none⟩ = false := hown.frozenAt k
      have HST : Hid ((wr.setCell ⟨g, k, none⟩ (.int .u8 ((255 - R.getD k 0 : Nat) : Int))).drew.ownsRow w.heap.size 5 1 (.slice (some ⟨g, 0, none⟩) p.data.length co) p.data.length ((R.set k (255 - R.getD k 0)).map byteV) ∧ w3.grownBy (wr.setCell ⟨g, k, none⟩ (.int .u8 ((255 - R.getD k 0 : Nat) : Int))).drew (Value.slice (some ⟨g, 0, none⟩) p.data.length co).ownBlock) := Lib.hid (by
        obtain ⟨h1, h2⟩ := hown.stored k (byteV (255 - R.getD k 0))
        have h3 := grown_trans hgr h2
        refine ⟨?_, ⟨h3.os, h3.tape, h3.output, h3.size, h3.block⟩⟩
        rw [List.map_set]
        exact h1.drew)
      have HRS : Hid (Octets (R.set k (255 - R.getD k 0)) ∧ (R.set k (255 - R.getD k 0)).length = p.data.length) := Lib.hid ⟨hRo.set k _ (by omega), by rw [List.length_set]; exact hRl⟩
      clear hcell hown hgr hRo hRl
      generalize R.getD k 0 = x at *
      have hsub : (255 : Int) - (x : Int) = ((255 - x : Nat) : Int) := by omega
      have hy : 255 - x < 256 := by omega
      generalize 255 - x = y at *
      go_upto_region 6 with fail
      go_region
      go_wp2
      exact ⟨⟨k + 1, R.set k y, hlt, by go_num, HRS.out.2, HRS.out.1, HST.out.1, HST.out.2, fun h => by omega⟩, by simp [intOf]; omega⟩
    · obtain rfl : k = p.data.length := by omega
      have d2 : decide ((p.data.length : Int) < (p.data.length : Int)) = false := decide_eq_false (by omega)
      have HB4 := Lib.hid (HB3.out.grown hgr HB3.out.size (fun j hj => (HO3.out.lt j hj).1))
      have HE4 := Lib.hid (errAns_row HE3.out HO3.out (fun y hy s => by obtain ⟨z, _, rfl⟩ := List.mem_map.1 hy; intro h; cases h) hgr hz0)
      have HV4 := Lib.hid (HV3.out.kept hgr (by
        by_cases hn : (Value.slice ab LB.length qb).ownBlock = none
        · exact .inl hn
        · refine .inr fun e => ?_
          rcases hq : (Value.slice ab LB.length qb).ownBlock with _ | q
          · exact hn hq
          · have h1 := (HV3.out.lt q hq).1
            have h2 := (HO2.out.lt q (by rw [← e, hq])).2
            omega))
      have HY4 : Hid (PktBox wr w.heap.size p (.slice ad p.data.length cd)) := Lib.hid ((hgr.block _ HY3.out.lt (fun e => by
        have h2 := (HO1W.out.lt _ e.symm).1
        have := HX0.out.lt
        omega)).trans HY3.out)
      have HRC4 := Lib.hid (HRC.out wr HB4.out)
      clear hown hgr hz0
      go_wp2_with ((with_reducible show wpList _ _ _ (⟨some 32, _, _, _, _, _⟩ :: _) _ _); refine wpList_load_row rfl 26 (.tmp 1) rfl w.heap.size rfl 26 _ (0, 0) _ HY4.out Tryd.underlying26 rfl (by kernel_rfl) ?_)
      refine HRC4.out.mono ?_
      rintro e w5 ⟨rfl, hb5⟩
      have HB5 := Lib.hid (HB4.out.trans (hb5.mono HB4.out.size))
      have HE5 := Lib.hid (HE4.out.mono hb5)
      have HY5 := Lib.hid (HY4.out.mono hb5)
      have HV5 := Lib.hid ((ListAt.of_owns (f := byteV) HV4.out).mono hb5)
      clear hb5
      go_wp2_with fail
      refine (tells_ans _ _ _ HE5.out (HG.out.mono HB5.out)).mono ?_
      rintro e w6 ⟨rfl, hb6⟩
      have HB6 := Lib.hid (HB5.out.trans (hb6.mono HB5.out.size))
      have HY6 := Lib.hid (HY5.out.mono hb6)
      have HV6 := Lib.hid (HV5.out.mono hb6)
      clear hb6
      by_cases hck : ckN p = 0
      · have e1 : (ckN p != 0) = false := by simp [hck]
        obtain rfl := HLB0.out hck
        have hbd : Below w.heap.size w w6.drew := HB6.out.drew
        have HBR := Lib.hid hbd
        have HXR : Hid (PktBox w6.drew w.heap.size p (.slice ad p.data.length cd)) := Lib.hid (HY6.out.mono (Below.refl _ _).drew)
        have HVR := Lib.hid (HV6.out.mono (Below.refl _ _).drew)
        have hs6 := HVR.out.str
        have HPT := Lib.hid (HRP.out hck _ hbd)
        have hse : ((strN (putP p)).toList == (strN (putP p)).toList) = true := by simp
        clear hck hbd
        generalize ckN p = n at *
        generalize hZ : strN (putP p) = Z at *
        go_upto_region 12 with fail
        refine wp_region_any (by kernel_rfl) ?_
        change wpAny _ _ _ _ _ _ _ (World.drew _)
        (refine wpAny_take (i := 0) (v := ?_) rfl (by kernel_rfl) (by kernel_rfl) (by kernel_rfl) (fun _ _ _ h => h) (Or.inl ⟨by rfl, ?_⟩) ?_; rotate_left; (focus (intro w; go_simp; first | done | with_reducible rfl)); (try simp only [List.getElem_toArray, List.getElem_cons_succ, List.getElem_cons_zero, Act.put, List.setIfInBounds_toArray, List.set_cons_zero, List.set_cons_succ]); refine wpAny_ready (rs := [1, 2]) (by kernel_rfl) (by simp) ?_; refine AllReady.cons rfl (fun K hK => ?_) (AllReady.cons rfl (fun K hK => ?_) (AllReady.nil)); rotate_right; (focus (refine step_loadRow (by rfl) 26 (.tmp 1) rfl w.heap.size rfl 26 (pktC p (.slice ad p.data.length cd)) (0, 0) _ HXR.out Tryd.underlying26 rfl (by kernel_rfl) ?_; refine hK _ _ ?_; clear hK K; (try simp only [List.getElem_toArray, List.getElem_cons_succ, List.getElem_cons_zero, Act.put, List.setIfInBounds_toArray, List.set_cons_zero, List.set_cons_succ]); refine wpAny_ready (rs := [1, 3]) (by kernel_rfl) (by simp) ?_; refine AllReady.cons rfl (fun K hK => ?_) (AllReady.cons rfl (fun K hK => ?_) (AllReady.nil)); rotate_right; (focus (go_simp; go_at_call 13; (with_reducible refine HPT.out.mono ?_); rintro e wa ⟨va, rfl, hoa, hba⟩; have HBA := Lib.hid (HBR.out.trans (hba.mono HBR.out.size)); have hca := (HVR.out.mono hba).str; have hcv := (ListAt.of_owns (f := byteV) (l := putP p) hoa).str; obtain ⟨aa, qa, hva, -, -⟩ := own_open hoa; subst hva; clear hoa hba; refine hK _ _ ?_; clear hK K; (try simp only [List.getElem_toArray, List.getElem_cons_succ, List.getElem_cons_zero, Act.put, List.setIfInBounds_toArray, List.set_cons_zero, List.set_cons_succ]); refine wpAny_ready (rs := [1, 4]) (by kernel_rfl) (by simp) ?_; refine AllReady.cons rfl (fun K hK => ?_) (AllReady.cons rfl (fun K hK => ?_) (AllReady.nil)); rotate_right; (focus (go_simp; refine hK _ _ ?_; clear hK K; (try simp only [List.getElem_toArray, List.getElem_cons_succ, List.getElem_cons_zero, Act.put, List.setIfInBounds_toArray, List.set_cons_zero, List.set_cons_succ]); refine wpAny_ready (rs := [1]) (by kernel_rfl) (by simp) ?_; refine AllReady.cons rfl (fun K hK => ?_) (AllReady.nil); go_simp; refine hK _ _ ?_; clear hK K; (try simp only [List.getElem_toArray, List.getElem_cons_succ, List.getElem_cons_zero, Act.put, List.setIfInBounds_toArray, List.set_cons_zero, List.set_cons_succ]); refine wpAny_take (i := 5) (v := ?_) rfl (by kernel_rfl) (by kernel_rfl) (by kernel_rfl) (fun _ _ _ h => h) (Or.inl ⟨by rfl, ?_⟩) ?_; rotate_left; (focus (intro w; go_simp; first | done | with_reducible rfl)); (try simp only [List.getElem_toArray, List.getElem_cons_succ, List.getElem_cons_zero, Act.put, List.setIfInBounds_toArray, List.set_cons_zero, List.set_cons_succ]); refine wpAny_take (i := 6) (v := ?_) rfl (by kernel_rfl) (by kernel_rfl) (by kernel_rfl) (fun _ _ _ h => h) (Or.inl ⟨by rfl, ?_⟩) ?_; rotate_left; (focus (intro w; go_simp; first | done | with_reducible rfl)); (try simp only [List.getElem_toArray, List.getElem_cons_succ, List.getElem_cons_zero, Act.put, List.setIfInBounds_toArray, List.set_cons_zero, List.set_cons_succ]); refine wpAny_ready (rs := [7]) (by kernel_rfl) (by simp) ?_; refine AllReady.cons rfl (fun K hK => ?_) (AllReady.nil); go_simp; go_at_call 11; (with_reducible refine (HAW.out _).mono ?_); rintro e wb ⟨rfl, hbb⟩; have HBB := Lib.hid (HBA.out.trans (hbb.mono HBA.out.size)); clear hbb; refine hK _ _ ?_; clear hK K; (try simp only [List.getElem_toArray, List.getElem_cons_succ, List.getElem_cons_zero, Act.put, List.setIfInBounds_toArray, List.set_cons_zero, List.set_cons_succ]); refine wpAny_take (i := 8) (v := ?_) rfl (by kernel_rfl) (by kernel_rfl) (by kernel_rfl) (fun _ _ _ h => h) (Or.inl ⟨by rfl, ?_⟩) ?_; rotate_left; (focus (intro w; go_simp; first | done | with_reducible rfl)); (try simp only [List.getElem_toArray, List.getElem_cons_succ, List.getElem_cons_zero, Act.put, List.setIfInBounds_toArray, List.set_cons_zero, List.set_cons_succ]); refine wpAny_take (i := 9) (v := ?_) rfl (by kernel_rfl) (by kernel_rfl) (by kernel_rfl) (fun _ _ _ h => h) (Or.inl ⟨by rfl, ?_⟩) ?_; rotate_left; (focus (intro w; go_simp; first | done | with_reducible rfl)); (try simp only [List.getElem_toArray, List.getElem_cons_succ, List.getElem_cons_zero, Act.put, List.setIfInBounds_toArray, List.set_cons_zero, List.set_cons_succ]))); rotate_right; (focus (go_simp; refine hK _ _ ?_; clear hK K; (try simp only [List.getElem_toArray, List.getElem_cons_succ, List.getElem_cons_zero, Act.put, List.setIfInBounds_toArray, List.set_cons_zero, List.set_cons_succ]); refine wpAny_ready (rs := [4]) (by kernel_rfl) (by simp) ?_; refine AllReady.cons rfl (fun K hK => ?_) (AllReady.nil); go_simp; refine hK _ _ ?_; clear hK K; (try simp only [List.getElem_toArray, List.getElem_cons_succ, List.getElem_cons_zero, Act.put, List.setIfInBounds_toArray, List.set_cons_zero, List.set_cons_succ]); refine wpAny_take (i := 5) (v := ?_) rfl (by kernel_rfl) (by kernel_rfl) (by kernel_rfl) (fun _ _ _ h => h) (Or.inl ⟨by rfl, ?_⟩) ?_; rotate_left; (focus (intro w; go_simp; first | done | with_reducible rfl)); (try simp only [List.getElem_toArray, List.getElem_cons_succ, List.getElem_cons_zero, Act.put, List.setIfInBounds_toArray, List.set_cons_zero, List.set_cons_succ]); refine wpAny_take (i := 6) (v := ?_) rfl (by kernel_rfl) (by kernel_rfl) (by kernel_rfl) (fun _ _ _ h => h) (Or.inl ⟨by rfl, ?_⟩) ?_; rotate_left; (focus (intro w; go_simp; first | done | with_reducible rfl)); (try simp only [List.getElem_toArray, List.getElem_cons_succ, List.getElem_cons_zero, Act.put, List.setIfInBounds_toArray, List.set_cons_zero, List.set_cons_succ]); refine wpAny_ready (rs := [7]) (by kernel_rfl) (by simp) ?_; refine AllReady.cons rfl (fun K hK => ?_) (AllReady.nil); go_simp; go_at_call 11; (with_reducible refine (HAW.out _).mono ?_); rintro e wb ⟨rfl, hbb⟩; have HBB := Lib.hid (HBA.out.trans (hbb.mono HBA.out.size)); clear hbb; refine hK _ _ ?_; clear hK K; (try simp only [List.getElem_toArray, List.getElem_cons_succ, List.getElem_cons_zero, Act.put, List.setIfInBounds_toArray, List.set_cons_zero, List.set_cons_succ]); refine wpAny_take (i := 8) (v := ?_) rfl (by kernel_rfl) (by kernel_rfl) (by kernel_rfl) (fun _ _ _ h => h) (Or.inl ⟨by rfl, ?_⟩) ?_; rotate_left; (focus (intro w; go_simp; first | done | with_reducible rfl)); (try simp only [List.getElem_toArray, List.getElem_cons_succ, List.getElem_cons_zero, Act.put, List.setIfInBounds_toArray, List.set_cons_zero, List.set_cons_succ]); refine wpAny_take (i := 9) (v := ?_) rfl (by kernel_rfl) (by kernel_rfl) (by kernel_rfl) (fun _ _ _ h => h) (Or.inl ⟨by rfl, ?_⟩) ?_; rotate_left; (focus (intro w; go_simp; first | done | with_reducible rfl)); (try simp only [List.getElem_toArray, List.getElem_cons_succ, List.getElem_cons_zero, Act.put, List.setIfInBounds_toArray, List.set_cons_zero, List.set_cons_succ]))))); rotate_right; (focus (go_simp; refine hK _ _ ?_; clear hK K; (try simp only [List.getElem_toArray, List.getElem_cons_succ, List.getElem_cons_zero, Act.put, List.setIfInBounds_toArray, List.set_cons_zero, List.set_cons_succ]); refine wpAny_ready (rs := [3]) (by kernel_rfl) (by simp) ?_; refine AllReady.cons rfl (fun K hK => ?_) (AllReady.nil); go_simp; go_at_call 13; (with_reducible refine HPT.out.mono ?_); rintro e wa ⟨va, rfl, hoa, hba⟩; have HBA := Lib.hid (HBR.out.trans (hba.mono HBR.out.size)); have hca := (HVR.out.mono hba).str; have hcv := (ListAt.of_owns (f := byteV) (l := putP p) hoa).str; obtain ⟨aa, qa, hva, -, -⟩ := own_open hoa; subst hva; clear hoa hba; refine hK _ _ ?_; clear hK K; (try simp only [List.getElem_toArray, List.getElem_cons_succ, List.getElem_cons_zero, Act.put, List.setIfInBounds_toArray, List.set_cons_zero, List.set_cons_succ]); refine wpAny_ready (rs := [4]) (by kernel_rfl) (by simp) ?_; refine AllReady.cons rfl (fun K hK => ?_) (AllReady.nil); go_simp; refine hK _ _ ?_; clear hK K; (try simp only [List.getElem_toArray, List.getElem_cons_succ, List.getElem_cons_zero, Act.put, List.setIfInBounds_toArray, List.set_cons_zero, List.set_cons_succ]); refine wpAny_take (i := 5) (v := ?_) rfl (by kernel_rfl) (by kernel_rfl) (by kernel_rfl) (fun _ _ _ h => h) (Or.inl ⟨by rfl, ?_⟩) ?_; rotate_left; (focus (intro w; go_simp; first | done | with_reducible rfl)); (try simp only [List.getElem_toArray, List.getElem_cons_succ, List.getElem_cons_zero, Act.put, List.setIfInBounds_toArray, List.set_cons_zero, List.set_cons_succ]); refine wpAny_take (i := 6) (v := ?_) rfl (by kernel_rfl) (by kernel_rfl) (by kernel_rfl) (fun _ _ _ h => h) (Or.inl ⟨by rfl, ?_⟩) ?_; rotate_left; (focus (intro w; go_simp; first | done | with_reducible rfl)); (try simp only [List.getElem_toArray, List.getElem_cons_succ, List.getElem_cons_zero, Act.put, List.setIfInBounds_toArray, List.set_cons_zero, List.set_cons_succ]); refine wpAny_ready (rs := [7]) (by kernel_rfl) (by simp) ?_; refine AllReady.cons rfl (fun K hK => ?_) (AllReady.nil); go_simp; go_at_call 11; (with_reducible refine (HAW.out _).mono ?_); rintro e wb ⟨rfl, hbb⟩; have HBB := Lib.hid (HBA.out.trans (hbb.mono HBA.out.size)); clear hbb; refine hK _ _ ?_; clear hK K; (try simp only [List.getElem_toArray, List.getElem_cons_succ, List.getElem_cons_zero, Act.put, List.setIfInBounds_toArray, List.set_cons_zero, List.set_cons_succ]); refine wpAny_take (i := 8) (v := ?_) rfl (by kernel_rfl) (by kernel_rfl) (by kernel_rfl) (fun _ _ _ h => h) (Or.inl ⟨by rfl, ?_⟩) ?_; rotate_left; (focus (intro w; go_simp; first | done | with_reducible rfl)); (try simp only [List.getElem_toArray, List.getElem_cons_succ, List.getElem_cons_zero, Act.put, List.setIfInBounds_toArray, List.set_cons_zero, List.set_cons_succ]); refine wpAny_take (i := 9) (v := ?_) rfl (by kernel_rfl) (by kernel_rfl) (by kernel_rfl) (fun _ _ _ h => h) (Or.inl ⟨by rfl, ?_⟩) ?_; rotate_left; (focus (intro w; go_simp; first | done | with_reducible rfl)); (try simp only [List.getElem_toArray, List.getElem_cons_succ, List.getElem_cons_zero, Act.put, List.setIfInBounds_toArray, List.set_cons_zero, List.set_cons_succ]))))); rotate_right; (focus (go_simp; refine hK _ _ ?_; clear hK K; (try simp only [List.getElem_toArray, List.getElem_cons_succ, List.getElem_cons_zero, Act.put, List.setIfInBounds_toArray, List.set_cons_zero, List.set_cons_succ]); refine wpAny_ready (rs := [2]) (by kernel_rfl) (by simp) ?_; refine AllReady.cons rfl (fun K hK => ?_) (AllReady.nil); refine step_loadRow (by rfl) 26 (.tmp 1) rfl w.heap.size rfl 26 (pktC p (.slice ad p.data.length cd)) (0, 0) _ HXR.out Tryd.underlying26 rfl (by kernel_rfl) ?_; refine hK _ _ ?_; clear hK K; (try simp only [List.getElem_toArray, List.getElem_cons_succ, List.getElem_cons_zero, Act.put, List.setIfInBounds_toArray, List.set_cons_zero, List.set_cons_succ]); refine wpAny_ready (rs := [3]) (by kernel_rfl) (by simp) ?_; refine AllReady.cons rfl (fun K hK => ?_) (AllReady.nil); go_simp; go_at_call 13; (with_reducible refine HPT.out.mono ?_); rintro e wa ⟨va, rfl, hoa, hba⟩; have HBA := Lib.hid (HBR.out.trans (hba.mono HBR.out.size)); have hca := (HVR.out.mono hba).str; have hcv := (ListAt.of_owns (f := byteV) (l := putP p) hoa).str; obtain ⟨aa, qa, hva, -, -⟩ := own_open hoa; subst hva; clear hoa hba; refine hK _ _ ?_; clear hK K; (try simp only [List.getElem_toArray, List.getElem_cons_succ, List.getElem_cons_zero, Act.put, List.setIfInBounds_toArray, List.set_cons_zero, List.set_cons_succ]); refine wpAny_ready (rs := [4]) (by kernel_rfl) (by simp) ?_; refine AllReady.cons rfl (fun K hK => ?_) (AllReady.nil); go_simp; refine hK _ _ ?_; clear hK K; (try simp only [List.getElem_toArray, List.getElem_cons_succ, List.getElem_cons_zero, Act.put, List.setIfInBounds_toArray, List.set_cons_zero, List.set_cons_succ]); refine wpAny_take (i := 5) (v := ?_) rfl (by kernel_rfl) (by kernel_rfl) (by kernel_rfl) (fun _ _ _ h => h) (Or.inl ⟨by rfl, ?_⟩) ?_; rotate_left; (focus (intro w; go_simp; first | done | with_reducible rfl)); (try simp only [List.getElem_toArray, List.getElem_cons_succ, List.getElem_cons_zero, Act.put, List.setIfInBounds_toArray, List.set_cons_zero, List.set_cons_succ]); refine wpAny_take (i := 6) (v := ?_) rfl (by kernel_rfl) (by kernel_rfl) (by kernel_rfl) (fun _ _ _ h => h) (Or.inl ⟨by rfl, ?_⟩) ?_; rotate_left; (focus (intro w; go_simp; first | done | with_reducible rfl)); (try simp only [List.getElem_toArray, List.getElem_cons_succ, List.getElem_cons_zero, Act.put, List.setIfInBounds_toArray, List.set_cons_zero, List.set_cons_succ]); refine wpAny_ready (rs := [7]) (by kernel_rfl) (by simp) ?_; refine AllReady.cons rfl (fun K hK => ?_) (AllReady.nil); go_simp; go_at_call 11; (with_reducible refine (HAW.out _).mono ?_); rintro e wb ⟨rfl, hbb⟩; have HBB := Lib.hid (HBA.out.trans (hbb.mono HBA.out.size)); clear hbb; refine hK _ _ ?_; clear hK K; (try simp only [List.getElem_toArray, List.getElem_cons_succ, List.getElem_cons_zero, Act.put, List.setIfInBounds_toArray, List.set_cons_zero, List.set_cons_succ]); refine wpAny_take (i := 8) (v := ?_) rfl (by kernel_rfl) (by kernel_rfl) (by kernel_rfl) (fun _ _ _ h => h) (Or.inl ⟨by rfl, ?_⟩) ?_; rotate_left; (focus (intro w; go_simp; first | done | with_reducible rfl)); (try simp only [List.getElem_toArray, List.getElem_cons_succ, List.getElem_cons_zero, Act.put, List.setIfInBounds_toArray, List.set_cons_zero, List.set_cons_succ]); refine wpAny_take (i := 9) (v := ?_) rfl (by kernel_rfl) (by kernel_rfl) (by kernel_rfl) (fun _ _ _ h => h) (Or.inl ⟨by rfl, ?_⟩) ?_; rotate_left; (focus (intro w; go_simp; first | done | with_reducible rfl)); (try simp only [List.getElem_toArray, List.getElem_cons_succ, List.getElem_cons_zero, Act.put, List.setIfInBounds_toArray, List.set_cons_zero, List.set_cons_succ]))))
        all_goals refine wpAny_done (by kernel_rfl) ?_ _
        all_goals
          go_wp2
          go_ret
          exact ⟨rfl, HBB.out⟩
      · have e1 : (ckN p != 0) = true := by simp [hck]
        obtain rfl := HLB1.out hck
        clear hck
        generalize ckN p = n at *
        go_wp2_with fail
        refine (HAW.out _).mono ?_
        rintro e w7 ⟨rfl, hb7⟩
        have HB7 := Lib.hid (HB6.out.trans (hb7.mono HB6.out.size))
        clear hb7
        go_wp2
        go_ret
        exact ⟨rfl, HB7.out⟩
end Go.Proofs.YtmihpbdgilmdiaaDoor
