/- The walk of the third layer's law MatrixSums. -/
import Derived.Test.YtlbeobocppmifaaDoorLaw03C
import Derived.Deep.Cut
import Derived.Deep.DeepCutAuto
namespace Go.Proofs.YtlbeobocppmifaaDoor
open Go.RowKit Go.Extern.Stop Go.Stop Go.Extern

/-- A sum of some rows of R. -/
structure SumOk (z : List Nat) (R : List (List Nat)) (n : Nat) : Prop where
  len : z.length = kOf n
  word : Word z
  low : ∀ c, n ≤ c → bitW z c = false
  span : Sp (vecs R) (bitW z)
theorem SumOk.start (R : List (List Nat)) (n : Nat) : SumOk (List.replicate (kOf n) 0) R n := by
  have hz : bitW (List.replicate (kOf n) 0) = vzero := zero_of_words fun j hj => by
    rw [List.length_replicate] at hj
    simp [List.getD_eq_getElem?_getD, hj]
  refine ⟨by simp, fun x hx => ?_, fun c _ => by rw [hz]; rfl, by rw [hz]; exact Sp.zero _⟩
  have := (List.mem_replicate.1 hx).2
  omega
theorem SumOk.add {z r : List Nat} {R : List (List Nat)} {n : Nat} (h : SumOk z R n) (hm : MatOk R n) (hr : r ∈ R) : SumOk (xorW z r) R n := by
  obtain ⟨h1, h2⟩ := hm.whole r hr
  have hl : z.length = r.length := by rw [h.len, h1]
  exact ⟨by rw [xorW_length hl, h.len], h.word.xor (hm.words r hr), fun c hc => by rw [bitW_xor hl, h.low c hc, h2 c hc]; rfl,
    by rw [bitW_vadd hl]; exact h.span.add (.mem (List.mem_map.2 ⟨r, hr, rfl⟩))⟩
theorem SumOk.one {z : List Nat} {R : List (List Nat)} {n : Nat} (h : SumOk z R n) (hm : MatOk R n) : MatOk [z] n :=
  ⟨hm.cols, by simp, fun r hr => by rw [List.mem_singleton.1 hr]; exact h.word, fun r hr => by rw [List.mem_singleton.1 hr]; exact ⟨h.len, h.low⟩⟩
theorem MatOk.snoc {R : List (List Nat)} {r : List Nat} {n : Nat} (h : MatOk R n) (h1 : MatOk [r] n) (hl : R.length < 4096) : MatOk (R ++ [r]) n :=
  ⟨h.cols, by rw [List.length_append]; simp; omega, fun s hs => (List.mem_append.1 hs).elim (h.words s) (h1.words s), fun s hs => (List.mem_append.1 hs).elim (h.whole s) (h1.whole s)⟩
theorem drop_one_getD (L : List (List Nat)) (k : Nat) : (L.drop 1).getD k [] = L.getD (k + 1) [] := by
  rw [List.getD_eq_getElem?_getD, List.getD_eq_getElem?_getD, List.getElem?_drop, Nat.add_comm]

set_option maxRecDepth 1000000 in
set_option maxHeartbeats 8000000 in
theorem sums3 {w : World} (v pv : Value) (L : List (List Nat)) (l : List Bool) (n : Int) (h : MatAt wordV w v L) (hw : ∀ r ∈ L, Word r) (hp : ListAt boolV w pv l) (hn : I64 n) (hT : Tab w) :
    Calls Tryd.prog 8 #[v, .int .i64 n, pv] w fun e w' => e = .returned (.bool true) ∧ Below w.heap.size w w' := by
  obtain ⟨i0, hi0, hz0, hz1, hz2⟩ := info_parts info_row
  obtain ⟨j0, hj0, jz0, jz1, jz2⟩ := info_parts info_u64
  have hlen := h.len
  have hplen := hp.len
  have HM := Lib.hid h
  have HW := Lib.hid hw
  have HN := Lib.hid hn
  have HT := Lib.hid hT
  obtain ⟨a, cap, rfl, hcap, -, hcell⟩ := h.opens
  obtain ⟨ap, cp, rfl, -, -, hpc⟩ := hp
  have HP : Hid (0 < l.length → ∃ b off, ap = some ⟨b, off, none⟩ ∧ ∀ j, j < l.length → w.cell? ⟨b, off + j, none⟩ = some (.bool (bitB l j))) := Lib.hid fun hp => by
    obtain ⟨b, off, e, h⟩ := hpc hp
    refine ⟨b, off, e, fun j hj => ?_⟩
    rw [h j hj]; simp [boolV, bitB, hj]
  have HC := Lib.hid hcell
  clear h hw hn hT hcell hpc
  cases hb : bigB L n with
  | true =>
    have HBG := Lib.hid hb
    clear hb
    go_enter Tryd.func8, Tryd.ntmps8
    go_wp2_with fail
    refine (big_any _ L n HM.out).mono ?_
    rintro e w1 ⟨rfl, rfl⟩
    rw [HBG.out]
    go_wp2_with fail
    refine (awake3 HT.out).mono ?_
    rintro e wz ⟨rfl, hbz⟩
    have HBZ := Lib.hid hbz
    clear hbz
    go_wp2
    go_ret
    exact ⟨rfl, HBZ.out⟩
  | false =>
    have HBG := Lib.hid hb
    by_cases hl0 : L.length = 0
    · have hlb : ((L.length : Int) == 0) = true := by simp [hl0]
      clear hb hl0
      go_enter Tryd.func8, Tryd.ntmps8
      go_wp2_with fail
      refine (big_any _ L n HM.out).mono ?_
      rintro e w1 ⟨rfl, rfl⟩
      rw [HBG.out]
      go_wp2_with fail
      refine (awake3 HT.out).mono ?_
      rintro e wz ⟨rfl, hbz⟩
      have HBZ := Lib.hid hbz
      clear hbz
      go_wp2
      go_ret
      exact ⟨rfl, HBZ.out⟩
    · have hlb : ((L.length : Int) == 0) = false := beq_eq_false_iff_ne.2 (by omega)
      by_cases hk : checkM L n = 0
      · obtain ⟨m, rfl, hok⟩ := checkM_zero HW.out hk
        have HK := Lib.hid hk
        have hl1 : 0 < L.length := by omega
        obtain ⟨b, off, rfl, hcc⟩ := HC.out hl1
        obtain ⟨x, hx, hlx⟩ := hcc 0 hl1
        have hmem := getD_mem' hl1
        have HOKR : Hid (MatOk (L.drop 1) m) := Lib.hid (hok.sub (fun r hr => List.mem_of_mem_drop hr) (by have := hok.rows; rw [List.length_drop]; omega))
        have HOKF : Hid (MatOk [L.getD 0 []] m) := Lib.hid (hok.sub (fun s hs => by simp only [List.mem_singleton] at hs; subst hs; exact hmem) (by simp))
        have HD : Hid (1 < cap → MatAt wordV w (.slice (some ⟨b, off + 1, none⟩) (L.length - 1) (cap - 1)) (L.drop 1)) := Lib.hid fun _ => HM.out.drop_one hl1
        have HD1 : Hid (L.length = 1 → L.drop 1 = []) := Lib.hid fun e => by apply List.eq_nil_of_length_eq_zero; rw [List.length_drop]; omega
        have HRL : Hid ((L.drop 1).length = L.length - 1) := Lib.hid (by rw [List.length_drop])
        have HX := Lib.hid hlx
        have hm4 := hok.cols
        have hl4 := hok.rows
        have HS := Lib.hid (sizeI_of hm4)
        have HSZ0 := Lib.hid (SumOk.start (L.drop 1) m)
        have hK64 := kOf_le hm4
        obtain ⟨af, cf, rfl, -, -, -⟩ := hlx
        have hx0 : w.cell? ⟨b, off, none⟩ = some (.slice af (L.getD 0 []).length cf) := hx
        have hlI : (1 : Int) ≤ (L.length : Int) := by omega
        have hcI : (1 : Int) ≤ (cap : Int) := by omega
        clear hb hk hok hl0 hcc hx hmem HC
        generalize L.getD 0 [] = f at *
        generalize L.drop 1 = R at *
        go_enter Tryd.func8, Tryd.ntmps8
        go_wp2_with fail
        refine (big_any _ L (m : Int) HM.out).mono ?_
        rintro e w1 ⟨rfl, rfl⟩
        rw [HBG.out]
        go_wp2_with fail
        refine (refCheck_any _ L (m : Int) HM.out HW.out).mono ?_
        rintro e w1 ⟨rfl, rfl⟩
        rw [HK.out]
        go_upto_region 4 with fail
        go_cut [8] (fun rv wx => MatAt wordV w rv R ∧ w = wx)
        case first =>
          by_cases hc1 : cap = 1
          · subst hc1
            have hL1 : L.length = 1 := by omega
            have HMN : Hid (MatAt wordV w (.slice (some ⟨b, off, none⟩) 0 0) R) := Lib.hid (by rw [HD1.out hL1]; exact ⟨[], ⟨_, 0, rfl, Nat.le_refl _, Nat.zero_le _, fun h => by simp at h⟩, rfl, fun i => by simpa using ListAt.nil _ _⟩)
            go_wp2_with fail
            go_meet
            exact ⟨HMN.out, rfl⟩
          · have hc2 : 1 < cap := by omega
            have HMD := Lib.hid (HD.out hc2)
            go_wp2_with fail
            go_meet
            exact ⟨HMD.out, rfl⟩
        case rest =>
          obtain ⟨⟨vs, hvs, hvl, hel⟩, rfl⟩ := hcut
          have hMR : MatAt wordV w u8 R := ⟨vs, hvs, hvl, hel⟩
          have HMR := Lib.hid hMR
          have HSL := Lib.hid (MatAt.slices hel)
          have HEL := Lib.hid hel
          have HVS := Lib.hid hvs
          have HVL := Lib.hid hvl
          obtain ⟨ar, cr, rfl, hcr, -, hrc⟩ := hMR.opens
          have HRC := Lib.hid hrc
          have hrl : R.length + 1 = L.length := by have := HRL.out; omega
          have hrl2 : R.length < 4096 := by omega
          clear hMR hvs hvl hel hrc HRL HD HD1 hlb hrl
          go_wp2_with fail
          refine (refSize_any (m : Int) (by omega)).mono ?_
          rintro e w1 ⟨rfl, rfl⟩
          rw [HS.out]
          generalize hKM : kOf m = K at HSZ0 HS hK64 ⊢
          have HKM := Lib.hid hKM
          clear hKM
          go_wp2_with (at_make; refine wpList_make_full _ rfl _ _ 37 rfl w.heap.size 46 j0 (.int .u64 0) 1 Tryd.underlying37 hj0 jz0 jz1 .i64 .i64 _ _ K rfl rfl rfl rfl (by rw [jz2]; omega) (by unfold maxLen; omega) (Nat.le_refl _) ?_; intro w0 hown0 hgrow0; have hb0 := Lib.hid ((Below.refl w.heap.size w).grown hgrow0 (Nat.le_refl _) (fun k hk => by cases hk)); have ho0 := Lib.hid hown0; clear hown0 hgrow0)
          go_loopw [10] (fun i wr => ∃ k : Nat, k ≤ R.length ∧ i = .int .i64 k ∧ (∃ z, SumOk z R m ∧ wr.ownsRow w.heap.size 46 1 (.slice (some ⟨w.heap.size, 0, none⟩) K K) K (z.map wordV)) ∧ Below w.heap.size w wr) (fun i _ => R.length - (intOf i).toNat)
          case atStart => exact ⟨0, Nat.zero_le _, rfl, ⟨List.replicate K 0, HSZ0.out, by rw [List.map_replicate]; have := ho0.out; rw [Nat.mul_one] at this; exact toList_madeCells_one (.int .u64 0) K ▸ this⟩, hb0.out⟩
          case round =>
            clear HSZ0 hb0 ho0
            obtain ⟨k, hkr, rfl, ⟨z, hz, hown⟩, hbel⟩ := hrel
            have hsz := hbel.size
            have HZ := Lib.hid hz
            have HO := Lib.hid hown
            have HB := Lib.hid hbel
            have HZK : Hid (z.length = K) := Lib.hid (hz.len.trans HKM.out)
            by_cases hlt : k < R.length
            · obtain ⟨br, offr, rfl, hcc⟩ := HRC.out (by omega)
              obtain ⟨x, hx, hlx⟩ := hcc k hlt
              have hmr := getD_mem' hlt
              have HADD := Lib.hid (hz.add HOKR.out hmr)
              have HRW := Lib.hid (HOKR.out.words _ hmr)
              have HRK : Hid ((R.getD k []).length = K) := Lib.hid ((HOKR.out.whole _ hmr).1.trans HKM.out)
              obtain ⟨ax, cx, rfl, hcx, -, hxc⟩ := hlx.words K HRK.out
              have HXC := Lib.hid hxc
              have HXR := Lib.hid hx
              clear hcc hx hlx hmr hxc hz hown
              generalize R.getD k [] = r at *
              by_cases hkl : k < l.length
              · obtain ⟨bp, offp, rfl, hpc⟩ := HP.out (by omega)
                have hp0 := hpc k hkl
                have hp1 := (hbel.cell (p := ⟨bp, offp + k, none⟩) (World.block_lt_of_cell? w _ hp0)).trans hp0
                clear hpc hp0 hbel
                cases hbit : bitB l k with
                | true =>
                  rw [hbit] at hp1
                  clear hbit
                  go_wp2_with fail
                  go_loopw [11] (fun j wy => ∃ k3 : Nat, k3 ≤ K ∧ j = .int .i64 k3 ∧ (∃ zs : List Nat, zs.length = K ∧ (∀ j, j < k3 → zs.getD j 0 = z.getD j 0 ^^^ r.getD j 0) ∧ (∀ j, k3 ≤ j → zs.getD j 0 = z.getD j 0) ∧ wy.ownsRow w.heap.size 46 1 (.slice (some ⟨w.heap.size, 0, none⟩) K K) K (zs.map wordV)) ∧ Below w.heap.size w wy) (fun j _ => K - (intOf j).toNat)
                  case atStart => exact ⟨0, Nat.zero_le _, rfl, ⟨z, HZK.out, fun j hj => by omega, fun j _ => rfl, HO.out⟩, HB.out⟩
                  case round =>
                    clear hsz hp1
                    obtain ⟨k3, hk3, rfl, ⟨zs, hzl, hzd, hzt, hown3⟩, hbel3⟩ := hrel
                    have hsz := hbel3.size
                    by_cases hlt3 : k3 < K
                    · obtain ⟨b2, off2, rfl, hc2⟩ := HXC.out (by omega)
                      have hr1 := hc2 k3 hlt3
                      have hr2 := (hbel3.cell (p := ⟨b2, off2 + k3, none⟩) (World.block_lt_of_cell? w _ hr1)).trans hr1
                      have hxy := (hbel3.cell (p := ⟨br, offr + k, none⟩) (World.block_lt_of_cell? w _ HXR.out)).trans HXR.out
                      have hy3 : wr.cell? ⟨w.heap.size, k3, none⟩ = some (.int .u64 ((z.getD k3 0 : Nat) : Int)) := by
                        rw [hown3.cellAt k3 (by omega), ← hzt k3 (Nat.le_refl _)]
                        simp [List.getD_eq_getElem?_getD, hzl, hlt3, wordV]
                      have hy4 : wr.frozen? ⟨w.heap.size, k3, none⟩ = false := hown3.frozenAt k3
                      have hbx := bits_xor_u64_nat (z.getD k3 0) (r.getD k3 0) (HZ.out.word.getD k3) (HRW.out.getD k3)
                      have HXN : Hid (∀ x y, z.getD k3 0 = x → r.getD k3 0 = y → (∀ j, j < k3 + 1 → (zs.set k3 (x ^^^ y)).getD j 0 = z.getD j 0 ^^^ r.getD j 0) ∧ (∀ j, k3 + 1 ≤ j → (zs.set k3 (x ^^^ y)).getD j 0 = z.getD j 0)) := Lib.hid fun x y ex ey =>
                        ⟨fun j hj => by
                          rw [getD_set _ _ _ _ _ (by omega)]
                          by_cases e : j = k3
                          · subst e; rw [if_pos rfl, ex, ey]
                          · rw [if_neg e]; exact hzd j (by omega), fun j hj => by
                          rw [getD_set _ _ _ _ _ (by omega), if_neg (by omega)]; exact hzt j (by omega)⟩
                      have HO3 := Lib.hid hown3
                      have HB3 := Lib.hid hbel3
                      have HL3 := Lib.hid hzl
                      clear hc2 hr1 hown3 hbel3 hzd hzt hzl
                      generalize z.getD k3 0 = x at hy3 hbx HXN
                      generalize r.getD k3 0 = y at hr2 hbx HXN
                      have HXM := Lib.hid (HXN.out x y rfl rfl)
                      clear HXN
                      go_wp2_with fail
                      go_region
                      all_goals go_wp2
                      exact ⟨⟨k3 + 1, by omega, by go_num, ⟨zs.set k3 (x ^^^ y), by simpa using HL3.out, HXM.out.1, HXM.out.2, by rw [List.map_set]; exact (HO3.out.stored k3 (.int .u64 ((x ^^^ y : Nat) : Int))).1⟩, (HB3.out.setCell (p := ⟨w.heap.size, k3, none⟩) (Nat.le_refl _) _).drew⟩, by simp [intOf]; omega⟩
                    · have hk3' : k3 = K := by omega
                      have HV : Hid (zs = xorW z r) := Lib.hid (by
                        have hzr : z.length = r.length := by rw [HZK.out, HRK.out]
                        apply List.ext_getElem (by rw [xorW_length hzr, hzl, HZK.out])
                        intro j hj1 hj2
                        have e := hzd j (by omega)
                        rw [← xorW_getD hzr] at e
                        simpa [List.getD_eq_getElem?_getD, hj1, hj2] using e)
                      have HO3 := Lib.hid hown3
                      have HB3 := Lib.hid hbel3
                      clear hown3 hbel3 hzd hzt hzl
                      go_wp2
                      go_roundw
                      case rel => exact ⟨k + 1, by omega, by go_num, ⟨xorW z r, HADD.out, by rw [← HV.out]; exact HO3.out⟩, HB3.out⟩
                      case measure => simp [intOf]; omega
                | false =>
                  rw [hbit] at hp1
                  clear hbit
                  go_wp2
                  go_roundw
                  case rel => exact ⟨k + 1, by omega, by go_num, ⟨z, HZ.out, HO.out⟩, HB.out⟩
                  case measure => simp [intOf]; omega
              · clear hbel
                go_wp2
                go_roundw
                case rel => exact ⟨k + 1, by omega, by go_num, ⟨z, HZ.out, HO.out⟩, HB.out⟩
                case measure => simp [intOf]; omega
            · have HZW : Hid (ListAt wordV wr (.slice (some ⟨w.heap.size, 0, none⟩) K K) z) := Lib.hid (ListAt.of_owns hown)
              have HZ1 := Lib.hid (hz.one HOKR.out)
              have HOKZ := Lib.hid (HOKR.out.snoc HZ1.out hrl2)
              have HOKG := Lib.hid (HOKR.out.snoc HOKF.out hrl2)
              have HRZ : Hid (rk (vecs (R ++ [z])) = rk (vecs R)) := Lib.hid (by rw [vecs_append]; exact rk_in hz.span)
              have HCASE : Hid ((rk (vecs (R ++ [f])) = rk (vecs R) ∧ Sp (vecs R) (bitW f)) ∨ (rk (vecs (R ++ [f])) = rk (vecs R) + 1 ∧ ¬ Sp (vecs R) (bitW f))) := Lib.hid (by
                have e : vecs (R ++ [f]) = vecs R ++ [bitW f] := vecs_append R [f]
                rw [e]
                by_cases hs : Sp (vecs R) (bitW f)
                · exact .inl ⟨rk_in hs, hs⟩
                · exact .inr ⟨rk_out hs, hs⟩)
              have hra : rk (vecs R) ≤ 4096 := Nat.le_trans (rk_le_cols HOKR.out.low) hm4
              have HZS := Lib.hid hz.span
              have HMr := Lib.hid (HMR.out.mono hbel)
              have HVr := Lib.hid (HVS.out.mono hbel)
              have HEr := Lib.hid fun i => (HEL.out i).mono hbel
              have HFr := Lib.hid (HX.out.mono hbel)
              clear hz hown hbel HZ HO HRC HP
              generalize hA : rk (vecs R) = A at *
              have HA := Lib.hid hA
              generalize hC : rk (vecs (R ++ [f])) = C at HCASE
              have HCC := Lib.hid hC
              clear hA hC
              go_wp2_with fail
              refine (Rank_ok _ R m HMr.out HOKR.out (HT.out.mono HB.out)).mono ?_
              rintro e w1 ⟨rfl, hb1⟩
              rw [HA.out]
              have HB1 := Lib.hid (HB.out.trans (hb1.mono hsz))
              have hsz1 := HB1.out.size
              have HV1 := Lib.hid (HVr.out.mono hb1)
              have HE1 := Lib.hid fun i => (HEr.out i).mono hb1
              have HZ1' := Lib.hid (HZW.out.mono hb1)
              have HF1 := Lib.hid (HFr.out.mono hb1)
              have HM1 := Lib.hid (HMr.out.mono hb1)
              clear hb1
              have HOp := Lib.hid (World.ownsRow_made (base := w1.heap.size) (e := 37) (size := 1) w1 #[] 0 (Nat.le_refl _) (by decide) rfl)
              have HBp := Lib.hid ((Below.refl w1.heap.size w1).alloc (Nat.le_refl _) (.cells #[] 37))
              have HVAp := Lib.hid (HV1.out.mono HBp.out)
              go_wp2_with (first
                | (at_builtin; refine wpList_append_of (f := id) _ rfl (.tmp 89) (.tmp 90) 22 rfl w1.heap.size 37 i0 (.slice none 0 0) 24 Tryd.underlying22 hi0 hz0 hz1 hz2 rfl _ 0 [] rfl HOp.out _ vs rfl HVAp.out HSL.out (by rw [HVL.out]; unfold maxLen; omega) (by rw [HVL.out]; omega) (by simp) ?_; intro op wA hownA hgrowA; have hbA := HBp.out.grown hgrowA (by simp) (fun k hk => (HOp.out.lt k hk).1); rw [HVL.out, Nat.zero_add, List.nil_append, List.map_id] at hownA; have HOAp := Lib.hid hownA; have HBAp := Lib.hid hbA; have hszAp := hbA.size; clear hownA hgrowA hbA)
                | (at_builtin; refine wpList_append_own _ rfl (.tmp 91) (.tmp 93) 22 rfl w1.heap.size 37 i0 (.slice none 0 0) 1 24 Tryd.underlying22 hi0 hz0 hz1 hz2 rfl (by decide) op R.length vs rfl (HOAp.out.alloc _) ⟨wA.heap.size, 0, none⟩ 1 1 [.slice (some ⟨w.heap.size, 0, none⟩) K K] rfl rfl (cell_one_new _ _ _) (fun x hx => by simp at hx; subst hx; rfl) (by unfold maxLen; omega) (by omega) (by simp; omega) ?_; intro pp w2 hown2 hgrow2 _; have hbp := Lib.hid ((HBAp.out.alloc hszAp _).grown hgrow2 (by simp; omega) (fun k hk => (HOAp.out.lt k hk).1)); have hop : Hid (MatOwn wordV 46 w1.heap.size 37 w2 pp (R ++ [z])) := Lib.hid (MatOwn.app (by decide) HOAp.out (fun i => ElAt.old (HE1.out i) HBAp.out) (ElAt.old HZ1'.out HBAp.out) hown2 hgrow2); clear hown2 hgrow2))
              have HM2 := Lib.hid hop.out.at
              have hsz2 := hbp.out.size
              have HB2 := Lib.hid (HB1.out.trans (hbp.out.mono hsz1))
              go_wp2_with fail
              refine (Rank_ok _ (R ++ [z]) m HM2.out HOKZ.out (HT.out.mono HB2.out)).mono ?_
              rintro e w3 ⟨rfl, hb3⟩
              rw [HRZ.out]
              have HB13 := Lib.hid (hbp.out.trans (hb3.mono hsz2))
              have HB3 := Lib.hid (HB1.out.trans (HB13.out.mono hsz1))
              have hsz3 := HB3.out.size
              have HV3 := Lib.hid (HV1.out.mono HB13.out)
              have HE3 := Lib.hid fun i => (HE1.out i).mono HB13.out
              have HZ3 := Lib.hid (HZ1'.out.mono HB13.out)
              have HF3 := Lib.hid (HF1.out.mono HB13.out)
              have HM3 := Lib.hid (HM1.out.mono HB13.out)
              clear hb3 hbp hop HOp HBp HVAp HOAp HBAp hszAp
              have HOq := Lib.hid (World.ownsRow_made (base := w3.heap.size) (e := 37) (size := 1) w3 #[] 0 (Nat.le_refl _) (by decide) rfl)
              have HBq := Lib.hid ((Below.refl w3.heap.size w3).alloc (Nat.le_refl _) (.cells #[] 37))
              have HVAq := Lib.hid (HV3.out.mono HBq.out)
              go_wp2_with (first
                | (at_builtin; refine wpList_append_of (f := id) _ rfl (.tmp 100) (.tmp 101) 22 rfl w3.heap.size 37 i0 (.slice none 0 0) 24 Tryd.underlying22 hi0 hz0 hz1 hz2 rfl _ 0 [] rfl HOq.out _ vs rfl HVAq.out HSL.out (by rw [HVL.out]; unfold maxLen; omega) (by rw [HVL.out]; omega) (by simp) ?_; intro oq wB hownA hgrowA; have hbA := HBq.out.grown hgrowA (by simp) (fun k hk => (HOq.out.lt k hk).1); rw [HVL.out, Nat.zero_add, List.nil_append, List.map_id] at hownA; have HOAq := Lib.hid hownA; have HBAq := Lib.hid hbA; have hszAq := hbA.size; clear hownA hgrowA hbA)
                | (at_builtin; refine wpList_append_own _ rfl (.tmp 102) (.tmp 104) 22 rfl w3.heap.size 37 i0 (.slice none 0 0) 1 24 Tryd.underlying22 hi0 hz0 hz1 hz2 rfl (by decide) oq R.length vs rfl (HOAq.out.alloc _) ⟨wB.heap.size, 0, none⟩ 1 1 [.slice af f.length cf] rfl rfl (cell_one_new _ _ _) (fun x hx => by simp at hx; subst hx; rfl) (by unfold maxLen; omega) (by omega) (by simp; omega) ?_; intro pq w4 hown2 hgrow2 _; have hbq := Lib.hid ((HBAq.out.alloc hszAq _).grown hgrow2 (by simp; omega) (fun k hk => (HOAq.out.lt k hk).1)); have hoq : Hid (MatOwn wordV 46 w3.heap.size 37 w4 pq (R ++ [f])) := Lib.hid (MatOwn.app (by decide) HOAq.out (fun i => ElAt.old (HE3.out i) HBAq.out) (ElAt.old HF3.out HBAq.out) hown2 hgrow2); clear hown2 hgrow2))
              have HM4 := Lib.hid hoq.out.at
              have hsz4 := hbq.out.size
              have HB4 := Lib.hid (HB3.out.trans (hbq.out.mono hsz3))
              go_wp2_with fail
              refine (Rank_ok _ (R ++ [f]) m HM4.out HOKG.out (HT.out.mono HB4.out)).mono ?_
              rintro e w5 ⟨rfl, hb5⟩
              rw [HCC.out]
              have HB35 := Lib.hid (hbq.out.trans (hb5.mono hsz4))
              have HB5 := Lib.hid (HB3.out.trans (HB35.out.mono hsz3))
              have hsz5 := HB5.out.size
              have HZ5 := Lib.hid (HZ3.out.mono HB35.out)
              have HF5 := Lib.hid (HF3.out.mono HB35.out)
              have HM5 := Lib.hid (HM3.out.mono HB35.out)
              clear hb5 hbq hoq HOq HBq HVAq HOAq HBAq hszAq
              go_wp2_with fail
              refine (Spans_ok _ _ R f m HM5.out HOKR.out HF5.out HOKF.out (HT.out.mono HB5.out)).mono ?_
              rintro e w6 ⟨b1, rfl, hb1, hb6⟩
              have HB1' := Lib.hid hb1
              have HZ6 := Lib.hid (HZ5.out.mono hb6)
              have HM6 := Lib.hid (HM5.out.mono hb6)
              have HB6 := Lib.hid (HB5.out.trans (hb6.mono hsz5))
              have hsz6 := HB6.out.size
              clear hb1 hb6
              go_wp2_with fail
              refine (Spans_ok _ _ R z m HM6.out HOKR.out HZ6.out HZ1.out (HT.out.mono HB6.out)).mono ?_
              rintro e w7 ⟨b2, rfl, hb2, hb7⟩
              obtain rfl : b2 = true := hb2.2 HZS.out
              have HB7 := Lib.hid (HB6.out.trans (hb7.mono hsz6))
              clear hb2 hb7
              have hne : ((A : Int) != (A : Int)) = false := by simp
              have hwr : IntKind.i64.wrap ((A : Int) + 1) = (A : Int) + 1 := IntWalk.i64_in _ (by omega)
              rcases HCASE.out with ⟨rfl, hs⟩ | ⟨rfl, hs⟩
              · obtain rfl : b1 = true := HB1'.out.2 hs
                have heq : ((C : Int) == (C : Int)) = true := by simp
                clear hs HCASE
                go_wp2_with fail
                refine (awake3 (HT.out.mono HB7.out)).mono ?_
                rintro e wz ⟨rfl, hbz⟩
                have HBZ := Lib.hid (HB7.out.trans (hbz.mono HB7.out.size))
                clear hbz
                go_wp2
                go_ret
                exact ⟨rfl, HBZ.out⟩
              · obtain rfl : b1 = false := by
                  cases b1 with
                  | true => exact absurd (HB1'.out.1 rfl) hs
                  | false => rfl
                have heq : (((A + 1 : Nat) : Int) == (A : Int) + 1) = true := by simp
                clear hs HCASE
                go_wp2_with fail
                refine (awake3 (HT.out.mono HB7.out)).mono ?_
                rintro e wz ⟨rfl, hbz⟩
                have HBZ := Lib.hid (HB7.out.trans (hbz.mono HB7.out.size))
                clear hbz
                go_wp2
                go_ret
                exact ⟨rfl, HBZ.out⟩
      · have HK0 := Lib.hid hk
        have hkb := ne_bool hk
        generalize hkk : checkM L n = k at *
        have HK := Lib.hid hkk
        clear hb hk hkk hl0
        go_enter Tryd.func8, Tryd.ntmps8
        go_wp2_with fail
        refine (big_any _ L n HM.out).mono ?_
        rintro e w1 ⟨rfl, rfl⟩
        rw [HBG.out]
        go_wp2_with fail
        refine (refCheck_any _ L n HM.out HW.out).mono ?_
        rintro e w1 ⟨rfl, rfl⟩
        rw [HK.out]
        go_wp2_with fail
        refine (awake3 HT.out).mono ?_
        rintro e wz ⟨rfl, hbz⟩
        have HBZ := Lib.hid hbz
        clear hbz
        go_wp2
        go_ret
        exact ⟨rfl, HBZ.out⟩
end Go.Proofs.YtlbeobocppmifaaDoor
