/- The walks of the second layer's laws PackedPacks, PackedBack. -/
import Derived.Test.YtdmgcnmapglhiaaDoorLaw02X
namespace Go.Proofs.YtdmgcnmapglhiaaDoor
open Go.RowKit Go.Extern.Stop Go.Stop Go.Extern

theorem checkI_cases (l : List Int) (n : Int) : checkI l n = 0 ∨ checkI l n = 1 ∨ checkI l n = 2 := by
  unfold checkI
  split
  · exact .inr (.inl rfl)
  · split
    · exact .inl rfl
    · exact .inr (.inr rfl)

theorem packAns_no {l : List Int} {n : Int} {w' : World} {v E : Value} {k : Int} (hk : checkI l n = k) (h0 : k ≠ 0) (h : packAns l n w' v E) : v = .slice none 0 0 ∧ Chain w' k [⟨#[112, 97, 99, 107, 101, 100, 46, 80, 97, 99, 107]⟩] E := by
  unfold packAns at h
  rw [hk, if_neg h0] at h
  exact h
theorem packAns_yes {l : List Int} {n : Int} {w' : World} {v E : Value} (hk : checkI l n = 0) (h : packAns l n w' v E) : E = .nilIface ∧ ∃ ws, ListAt wordV w' v ws ∧ Packs ws (sizeI n).toNat (inP l) := by
  unfold packAns at h
  rw [hk, if_pos rfl] at h
  exact h

set_option maxRecDepth 1000000 in
set_option maxHeartbeats 4000000 in
theorem packs2 {w : World} (v : Value) (l : List Int) (n : Int) (h : ListAt intV w v l) (hn : -9223372036854775808 ≤ n ∧ n ≤ 9223372036854775807) (hT : Tab w) (hg : Laid w) :
    Calls Tryd.prog 3 #[v, .int .i64 n] w fun e w' => e = .returned (.bool true) ∧ Below w.heap.size w w' := by
  obtain ⟨i0, hi, hz0, hz1, hz2⟩ := info_parts info_int
  have HT := Lib.hid hT
  have HG := Lib.hid hg
  have HNN := Lib.hid hn
  have HL := Lib.hid h
  have hlen := h.len
  obtain ⟨a, cap, rfl, hcap, -, -⟩ := h
  clear hT hg
  by_cases h300 : 300 < l.length
  · have h3 : (300 : Int) < (l.length : Int) := by omega
    go_enter Tryd.func3, Tryd.ntmps3
    go_wp2_with fail
    refine (awake2 (HT.out)).mono ?_
    rintro e wz ⟨rfl, hbz⟩
    have HBZ := Lib.hid (hbz)
    clear hbz
    go_wp2
    go_ret
    exact ⟨rfl, HBZ.out⟩
  have HB0 := Lib.hid ((Below.refl w.heap.size w).alloc (Nat.le_refl _) (.cells #[] 3))
  have HO0 := Lib.hid (World.ownsRow_made (base := w.heap.size) (e := 3) (size := 1) w #[] 0 (Nat.le_refl _) (by decide) rfl)
  have HLA := Lib.hid (HL.out.mono HB0.out)
  go_enter Tryd.func3, Tryd.ntmps3
  go_wp2_with (at_builtin; refine wpList_append_list (f := intV) _ rfl (.tmp 13) (.tmp 14) 22 rfl w.heap.size 3 i0 (.int .i64 0) 8 Tryd.underlying22 hi hz0 hz1 hz2 rfl _ 0 [] rfl HO0.out _ l rfl HLA.out (fun y => rfl) (by unfold maxLen; omega) (by omega) (by simp) ?_; intro o w1 hown1 hgrow1; have hb1 := Lib.hid (HB0.out.grown hgrow1 (by simp) (fun k hk => (HO0.out.lt k hk).1)); rw [Nat.zero_add, List.nil_append] at hown1; have ho1 := Lib.hid hown1; clear hown1 hgrow1)
  have HLO := Lib.hid (ListAt.of_owns (f := intV) ho1.out)
  go_wp2_with fail
  refine (Pack_any _ l n HLO.out HNN.out).mono ?_
  rintro e w2 ⟨pv, pE, rfl, hans, hb2⟩
  have HA := Lib.hid hans
  have HD2 := Lib.hid hb2
  have HB2 := Lib.hid (hb1.out.trans (hb2.mono hb1.out.size))
  have HLO2 := Lib.hid (HLO.out.mono hb2)
  clear hb2
  rcases checkI_cases l n with hk | hk | hk
  · obtain ⟨rfl, ws, hls, hpk⟩ := packAns_yes hk hans
    have HK := Lib.hid hk
    have HLS := Lib.hid hls
    have HPK := Lib.hid hpk
    obtain ⟨K, hK, hK64⟩ := sizeI_nat n
    have HW : Hid (ws = packW l (sizeI n).toNat) := Lib.hid (hpk.unique (Packs.map (inP l) _))
    obtain ⟨pa, pc, rfl, -, -, -⟩ := hls
    clear hans hpk hk
    go_wp2_with fail
    refine (Check_any _ l n (HL.out.mono HB2.out)).mono ?_
    rintro e w3 ⟨rfl, hb3⟩
    rw [HK.out]
    have HB3 := Lib.hid (HB2.out.trans (hb3.mono HB2.out.size))
    have HLO3 := Lib.hid (HLO2.out.mono hb3)
    have HLS3 := Lib.hid (HLS.out.mono hb3)
    clear hb3
    go_wp2_with fail
    refine (tells_nil _).mono ?_
    rintro e w4 ⟨rfl, rfl⟩
    go_wp2_with fail
    refine (SameI_any _ _ l HLO3.out (HL.out.mono HB3.out)).mono ?_
    rintro e w5 ⟨rfl, hb5⟩
    have HB5 := Lib.hid (HB3.out.trans (hb5.mono HB3.out.size))
    have HLS5 := Lib.hid (HLS3.out.mono hb5)
    clear hb5
    go_wp2_with fail
    refine (Size_any n HNN.out).mono ?_
    rintro e w6 ⟨rfl, rfl⟩
    go_wp2_with fail
    refine (refSize_any n HNN.out).mono ?_
    rintro e w6 ⟨rfl, rfl⟩
    have hss : (sizeI n != sizeI n) = false := by simp
    go_wp2_with fail
    refine (refPack_any _ l n (HL.out.mono HB5.out) HNN.out).mono ?_
    rintro e w7 ⟨pv2, rfl, hpl, hb7⟩
    rw [← HW.out] at hpl
    have HP7 := Lib.hid hpl
    have HLS7 := Lib.hid (HLS5.out.mono hb7)
    have HB7 := Lib.hid (HB5.out.trans (hb7.mono HB5.out.size))
    clear hpl hb7
    go_wp2_with fail
    refine (SameW_any _ _ ws HLS7.out HP7.out).mono ?_
    rintro e w8 ⟨rfl, hb8⟩
    have HB8 := Lib.hid (HB7.out.trans (hb8.mono HB7.out.size))
    clear hb8
    go_wp2_with fail
    refine (awake2 (HT.out.mono HB8.out)).mono ?_
    rintro e wz ⟨rfl, hbz⟩
    have HBZ := Lib.hid (HB8.out.trans (hbz.mono HB8.out.size))
    clear hbz
    go_wp2
    go_ret
    exact ⟨rfl, HBZ.out⟩
  · obtain ⟨rfl, hch⟩ := packAns_no hk (by decide) hans
    have HK := Lib.hid hk
    have HC := Lib.hid hch
    clear hans hk hch
    go_wp2_with fail
    refine (Check_any _ l n (HL.out.mono HB2.out)).mono ?_
    rintro e w3 ⟨rfl, hb3⟩
    rw [HK.out]
    have HB3 := Lib.hid (HB2.out.trans (hb3.mono HB2.out.size))
    have HLO3 := Lib.hid (HLO2.out.mono hb3)
    have HC3 := Lib.hid (HC.out.mono hb3)
    clear hb3
    go_wp2_with fail
    refine (tells_some 1 (by decide) _ _ HC3.out (HG.out.mono HB3.out)).mono ?_
    rintro e w4 ⟨rfl, hb4⟩
    have HB4 := Lib.hid (HB3.out.trans (hb4.mono HB3.out.size))
    have HLO4 := Lib.hid (HLO3.out.mono hb4)
    clear hb4
    go_wp2_with fail
    refine (SameI_any _ _ l HLO4.out (HL.out.mono HB4.out)).mono ?_
    rintro e w5 ⟨rfl, hb5⟩
    have HB5 := Lib.hid (HB4.out.trans (hb5.mono HB4.out.size))
    clear hb5
    go_wp2_with fail
    refine (Size_any n HNN.out).mono ?_
    rintro e w6 ⟨rfl, rfl⟩
    go_wp2_with fail
    refine (refSize_any n HNN.out).mono ?_
    rintro e w6 ⟨rfl, rfl⟩
    have hss : (sizeI n != sizeI n) = false := by simp
    go_wp2_with fail
    refine (awake2 (HT.out.mono HB5.out)).mono ?_
    rintro e wz ⟨rfl, hbz⟩
    have HBZ := Lib.hid (HB5.out.trans (hbz.mono HB5.out.size))
    clear hbz
    go_wp2
    go_ret
    exact ⟨rfl, HBZ.out⟩
  · obtain ⟨rfl, hch⟩ := packAns_no hk (by decide) hans
    have HK := Lib.hid hk
    have HC := Lib.hid hch
    clear hans hk hch
    go_wp2_with fail
    refine (Check_any _ l n (HL.out.mono HB2.out)).mono ?_
    rintro e w3 ⟨rfl, hb3⟩
    rw [HK.out]
    have HB3 := Lib.hid (HB2.out.trans (hb3.mono HB2.out.size))
    have HLO3 := Lib.hid (HLO2.out.mono hb3)
    have HC3 := Lib.hid (HC.out.mono hb3)
    clear hb3
    go_wp2_with fail
    refine (tells_some 2 (by decide) _ _ HC3.out (HG.out.mono HB3.out)).mono ?_
    rintro e w4 ⟨rfl, hb4⟩
    have HB4 := Lib.hid (HB3.out.trans (hb4.mono HB3.out.size))
    have HLO4 := Lib.hid (HLO3.out.mono hb4)
    clear hb4
    go_wp2_with fail
    refine (SameI_any _ _ l HLO4.out (HL.out.mono HB4.out)).mono ?_
    rintro e w5 ⟨rfl, hb5⟩
    have HB5 := Lib.hid (HB4.out.trans (hb5.mono HB4.out.size))
    clear hb5
    go_wp2_with fail
    refine (Size_any n HNN.out).mono ?_
    rintro e w6 ⟨rfl, rfl⟩
    go_wp2_with fail
    refine (refSize_any n HNN.out).mono ?_
    rintro e w6 ⟨rfl, rfl⟩
    have hss : (sizeI n != sizeI n) = false := by simp
    go_wp2_with fail
    refine (awake2 (HT.out.mono HB5.out)).mono ?_
    rintro e wz ⟨rfl, hbz⟩
    have HBZ := Lib.hid (HB5.out.trans (hbz.mono HB5.out.size))
    clear hbz
    go_wp2
    go_ret
    exact ⟨rfl, HBZ.out⟩

/-! ### what was packed is unpacked -/
theorem packs_cols {l : List Int} {n : Int} {ws : List Nat} (hk : checkI l n = 0) (hp : Packs ws (sizeI n).toNat (inP l)) : (colsOf ws).length = l.length ∧ ∀ c, c ∈ colsOf ws → (c : Int) ∈ l := by
  have hno : ¬ (n < 0 ∨ 4096 < n ∨ outI l n = true) := by
    intro h; rw [checkI, if_pos h] at hk; cases hk
  have hnd : l.Nodup := by
    rw [checkI, if_neg hno] at hk
    by_cases h : l.Nodup
    · exact h
    · rw [if_neg h] at hk; cases hk
  have hin : ∀ x ∈ l, 0 ≤ x ∧ x < n := by
    intro x hx
    have ho : outI l n = false := by
      cases h : outI l n with
      | false => rfl
      | true => exact absurd (.inr (.inr h)) hno
    unfold outI at ho
    rw [List.any_eq_false] at ho
    have := ho x hx
    simp at this
    omega
  have hmem : ∀ c, c ∈ colsOf ws ↔ (c : Int) ∈ l := by
    intro c
    rw [mem_colsOf]
    by_cases hc : c < 64 * (sizeI n).toNat
    · rw [hp.2.2 c hc]; simp [inP]
    · rw [bitW_out _ _ (by rw [hp.1]; omega)]
      constructor
      · intro h; cases h
      · intro h
        have h2 := hin _ h
        have : sizeI n = (n + 63) / 64 := by unfold sizeI; rw [if_neg (by intro h; exact hno (by rcases h with h | h; exact .inl h; exact .inr (.inl h)))]
        omega
  refine ⟨?_, fun c hc => (hmem c).1 hc⟩
  have hnd2 : ((colsOf ws).map Int.ofNat).Nodup := by
    unfold List.Nodup
    rw [List.pairwise_map]
    exact (colsTo_nodup ws _).imp fun h e => h (Int.ofNat.inj e)
  have hperm := (List.perm_ext_iff_of_nodup hnd2 hnd).2 fun x => by
    constructor
    · intro h
      obtain ⟨c, hc, rfl⟩ := List.mem_map.1 h
      exact (hmem c).1 hc
    · intro h
      have h0 := (hin x h).1
      obtain ⟨c, rfl⟩ : ∃ c : Nat, x = (c : Int) := ⟨x.toNat, by omega⟩
      exact List.mem_map.2 ⟨c, (hmem c).2 h, rfl⟩
  have := hperm.length_eq
  rwa [List.length_map] at this

set_option maxRecDepth 1000000 in
set_option maxHeartbeats 4000000 in
theorem back2 {w : World} (v : Value) (l : List Int) (n : Int) (h : ListAt intV w v l) (hn : -9223372036854775808 ≤ n ∧ n ≤ 9223372036854775807) (hT : Tab w) :
    Calls Tryd.prog 6 #[v, .int .i64 n] w fun e w' => e = .returned (.bool true) ∧ Below w.heap.size w w' := by
  have HT := Lib.hid hT
  have HNN := Lib.hid hn
  have HL := Lib.hid h
  have hlen := h.len
  obtain ⟨a, cap, rfl, hcap, -, -⟩ := h
  clear hT
  by_cases h300 : 300 < l.length
  · have h3 : (300 : Int) < (l.length : Int) := by omega
    go_enter Tryd.func6, Tryd.ntmps6
    go_wp2_with fail
    refine (awake2 (HT.out)).mono ?_
    rintro e wz ⟨rfl, hbz⟩
    have HBZ := Lib.hid (hbz)
    clear hbz
    go_wp2
    go_ret
    exact ⟨rfl, HBZ.out⟩
  go_enter Tryd.func6, Tryd.ntmps6
  go_wp2_with fail
  refine (Pack_any _ l n HL.out HNN.out).mono ?_
  rintro e w2 ⟨pv, pE, rfl, hans, hb2⟩
  have HA := Lib.hid hans
  have HB2 := Lib.hid hb2
  clear hb2
  rcases checkI_cases l n with hk | hk | hk
  · obtain ⟨rfl, ws, hls, hpk⟩ := packAns_yes hk hans
    have HK := Lib.hid hk
    have HLS := Lib.hid hls
    obtain ⟨K, hK, hK64⟩ := sizeI_nat n
    have hwl : ws.length ≤ 64 := by have := hpk.1; omega
    have HWW := Lib.hid hpk.2.1
    obtain ⟨hcl, hcm⟩ := packs_cols hk hpk
    have HCL := Lib.hid hcl
    have HCM := Lib.hid hcm
    obtain ⟨pa, pc, rfl, -, -, -⟩ := hls
    clear hans hpk hk hcl hcm
    go_wp2_with fail
    refine (Unpack_any _ ws HLS.out HWW.out (by omega)).mono ?_
    rintro e w3 ⟨uv, rfl, hu, hb3⟩
    have HU := Lib.hid hu
    have HB3 := Lib.hid (HB2.out.trans (hb3.mono HB2.out.size))
    have hpw := colsTo_pairwise ws (64 * ws.length)
    have HPW : Hid ((colsOf ws).Pairwise (· < ·)) := Lib.hid hpw
    clear hb3 hpw
    generalize colsOf ws = cs at *
    obtain ⟨ua, uc, rfl, huc, hum, hucell⟩ := hu
    have HUC := Lib.hid hucell
    rw [HCL.out]
    rw [HCL.out] at huc
    clear hucell
    go_wp2_with fail
    go_loopw [8] (fun i wr => ∃ k : Nat, k ≤ l.length ∧ i = .int .i64 k ∧ Below w3.heap.size w3 wr) (fun i _ => l.length - (intOf i).toNat)
    case atStart => exact ⟨0, Nat.zero_le _, rfl, Below.refl _ _⟩
    case round =>
      obtain ⟨k, hk, rfl, hbel⟩ := hrel
      have HB := Lib.hid hbel
      by_cases hlt : k < l.length
      · have hkc : k < cs.length := by rw [HCL.out]; exact hlt
        obtain ⟨b, off, rfl, hcc⟩ := HUC.out (by omega)
        have hx0 : w3.cell? ⟨b, off + k, none⟩ = some (.int .i64 ((cs[k] : Nat) : Int)) := hcc k hkc
        have hx : wr.cell? ⟨b, off + k, none⟩ = some (.int .i64 ((cs[k] : Nat) : Int)) := (hbel.cell (p := ⟨b, off + k, none⟩) (World.block_lt_of_cell? w3 _ hx0)).trans hx0
        have hin : ((cs[k] : Nat) : Int) ∈ l := HCM.out _ (List.getElem_mem hkc)
        have HD := Lib.hid (decide_eq_true hin)
        have HCall : Hid (∀ nd : Nat, Calls Tryd.prog 29 #[.slice a l.length cap, .int .i64 ((cs[k] : Nat) : Int)] (wr.drewN nd) fun e w'' => e = .returned (.bool true) ∧ w'' = wr.drewN nd) := Lib.hid fun nd => by
          refine (In_any _ l ((cs[k] : Nat) : Int) ((HL.out.mono (HB3.out.trans (HB.out.mono HB3.out.size))).mono (below_draws (Below.refl _ _) nd))).mono ?_
          rintro e w' ⟨rfl, rfl⟩
          exact ⟨by rw [HD.out], rfl⟩
        by_cases hk0 : k = 0
        · subst hk0
          rw [Nat.add_zero] at hx
          clear hin HD hx0 hcc
          generalize cs[0] = c at hx HCall
          clear hbel
          go_wp2_with fail
          go_quiet (exact Calls.quiet_of_same (HCall.out _))
          go_wp2
          go_roundw
          case rel => exact ⟨1, by omega, by go_num, below_draws HB.out _⟩
          case measure => simp [intOf]; omega
        · obtain ⟨j, rfl⟩ : ∃ j, k = j + 1 := ⟨k - 1, by omega⟩
          have hjc : j < cs.length := by omega
          have hy0 : w3.cell? ⟨b, off + j, none⟩ = some (.int .i64 ((cs[j] : Nat) : Int)) := hcc j hjc
          have hy : wr.cell? ⟨b, off + j, none⟩ = some (.int .i64 ((cs[j] : Nat) : Int)) := (hbel.cell (p := ⟨b, off + j, none⟩) (World.block_lt_of_cell? w3 _ hy0)).trans hy0
          have hord : cs[j] < cs[j + 1] := (List.pairwise_iff_getElem.1 HPW.out) j (j + 1) hjc hkc (by omega)
          clear hin HD hx0 hy0 hcc
          generalize cs[j + 1] = c at hx HCall hord
          generalize cs[j] = d at hy hord
          clear hbel
          have hj0 : (0 : Int) < (j : Int) + 1 := by omega
          have hdc : ¬ ((c : Int) ≤ (d : Int)) := by omega
          have hdd : decide ((c : Int) ≤ (d : Int)) = false := decide_eq_false hdc
          rw [show ((j + 1 : Nat) : Int) = (j : Int) + 1 from by omega]
          go_wp2_with fail
          go_quiet (exact Calls.quiet_of_same (HCall.out _))
          go_wp2
          go_roundw
          case rel => exact ⟨j + 2, by omega, by go_num, below_draws HB.out _⟩
          case measure => simp [intOf]; omega
      · have HB4 := Lib.hid (HB3.out.trans (hbel.mono HB3.out.size))
        clear hbel
        go_wp2_with fail
        refine (awake2 (HT.out.mono HB4.out)).mono ?_
        rintro e wz ⟨rfl, hbz⟩
        have HBZ := Lib.hid (HB4.out.trans (hbz.mono HB4.out.size))
        clear hbz
        go_wp2
        go_ret
        exact ⟨rfl, HBZ.out⟩
  · obtain ⟨rfl, hch⟩ := packAns_no hk (by decide) hans
    have HC := Lib.hid hch
    obtain ⟨eu, ev, rfl⟩ := hch.iface
    clear hans hk hch
    go_wp2_with fail
    refine (awake2 (HT.out.mono HB2.out)).mono ?_
    rintro e wz ⟨rfl, hbz⟩
    have HBZ := Lib.hid (HB2.out.trans (hbz.mono HB2.out.size))
    clear hbz
    go_wp2
    go_ret
    exact ⟨rfl, HBZ.out⟩
  · obtain ⟨rfl, hch⟩ := packAns_no hk (by decide) hans
    have HC := Lib.hid hch
    obtain ⟨eu, ev, rfl⟩ := hch.iface
    clear hans hk hch
    go_wp2_with fail
    refine (awake2 (HT.out.mono HB2.out)).mono ?_
    rintro e wz ⟨rfl, hbz⟩
    have HBZ := Lib.hid (HB2.out.trans (hbz.mono HB2.out.size))
    clear hbz
    go_wp2
    go_ret
    exact ⟨rfl, HBZ.out⟩
end Go.Proofs.YtdmgcnmapglhiaaDoor
