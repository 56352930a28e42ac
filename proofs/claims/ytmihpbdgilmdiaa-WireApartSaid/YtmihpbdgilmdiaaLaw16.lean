/- The sixteenth layer's laws: copied, awake. (Made by gen16.py.) -/
import Derived.Test.YtmihpbdgilmdiaaWrC
namespace Go.Proofs.Ytmihpbdgilmdiaa
open Go.RowKit Go.Extern.Stop Go.Stop Go.Extern

/-- the packet with other data's slice -/
theorem pktC_set (p : Pkt) (D D' : Value) : (pktC p D).setIfInBounds 10 D' = pktC p D' := rfl

set_option maxRecDepth 1000000 in
set_option maxHeartbeats 8000000 in
theorem copied_any {w : World} (p : Pkt) (D : Value) (hD : ListAt byteV w D p.data) (hR : p.data.length ≤ 140737488351248) : Calls Try.prog 8 #[pktV p D] w fun e w' =>
    ∃ D', e = .returned (pktV p D') ∧ w'.ownsRow w.heap.size 5 1 D' p.data.length (p.data.map byteV) ∧ Below w.heap.size w w' := by
  obtain ⟨i0, hi0, hz0, hz1, hz2⟩ := info_parts info_u8
  have HD := Lib.hid hD
  obtain ⟨ad, cd, hDe, -, -, -⟩ := hD
  subst hDe
  unfold pktV pktC
  go_enter Try.func8, Try.ntmps8
  go_upto_region 1 with fail
  obtain ⟨W2, hW2⟩ : ∃ W2 : World, W2 = ((w.alloc (.cells (pktC p (.slice ad p.data.length cd)) 26)).alloc (.cells (pktC pkt0 nilS) 26)) := ⟨_, rfl⟩
  have hBW : Below w.heap.size w W2 := by rw [hW2]; exact ((Below.refl _ _).alloc (Nat.le_refl _) _).alloc (by rw [World.size_alloc]; omega) _
  have HBW := Lib.hid hBW
  have HPW : Hid (W2.heap[w.heap.size]? = some (.cells (pktC p (.slice ad p.data.length cd)) 26 (0, 0))) := Lib.hid (by rw [hW2]; exact heap_mid w _ _)
  have HZW : Hid (W2.heap[w.heap.size + 1]? = some (.cells (pktC pkt0 nilS) 26 (0, 0))) := Lib.hid (by
    have h := heap_alloc_new (w.alloc (.cells (pktC p (.slice ad p.data.length cd)) 26)) (.cells (pktC pkt0 nilS) 26)
    rw [World.size_alloc] at h
    rw [hW2]; exact h)
  have hsz : W2.heap.size = w.heap.size + 1 + 1 := by rw [hW2, World.size_alloc, World.size_alloc]
  have HSZ := Lib.hid hsz
  have HW2 := Lib.hid hW2
  unfold pktC pkt0 at HW2
  rw [← HW2.out]
  have HOS := Lib.hid (World.ownsRow_made (base := W2.heap.size) (e := 5) (size := 1) W2 #[] 0 (Nat.le_refl _) (by decide) rfl)
  have HB3 := Lib.hid ((Below.refl W2.heap.size W2).alloc (Nat.le_refl _) (.cells #[] 5))
  have HD3 := Lib.hid ((HD.out.mono hBW).mono HB3.out)
  have HFF : Hid (∀ V, Below W2.heap.size W2 V → V.heap[w.heap.size]? = some (.cells (pktC p (.slice ad p.data.length cd)) 26 (0, 0)) ∧ V.heap[w.heap.size + 1]? = some (.cells (pktC pkt0 nilS) 26 (0, 0))) := Lib.hid fun V hV => ⟨(hV.block _ (by rw [HSZ.out]; omega)).trans HPW.out, (hV.block _ (by rw [HSZ.out]; omega)).trans HZW.out⟩
  have q3 := cell_of_heap (j := 10) (u := .slice ad p.data.length cd) (HFF.out _ HB3.out).1 rfl
  clear hW2 hBW hsz
  go_wp2_with (first
    | (at_builtin; refine wpList_append_of _ rfl (.tmp 3) (.tmp 5) 22 rfl W2.heap.size 5 i0 (.int .u8 0) 1 Try.underlying22 hi0 hz0 hz1 hz2 rfl (.slice (some ⟨W2.heap.size, 0, none⟩) 0 0) 0 [] rfl HOS.out (.slice ad p.data.length cd) p.data rfl HD3.out (fun y _ => rfl) (by unfold maxLen; omega) (by omega) (by simp) ?_; intro v7 w7 ho7 hg7; have HO7 := Lib.hid (show w7.ownsRow W2.heap.size 5 1 v7 p.data.length (p.data.map byteV) by simpa using ho7); have HB7 := Lib.hid (HB3.out.grown hg7 (by simp) (fun k hk => (HOS.out.lt k hk).1)); obtain ⟨a7, c7, hv7, -, -⟩ := own_open HO7.out; subst hv7; obtain ⟨hp7, hz7⟩ := HFF.out _ HB7.out; have q7 := cell_of_heap (j := 10) (u := .slice ad p.data.length cd) hp7 rfl; have f7 := frozen_of_heap (j := 10) hp7; have HP8 : Hid ((w7.setCell ⟨w.heap.size, 10, none⟩ (.slice a7 p.data.length c7)).heap[w.heap.size]? = some (.cells (pktC p (.slice a7 p.data.length c7)) 26 (0, 0))) := Lib.hid (heap_setCell_at hp7); have HZ8 : Hid ((w7.setCell ⟨w.heap.size, 10, none⟩ (.slice a7 p.data.length c7)).heap[w.heap.size + 1]? = some (.cells (pktC pkt0 nilS) 26 (0, 0))) := Lib.hid (by rw [Below.heap_setCell _ _ _ _ (show w.heap.size + 1 ≠ w.heap.size by omega)]; exact hz7); clear ho7 hg7 hp7 hz7)
    | ((with_reducible show wpList _ _ _ (⟨some 8, _, _, _, _, _⟩ :: _) _ _); refine wpList_load_row rfl 26 (.tmp 1) rfl w.heap.size rfl 26 (pktC p (.slice a7 p.data.length c7)) (0, 0) _ HP8.out Try.underlying26 rfl (by kernel_rfl) ?_)
    | ((with_reducible show wpList _ _ _ (⟨none, _, _, _, _, _⟩ :: _) _ _); refine wpList_store_row rfl 26 (.tmp 2) (.tmp 8) rfl (w.heap.size + 1) (pktC p (.slice a7 p.data.length c7)) rfl rfl 26 _ HZ8.out (by kernel_rfl) (by rfl) (by kernel_rfl) ?_))
  have HB8 := Lib.hid (HBW.out.trans (HB7.out.mono (by rw [HSZ.out]; omega)))
  obtain ⟨hp7, hz7⟩ := HFF.out _ HB7.out
  refine bodyPost_ret (wr_row1 rfl _ _ (w.heap.size + 1) 26 _ (0, 0) _ rfl (setRow_heap _ _ _ _ _ _ HZ8.out) Try.underlying26 rfl (by kernel_rfl)) rfl ?_
  refine ⟨.slice a7 p.data.length c7, rfl, ?_, below_setRow (HB8.out.setCell (p := ⟨w.heap.size, 10, none⟩) (Nat.le_refl _) _) (by omega) _⟩
  refine ownsRow_base (own_same HO7.out fun g cur hg => ?_) (by rw [HSZ.out]; omega)
  have n0 : g ≠ w.heap.size + 1 := by
    rintro rfl
    rw [hz7] at hg
    cases hg
  have n1 : g ≠ w.heap.size := by
    rintro rfl
    rw [hp7] at hg
    cases hg
  rw [setRow_other _ _ _ _ n0, Below.heap_setCell _ _ _ _ n1]

theorem errAns_zero {c : ByteArray} {w : World} {E : Value} (h : ErrAns 0 c w E) : E = .nilIface := by
  rcases h with ⟨-, h⟩ | ⟨h, -⟩
  · exact h
  · exact absurd rfl h

set_option maxRecDepth 1000000 in
set_option maxHeartbeats 8000000 in
theorem awake16 (hP : WrPutC) (hG : WrGetC) (w : World) : Calls Try.prog 9 #[] w fun e w' => e = .returned (.bool true) ∧ Below w.heap.size w w' := by
  have HP := Lib.hid hP
  have HG := Lib.hid hG
  have HB0 := Lib.hid (lit_below w [97])
  have HL0 := Lib.hid (lit_octs w [97] (by decide))
  have hz0 : (litB w [97]).heap.size = w.heap.size + 1 := World.size_alloc ..
  obtain ⟨W2, hW2, hb2, hx2⟩ := pkt_laid (litB w [97]) pktX (.slice (some ⟨w.heap.size, 0, none⟩) 1 1)
  have HB2 := Lib.hid (HB0.out.trans (hb2.mono HB0.out.size))
  have HD2 := Lib.hid (HL0.out.mono hb2)
  have HX2 : Hid (PktBox W2 (w.heap.size + 1) pktX (.slice (some ⟨w.heap.size, 0, none⟩) 1 1)) := Lib.hid (by rw [← hz0]; exact hx2)
  have HW2 : Hid ((w.alloc (.cells #[.int .u8 97] 5 (1, 2))).alloc (.cells (pktC pktX (.slice (some ⟨w.heap.size, 0, none⟩) 1 1)) 26) = W2) := Lib.hid (by rw [hW2]; rfl)
  have HPT := Lib.hid (hP W2 pktX _ HD2.out pktX_fits)
  have kc := lit_conv
  unfold pktV at HPT
  clear hP hG hW2 hb2 hx2 hz0
  go_enter Try.func9, Try.ntmps9
  go_upto_region 2 with (first
    | ((with_reducible show wpList _ _ _ (⟨some 8, _, _, _, _, _⟩ :: _) _ _); refine wpList_built rfl 26 _ rfl (pktC pktX (.slice (some ⟨w.heap.size, 0, none⟩) 1 1)) (by kernel_rfl) ?_)
    | ((with_reducible show wpList _ _ _ (⟨none, _, _, _, _, _⟩ :: _) _ _); refine wpList_storeRow1 _ rfl 26 (.tmp 1) (.tmp 8) rfl rfl rfl (by kernel_rfl) (by rfl) (by kernel_rfl) ?_))
  rw [HW2.out]
  go_wp2_with ((with_reducible show wpList _ _ _ (⟨some 10, _, _, _, _, _⟩ :: _) _ _); refine wpList_load_row rfl 26 (.tmp 1) rfl (w.heap.size + 1) rfl 26 (pktC pktX (.slice (some ⟨w.heap.size, 0, none⟩) 1 1)) (0, 0) _ HX2.out Try.underlying26 rfl (by kernel_rfl) ?_)
  refine HPT.out.mono ?_
  rintro e w3 ⟨hb3, ⟨hne, -⟩ | ⟨-, v3, rfl, ho3⟩⟩
  · exact absurd pktX_ok hne
  have HB3 := Lib.hid (HB2.out.trans (hb3.mono HB2.out.size))
  have HX3 := Lib.hid (HX2.out.mono hb3)
  have HD3 := Lib.hid (HD2.out.mono hb3)
  have HL3 := Lib.hid (ListAt.of_owns (f := byteV) (l := putP pktX) ho3)
  rw [pktX_len] at ho3
  obtain ⟨a3, c3, rfl, -, -⟩ := own_open ho3
  have HGT := Lib.hid (HG.out w3 _ (putP pktX) HL3.out (putP_octets pktX_fits.octs) (by rw [pktX_len]; decide))
  clear hb3 ho3
  go_wp2_with fail
  refine HGT.out.mono ?_
  rintro e w4 ⟨q, k, D4, E4, rfl, he4, hg4, ho4, hb4⟩
  obtain ⟨rfl, rfl⟩ := putP_got pktX_ok hg4
  obtain rfl := errAns_zero he4
  obtain ⟨a4, c4, hD4, -, -⟩ := own_open ho4
  subst hD4
  obtain ⟨w5, hw5, hb5, hx5⟩ := pkt_laid w4 pktX (.slice a4 pktX.data.length c4)
  have HB4 := Lib.hid (HB3.out.trans (hb4.mono HB3.out.size))
  have HB5 := Lib.hid (HB4.out.trans (hb5.mono HB4.out.size))
  have HX5 := Lib.hid ((HX3.out.mono hb4).mono hb5)
  have HY5 := Lib.hid hx5
  have HW5 := Lib.hid hw5
  have HSM := Lib.hid (rSame_any pktX pktX _ _ ((HD3.out.mono hb4).mono hb5) ((ListAt.of_owns (f := byteV) ho4).mono hb5) pktX_fits.octs pktX_fits.octs)
  rw [decide_eq_true (rfl : pktX = pktX)] at HSM
  unfold pktV at HSM
  unfold pktV
  clear he4 hg4 ho4 hb4 hw5 hb5 hx5
  obtain ⟨b4, hb4e⟩ : ∃ b4, b4 = w4.heap.size := ⟨_, rfl⟩
  go_upto_region 4 with ((with_reducible show wpList _ _ _ (⟨none, _, _, _, _, _⟩ :: _) _ _); refine wpList_storeRow0 _ rfl 26 (.tmp 4) (.tmp 17) rfl rfl rfl (by kernel_rfl) (by rfl) (by kernel_rfl) ?_)
  rw [← HW5.out]
  go_wp2_with (first
    | ((with_reducible show wpList _ _ _ (⟨some 31, _, _, _, _, _⟩ :: _) _ _); refine wpList_loadRowW (by rfl) 26 (.tmp 1) rfl (w.heap.size + 1) rfl 26 _ (0, 0) _ HX5.out Try.underlying26 rfl (by kernel_rfl) ?_)
    | ((with_reducible show wpList _ _ _ (⟨some 32, _, _, _, _, _⟩ :: _) _ _); refine wpList_loadRowW (by rfl) 26 (.tmp 4) rfl w4.heap.size rfl 26 _ (0, 0) _ HY5.out Try.underlying26 rfl (by kernel_rfl) ?_))
  refine HSM.out.mono ?_
  rintro e w6 ⟨rfl, hb6⟩
  have HB6 := Lib.hid (HB5.out.trans (hb6.mono HB5.out.size))
  clear hb6
  go_wp2
  go_ret
  exact ⟨rfl, HB6.out⟩
end Go.Proofs.Ytmihpbdgilmdiaa
