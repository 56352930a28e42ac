/- The sixteenth layer's law WireBack. (Made by gen16b.py.) -/
import Derived.Test.YtmihpbdgilmdiaaLaw16
namespace Go.Proofs.Ytmihpbdgilmdiaa
open Go.RowKit Go.Extern.Stop Go.Stop Go.Extern

theorem got_fits {l : List Nat} {q : Pkt} (h : GotP l 0 q) (ho : Octets l) : FitsP q := by
  rcases h with ⟨-, h, -⟩ | ⟨-, -, h, -⟩ | ⟨-, -, -, h, -⟩ | ⟨-, -, -, h⟩
  · cases h
  · cases h
  · cases h
  have e := h.guess
  rw [← e]
  exact fits_gs (fun x hx => ho x (List.mem_of_mem_take hx)) q.kind ⟨by have := h.1.k1; omega, by have := h.1.k2; omega⟩

set_option linter.unusedSimpArgs false in
set_option maxRecDepth 1000000 in
set_option maxHeartbeats 8000000 in
theorem back16 (hP : WrPutC) (hG : WrGetC) {w : World} (p : Pkt) (D v : Value) (l : List Nat) (hD : ListAt byteV w D p.data) (hF : FitsP p) (h : ListAt byteV w v l) (ho : Octets l) (hR : l.length * 1 ≤ reachBytes) :
    Calls Try.prog 4 #[pktV p D, v] w fun e w' => e = .returned (.bool true) ∧ Below w.heap.size w w' := by
  have hR2 : l.length ≤ 140737488351232 := by unfold reachBytes at hR; omega
  have HAW := Lib.hid (awake16 hP hG)
  obtain ⟨W0, hW0, hb0, hx0⟩ := pkt_laid w p D
  have HW0 := Lib.hid hW0
  have HB0 := Lib.hid hb0
  have HX0 := Lib.hid hx0
  have HPT := Lib.hid (hP W0 p D (hD.mono hb0) hF)
  have HDD : Hid (∀ V, Below w.heap.size w V → ListAt byteV V D p.data) := Lib.hid fun V hV => hD.mono hV
  have HLL : Hid (∀ V, Below w.heap.size w V → ListAt byteV V v l) := Lib.hid fun V hV => h.mono hV
  have HGL : Hid (∀ V : World, Below w.heap.size w V → _) := Lib.hid fun V hV => hG V v l (HLL.out V hV) ho hR2
  have HG := Lib.hid hG
  have HP := Lib.hid hP
  have HF := Lib.hid hF
  have HO := Lib.hid ho
  unfold pktV at HPT
  unfold pktV
  clear hP hG hW0 hb0 hx0 hD hF h ho hR hR2
  go_enter Try.func4, Try.ntmps4
  go_upto_region 1 with fail
  rw [← HW0.out]
  go_wp2_with ((with_reducible show wpList _ _ _ (⟨some 14, _, _, _, _, _⟩ :: _) _ _); refine wpList_load_row rfl 26 (.tmp 2) rfl w.heap.size rfl 26 _ (0, 0) _ HX0.out Try.underlying26 rfl (by kernel_rfl) ?_)
  refine HPT.out.mono ?_
  rintro e w1 ⟨hb1, ⟨hne, E1, rfl, he1⟩ | ⟨hck, v1, rfl, ho1⟩⟩
  · obtain ⟨x, y, rfl⟩ := he1.some hne
    have HBA := Lib.hid (HB0.out.trans (hb1.mono HB0.out.size))
    clear he1 hne hb1
    go_upto_region 6 with fail
    go_wp2_with fail
    refine (HGL.out w1 HBA.out).mono ?_
    rintro e u2 ⟨g, k, D5, E5, rfl, he5, hgot5, hv5, hb5⟩
    obtain ⟨a5, q5, hD5, -, -⟩ := own_open hv5
    subst hD5
    obtain ⟨u3, hu3, hc3, hy3⟩ := pkt_laid u2 g (.slice a5 g.data.length q5)
    have HU3 := Lib.hid hu3
    have HC2 := Lib.hid (HBA.out.trans (hb5.mono HBA.out.size))
    have HC3 := Lib.hid (HC2.out.trans (hc3.mono HC2.out.size))
    have HZ3 := Lib.hid hy3
    have HV5 := Lib.hid ((ListAt.of_owns (f := byteV) hv5).mono hc3)
    unfold pktV
    clear hu3 hc3 hy3 hb5 hv5
    by_cases hk : k = 0
    · subst hk
      obtain rfl := errAns_zero he5
      obtain ⟨hcg, hpg⟩ := got_putP hgot5
      have HPG := Lib.hid (HP.out u3 g _ HV5.out (got_fits hgot5 HO.out))
      unfold pktV at HPG
      clear he5 hgot5
      go_upto_region 7 with ((with_reducible show wpList _ _ _ (⟨none, _, _, _, _, _⟩ :: _) _ _); refine wpList_storeRow0 _ rfl 26 (.tmp 9) (.tmp 41) rfl rfl rfl (by kernel_rfl) (by rfl) (by kernel_rfl) ?_)
      rw [← HU3.out]
      go_upto_region 8 with fail
      go_wp2_with ((with_reducible show wpList _ _ _ (⟨some 46, _, _, _, _, _⟩ :: _) _ _); refine wpList_load_row rfl 26 (.tmp 9) rfl u2.heap.size rfl 26 _ (0, 0) _ HZ3.out Try.underlying26 rfl (by kernel_rfl) ?_)
      refine HPG.out.mono ?_
      rintro e u4 ⟨hb, ⟨hne, -⟩ | ⟨-, v6, rfl, ho6⟩⟩
      · exact absurd hcg hne
      · have HC4 := Lib.hid (HC3.out.trans (hb.mono HC3.out.size))
        rw [hpg] at ho6
        have hs1 := (ListAt.of_owns (f := byteV) (l := l) ho6).str
        have hs2 := (HLL.out u4 HC4.out).str
        have hse : ((strN l).toList == (strN l).toList) = true := by simp
        clear hb ho6 hcg hpg
        generalize strN l = sl at *
        go_wp2_with fail
        refine (HAW.out _).mono ?_
        rintro e u5 ⟨rfl, hb⟩
        have HC5 := Lib.hid (HC4.out.trans (hb.mono HC4.out.size))
        clear hb
        go_wp2
        go_ret
        exact ⟨rfl, HC5.out⟩
    · obtain ⟨x5, y5, rfl⟩ := he5.some hk
      clear he5 hgot5
      go_upto_region 7 with ((with_reducible show wpList _ _ _ (⟨none, _, _, _, _, _⟩ :: _) _ _); refine wpList_storeRow0 _ rfl 26 (.tmp 9) (.tmp 41) rfl rfl rfl (by kernel_rfl) (by rfl) (by kernel_rfl) ?_)
      rw [← HU3.out]
      go_wp2_with fail
      refine (HAW.out _).mono ?_
      rintro e u5 ⟨rfl, hb⟩
      have HC5 := Lib.hid (HC3.out.trans (hb.mono HC3.out.size))
      clear hb
      go_wp2
      go_ret
      exact ⟨rfl, HC5.out⟩
  · have HB1 := Lib.hid (HB0.out.trans (hb1.mono HB0.out.size))
    have HX1 := Lib.hid (HX0.out.mono hb1)
    have HL1 := Lib.hid (ListAt.of_owns (f := byteV) (l := putP p) ho1)
    have hpl := putP_len hck
    obtain ⟨a1, q1, hv1, -, -⟩ := own_open ho1
    subst hv1
    clear ho1 hb1
    go_wp2_with fail
    refine (HG.out w1 _ (putP p) HL1.out (putP_octets HF.out.octs) (by omega)).mono ?_
    rintro e w2 ⟨q, k, D2, E2, rfl, he2, hgot, hv2, hb2⟩
    obtain ⟨rfl, rfl⟩ := putP_got hck hgot
    obtain rfl := errAns_zero he2
    obtain ⟨a2, q2, hD2, -, -⟩ := own_open hv2
    subst hD2
    obtain ⟨w3, hw3, hb3, hx3⟩ := pkt_laid w2 q (.slice a2 q.data.length q2)
    have HW3 := Lib.hid hw3
    have HB2 := Lib.hid (HB1.out.trans (hb2.mono HB1.out.size))
    have HB3 := Lib.hid (HB2.out.trans (hb3.mono HB2.out.size))
    have HX3 := Lib.hid ((HX1.out.mono hb2).mono hb3)
    have HY3 := Lib.hid hx3
    have HSM := Lib.hid (rSame_any q q _ _ (HDD.out w3 HB3.out) ((ListAt.of_owns (f := byteV) hv2).mono hb3) HF.out.octs HF.out.octs)
    rw [decide_eq_true (rfl : q = q)] at HSM
    unfold pktV at HSM
    unfold pktV
    have hd : decide ((128 : Int) < ((putP q).length : Int)) = false := decide_eq_false (by omega)
    have hd2 : ((putP q).length : Int) ≤ 128 := by omega
    clear hgot hv2 hb2 hb3 hw3 hx3 he2
    generalize (putP q).length = n at *
    go_upto_region 4 with ((with_reducible show wpList _ _ _ (⟨none, _, _, _, _, _⟩ :: _) _ _); refine wpList_storeRow0 _ rfl 26 (.tmp 7) (.tmp 23) rfl rfl rfl (by kernel_rfl) (by rfl) (by kernel_rfl) ?_)
    rw [← HW3.out]
    go_wp2_with (first
      | ((with_reducible show wpList _ _ _ (⟨some 28, _, _, _, _, _⟩ :: _) _ _); refine wpList_loadRowW (by rfl) 26 (.tmp 2) rfl w.heap.size rfl 26 _ (0, 0) _ HX3.out Try.underlying26 rfl (by kernel_rfl) ?_)
      | ((with_reducible show wpList _ _ _ (⟨some 29, _, _, _, _, _⟩ :: _) _ _); refine wpList_loadRowW (by rfl) 26 (.tmp 7) rfl w2.heap.size rfl 26 _ (0, 0) _ HY3.out Try.underlying26 rfl (by kernel_rfl) ?_))
    refine HSM.out.mono ?_
    rintro e w4 ⟨rfl, hb4⟩
    have HBA := Lib.hid (HB3.out.trans (hb4.mono HB3.out.size))
    clear hb4
    go_upto_region 6 with fail
    go_wp2_with fail
    refine (HGL.out w4 HBA.out).mono ?_
    rintro e u2 ⟨g, k, D5, E5, rfl, he5, hgot5, hv5, hb5⟩
    obtain ⟨a5, q5, hD5, -, -⟩ := own_open hv5
    subst hD5
    obtain ⟨u3, hu3, hc3, hy3⟩ := pkt_laid u2 g (.slice a5 g.data.length q5)
    have HU3 := Lib.hid hu3
    have HC2 := Lib.hid (HBA.out.trans (hb5.mono HBA.out.size))
    have HC3 := Lib.hid (HC2.out.trans (hc3.mono HC2.out.size))
    have HZ3 := Lib.hid hy3
    have HV5 := Lib.hid ((ListAt.of_owns (f := byteV) hv5).mono hc3)
    unfold pktV
    clear hu3 hc3 hy3 hb5 hv5
    by_cases hk : k = 0
    · subst hk
      obtain rfl := errAns_zero he5
      obtain ⟨hcg, hpg⟩ := got_putP hgot5
      have HPG := Lib.hid (HP.out u3 g _ HV5.out (got_fits hgot5 HO.out))
      unfold pktV at HPG
      clear he5 hgot5
      go_upto_region 7 with ((with_reducible show wpList _ _ _ (⟨none, _, _, _, _, _⟩ :: _) _ _); refine wpList_storeRow0 _ rfl 26 (.tmp 9) (.tmp 41) rfl rfl rfl (by kernel_rfl) (by rfl) (by kernel_rfl) ?_)
      rw [← HU3.out]
      go_upto_region 8 with fail
      go_wp2_with ((with_reducible show wpList _ _ _ (⟨some 46, _, _, _, _, _⟩ :: _) _ _); refine wpList_load_row rfl 26 (.tmp 9) rfl u2.heap.size rfl 26 _ (0, 0) _ HZ3.out Try.underlying26 rfl (by kernel_rfl) ?_)
      refine HPG.out.mono ?_
      rintro e u4 ⟨hb, ⟨hne, -⟩ | ⟨-, v6, rfl, ho6⟩⟩
      · exact absurd hcg hne
      · have HC4 := Lib.hid (HC3.out.trans (hb.mono HC3.out.size))
        rw [hpg] at ho6
        have hs1 := (ListAt.of_owns (f := byteV) (l := l) ho6).str
        have hs2 := (HLL.out u4 HC4.out).str
        have hse : ((strN l).toList == (strN l).toList) = true := by simp
        clear hb ho6 hcg hpg
        generalize strN l = sl at *
        go_wp2_with fail
        refine (HAW.out _).mono ?_
        rintro e u5 ⟨rfl, hb⟩
        have HC5 := Lib.hid (HC4.out.trans (hb.mono HC4.out.size))
        clear hb
        go_wp2
        go_ret
        exact ⟨rfl, HC5.out⟩
    · obtain ⟨x5, y5, rfl⟩ := he5.some hk
      clear he5 hgot5
      go_upto_region 7 with ((with_reducible show wpList _ _ _ (⟨none, _, _, _, _, _⟩ :: _) _ _); refine wpList_storeRow0 _ rfl 26 (.tmp 9) (.tmp 41) rfl rfl rfl (by kernel_rfl) (by rfl) (by kernel_rfl) ?_)
      rw [← HU3.out]
      go_wp2_with fail
      refine (HAW.out _).mono ?_
      rintro e u5 ⟨rfl, hb⟩
      have HC5 := Lib.hid (HC3.out.trans (hb.mono HC3.out.size))
      clear hb
      go_wp2
      go_ret
      exact ⟨rfl, HC5.out⟩
end Go.Proofs.Ytmihpbdgilmdiaa
