/- The sixteenth layer's law WireGets. (Made by gen16g.py.) -/
import Derived.Test.YtmihpbdgilmdiaaDoorLaw16
import Derived.Test.YtmihpbdgilmdiaaDoorLaw16T
import Derived.Test.YtmihpbdgilmdiaaDoorErrRow
import Derived.Laws.AppendOwnNone
namespace Go.Proofs.YtmihpbdgilmdiaaDoor
open Go.RowKit Go.Extern.Stop Go.Stop Go.Extern

theorem got_octs {l : List Nat} {k : Int} {p : Pkt} (h : GotP l k p) (ho : Octets l) : Octets p.data := by
  rcases h with ⟨-, -, rfl⟩ | ⟨-, -, -, rfl⟩ | ⟨-, -, -, -, rfl⟩ | ⟨-, -, -, h⟩
  · intro x hx; cases hx
  · intro x hx; cases hx
  · intro x hx; cases hx
  · have e := h.guess
    rw [← e]
    exact (fits_gs (fun x hx => ho x (List.mem_of_mem_take hx)) p.kind ⟨by have := h.1.k1; omega, by have := h.1.k2; omega⟩).octs

set_option maxRecDepth 1000000 in
set_option maxHeartbeats 8000000 in
theorem gets16 (hP : WrPutC) (hG : WrGetC) {w : World} (v : Value) (l : List Nat) (h : ListAt byteV w v l) (ho : Octets l) (hR : l.length * 1 ≤ reachBytes) (hg : Laid w) :
    Calls Tryd.prog 5 #[v] w fun e w' => e = .returned (.bool true) ∧ Below w.heap.size w w' := by
  obtain ⟨j0, hj0, jz0, jz1, jz2⟩ := info_parts info_u8
  have hR2 : l.length ≤ 140737488351232 := by unfold reachBytes at hR; omega
  have hlen := h.len
  have HP := Lib.hid fun (V : World) (v' : Value) (hv : ListAt byteV V v' l) => hG V v' l hv ho hR2
  have HD := Lib.hid fun (V : World) (v' : Value) (hv : ListAt byteV V v' l) => rGet_any v' l hv ho hR2
  have HAW := Lib.hid (awake16 hP hG)
  have HOC := Lib.hid ho
  have HG := Lib.hid hg
  have HL := Lib.hid h
  obtain ⟨a, cap, rfl, -, -, -⟩ := h
  have HOS := Lib.hid (World.ownsRow_made (base := w.heap.size) (e := 5) (size := 1) w #[] 0 (Nat.le_refl _) (by decide) rfl)
  have HBe := Lib.hid ((Below.refl w.heap.size w).alloc (Nat.le_refl _) (.cells #[] 5))
  have HLe := Lib.hid (HL.out.mono HBe.out)
  clear hP hG ho hg hR
  go_enter Tryd.func5, Tryd.ntmps5
  go_wp2_with (at_builtin; refine wpList_append_of _ rfl (.tmp 9) (.tmp 10) 22 rfl w.heap.size 5 j0 (.int .u8 0) 1 Tryd.underlying22 hj0 jz0 jz1 jz2 rfl (.slice (some ⟨w.heap.size, 0, none⟩) 0 0) 0 [] rfl HOS.out (.slice a l.length cap) l rfl HLe.out (fun y _ => rfl) (by unfold maxLen; omega) (by omega) (by simp) ?_; intro v5 w1 ho1 hg1; have HO1 := Lib.hid (show w1.ownsRow w.heap.size 5 1 v5 l.length (l.map byteV) by simpa using ho1); have HB1 := Lib.hid (HBe.out.grown hg1 (by simp) (fun k hk => (HOS.out.lt k hk).1)); clear ho1 hg1)
  have hl1 : ListAt byteV w1 v5 l := ListAt.of_owns HO1.out
  refine (HP.out w1 v5 hl1).mono ?_
  rintro e w2 ⟨p, kk, D1, E, rfl, he, hgot, hv1, hb2⟩
  obtain ⟨ao, co, rfl, hco, hao⟩ := own_open HO1.out
  obtain ⟨a1, q1, hD1, -, -⟩ := own_open hv1
  subst hD1
  obtain ⟨w3, hw3, hb3, hx3⟩ := pkt_laid w2 p (.slice a1 p.data.length q1)
  have HW3 := Lib.hid hw3
  have HAO := Lib.hid hao
  have HSZ := Lib.hid hb2.size
  have HSZ3 := Lib.hid hx3.lt
  have HB2 := Lib.hid (HB1.out.trans (hb2.mono HB1.out.size))
  have HB3 := Lib.hid (HB2.out.trans (hb3.mono HB2.out.size))
  have HO3 := Lib.hid (owns_kept (owns_kept HO1.out hb2) hb3)
  have HE3 := Lib.hid (he.mono hb3)
  have HV3 := Lib.hid (owns_kept hv1 hb3)
  have HX3 := Lib.hid hx3
  have HGOT := Lib.hid hgot
  have HPO := Lib.hid (got_octs hgot HOC.out)
  unfold pktV
  clear hl1 he hb2 hv1 hao hw3 hb3 hx3 hgot
  go_upto_region 3 with ((with_reducible show wpList _ _ _ (⟨none, _, _, _, _, _⟩ :: _) _ _); refine wpList_storeRow0 _ rfl 26 (.tmp 4) (.tmp 15) rfl rfl rfl (by kernel_rfl) (by rfl) (by kernel_rfl) ?_)
  rw [← HW3.out]
  go_wp2_with fail
  go_loopw [6] (fun i wr => ∃ (k : Nat) (R : List Nat), k ≤ l.length ∧ i = .int .i64 (k : Int) ∧ R.length = l.length ∧ Octets R ∧ wr.ownsRow w.heap.size 5 1 (.slice ao l.length co) l.length (R.map byteV) ∧ w3.grownBy wr (Value.slice ao l.length co).ownBlock ∧ (l.length = 0 → w3 = wr)) (fun i _ => l.length - (intOf i).toNat)
  case atStart => exact ⟨0, l, by omega, rfl, rfl, HOC.out, HO3.out, World.grownBy.refl _ _, fun _ => rfl⟩
  case round =>
    obtain ⟨k, R, hk, rfl, hRl, hRo, hown, hgr, hz0⟩ := hrel
    by_cases hlt : k < l.length
    · obtain ⟨g, rfl⟩ := HAO.out (by omega)
      have d2 : decide ((k : Int) < (l.length : Int)) = true := decide_eq_true (by omega)
      have hcell := hown.cellAt k (by omega)
      have hx : R.getD k 0 < 256 := hRo.getD k
      have hcell' : wr.cell? ⟨g, k, none⟩ = some (.int .u8 ((R.getD k 0 : Nat) : Int)) := by
        rw [hcell]
        have : k < R.length := by omega
        simp [byteV, List.getD_eq_getElem?_getD, this]
      have hfr : wr.frozen? ⟨g, k, none⟩ = false := hown.frozenAt k
      have HST : Hid ((wr.setCell ⟨g, k, none⟩ (.int .u8 ((255 - R.getD k 0 : Nat) : Int))).ownsRow w.heap.size 5 1 (.slice (some ⟨g, 0, none⟩) l.length co) l.length ((R.set k (255 - R.getD k 0)).map byteV) ∧ w3.grownBy (wr.setCell ⟨g, k, none⟩ (.int .u8 ((255 - R.getD k 0 : Nat) : Int))) (Value.slice (some ⟨g, 0, none⟩) l.length co).ownBlock) := Lib.hid (by
        obtain ⟨h1, h2⟩ := hown.stored k (byteV (255 - R.getD k 0))
        refine ⟨?_, grown_trans hgr h2⟩
        rw [List.map_set]
        exact h1)
      have HRS : Hid (Octets (R.set k (255 - R.getD k 0)) ∧ (R.set k (255 - R.getD k 0)).length = l.length) := Lib.hid ⟨hRo.set k _ (by omega), by rw [List.length_set]; exact hRl⟩
      clear hcell hown hgr hRo hRl
      generalize R.getD k 0 = x at *
      have hsub : (255 : Int) - (x : Int) = ((255 - x : Nat) : Int) := by omega
      have hy : 255 - x < 256 := by omega
      generalize 255 - x = y at *
      go_wp2
      exact ⟨⟨k + 1, R.set k y, hlt, by go_num, HRS.out.2, HRS.out.1, HST.out.1, HST.out.2, fun h => by omega⟩, by simp [intOf]; omega⟩
    · obtain rfl : k = l.length := by omega
      have d2 : decide ((l.length : Int) < (l.length : Int)) = false := decide_eq_false (by omega)
      have HB4 := Lib.hid (HB3.out.grown hgr HB3.out.size (fun j hj => (HO3.out.lt j hj).1))
      have HE4 := Lib.hid (errAns_row HE3.out HO3.out (fun y hy s => by obtain ⟨z, _, rfl⟩ := List.mem_map.1 hy; intro h; cases h) hgr hz0)
      have HV4 := Lib.hid (HV3.out.kept hgr (by
        by_cases hn : (Value.slice a1 p.data.length q1).ownBlock = none
        · exact .inl hn
        · refine .inr fun e => ?_
          rcases hq : (Value.slice a1 p.data.length q1).ownBlock with _ | q
          · exact hn hq
          · have h1 := (HV3.out.lt q hq).1
            have h2 := (HO1.out.lt q (by rw [← e, hq])).2
            omega))
      have HX4 : Hid (PktBox wr w2.heap.size p (.slice a1 p.data.length q1)) := Lib.hid ((hgr.block _ HSZ3.out (fun e => by
        have h2 := (HO1.out.lt _ e.symm).2
        have := HSZ.out
        omega)).trans HX3.out)
      have HL4 := Lib.hid (HL.out.mono HB4.out)
      clear hown hgr hz0
      go_wp2_with fail
      refine (HD.out _ _ HL4.out).mono ?_
      rintro e w5 ⟨v', k', p', rfl, hpk, hgt, hb5⟩
      obtain ⟨hk', hp'⟩ := hgt.same HGOT.out
      subst hk' hp'
      obtain ⟨D2, rfl, hD2⟩ := hpk
      obtain ⟨a2, q2, hD2e, -, -, -⟩ := id hD2
      subst hD2e
      obtain ⟨w6, hw6, hb6, hx6⟩ := pkt_laid w5 p' (.slice a2 p'.data.length q2)
      have HB5 := Lib.hid (HB4.out.trans (hb5.mono HB4.out.size))
      have HB6 := Lib.hid (HB5.out.trans (hb6.mono HB5.out.size))
      have HE6 := Lib.hid ((HE4.out.mono hb5).mono hb6)
      have HX6 := Lib.hid ((HX4.out.mono hb5).mono hb6)
      have HY6 := Lib.hid hx6
      have HV6 := Lib.hid (((ListAt.of_owns (f := byteV) HV4.out).mono hb5).mono hb6)
      have HD6 := Lib.hid (hD2.mono hb6)
      have HW6 := Lib.hid hw6
      unfold pktV
      clear hb5 hb6 hx6 hw6 hD2 hgt
      go_upto_region 8 with ((with_reducible show wpList _ _ _ (⟨none, _, _, _, _, _⟩ :: _) _ _); refine wpList_storeRow0 _ rfl 26 (.tmp 7) (.tmp 34) rfl rfl rfl (by kernel_rfl) (by rfl) (by kernel_rfl) ?_)
      rw [← HW6.out]
      go_wp2_with fail
      refine (tells_ans _ _ _ HE6.out (HG.out.mono HB6.out)).mono ?_
      rintro e w7 ⟨rfl, hb7⟩
      have HB7 := Lib.hid (HB6.out.trans (hb7.mono HB6.out.size))
      have HX7 := Lib.hid (HX6.out.mono hb7)
      have HY7 := Lib.hid (HY6.out.mono hb7)
      have HSM := Lib.hid (rSame_any p' p' _ _ (HV6.out.mono hb7) (HD6.out.mono hb7) HPO.out HPO.out)
      rw [decide_eq_true (rfl : p' = p')] at HSM
      unfold pktV at HSM
      clear hb7
      go_wp2_with (first
        | ((with_reducible show wpList _ _ _ (⟨some 40, _, _, _, _, _⟩ :: _) _ _); refine wpList_loadRowW (by rfl) 26 (.tmp 4) rfl w2.heap.size rfl 26 _ (0, 0) _ HX7.out Tryd.underlying26 rfl (by kernel_rfl) ?_)
        | ((with_reducible show wpList _ _ _ (⟨some 41, _, _, _, _, _⟩ :: _) _ _); refine wpList_loadRowW (by rfl) 26 (.tmp 7) rfl w5.heap.size rfl 26 _ (0, 0) _ HY7.out Tryd.underlying26 rfl (by kernel_rfl) ?_))
      refine HSM.out.mono ?_
      rintro e w8 ⟨rfl, hb8⟩
      have HB8 := Lib.hid (HB7.out.trans (hb8.mono HB7.out.size))
      clear hb8
      go_wp2_with fail
      refine (HAW.out _).mono ?_
      rintro e w9 ⟨rfl, hb9⟩
      have HB9 := Lib.hid (HB8.out.trans (hb9.mono HB8.out.size))
      clear hb9
      go_wp2
      go_ret
      exact ⟨rfl, HB9.out⟩
end Go.Proofs.YtmihpbdgilmdiaaDoor
