/- ElimSums: the walk. -/
import Derived.Test.YtoahjjeaaekkpaaDoorLaw05R
namespace Go.Proofs.YtoahjjeaaekkpaaDoor
open Go.RowKit Go.Extern.Stop Go.Stop Go.Extern

theorem addV_three {n : Nat} {K : List Vec} {l : Vec} (h : kindV n K l = 3) : addV n K l = K := by unfold addV; rw [if_pos h]
theorem addR_three {n r : Nat} {K : List Vec} {l : Vec} (h : kindV n K l = 3) : addR n K l r = r := by
  unfold addR
  rw [if_neg (by omega)]
  rfl
theorem bitW_xor_one (a b : Nat) : bitW [a ^^^ b] = vadd (bitW [a]) (bitW [b]) := bitW_vadd (a := [a]) (b := [b]) rfl
theorem vecs_rowsQ_snoc (Q : List Nat) (x : Nat) : vecs (rowsQ (Q ++ [x])) = vecs (rowsQ Q) ++ [bitW [x]] := by simp [vecs, rowsQ]
theorem kQ_two {S : List (List Nat)} {size : Nat} (hS : SizeOk S size) (hm : S.length ≤ 12) {Q : List Nat} (hQ : ∀ q ∈ Q, q < 2 ^ S.length) {x : Nat} (hx : x < 2 ^ S.length) (hs : Sp (vecs (rowsQ Q)) (bitW [x])) : kindV S.length (kQ S size Q) (lqV S size x) = 2 := by
  rw [kQ_kind hS hm hQ hx, if_pos hs]
theorem rkQ_in {Q : List Nat} {x : Nat} (hs : Sp (vecs (rowsQ Q)) (bitW [x])) : rkQ (Q ++ [x]) = rkQ Q := by
  unfold rkQ
  rw [vecs_rowsQ_snoc, rk_in hs]
/-- With another symbol it clashes. -/
theorem kQ_three {S : List (List Nat)} {size : Nat} (hS : SizeOk S size) (hm : S.length ≤ 12) {Q : List Nat} (hQ : ∀ q ∈ Q, q < 2 ^ S.length) {x : Nat} (hx : x < 2 ^ S.length) {bad : List Nat} (hb : Octets bad) (hl : bad.length = size) (hne : bad ≠ symOf S size x) :
    kindV S.length (kQ S size (Q ++ [x])) (longV [x] bad S.length) = 3 := by
  have hQ2 : ∀ q ∈ Q ++ [x], q < 2 ^ S.length := fun q hq => by
    rcases List.mem_append.1 hq with h | h
    · exact hQ q h
    · rw [List.mem_singleton.1 h]; exact hx
  have hp : proj S.length (longV [x] bad S.length) = bitW [x] := longV_proj fun c hc => bit_out hx hc
  have h1 : Sp ((kQ S size (Q ++ [x])).map (proj S.length)) (proj S.length (longV [x] bad S.length)) := by
    rw [kQ_proj hQ2, hp, vecs_rowsQ_snoc]
    exact .mem (by simp)
  have h2 : ¬ Sp (kQ S size (Q ++ [x])) (longV [x] bad S.length) := fun hs => hne (by
    have e := (tV_true S).span (kQ_true hS hm hQ2) hs
    rw [hp, ← lq_comb hS hm hx] at e
    have e1 := symV_long (row := [x]) (n := S.length) hb
    have e2 := symV_long (row := [x]) (n := S.length) (symOf_octets hS hx)
    rw [hl] at e1
    rw [symOf_length] at e2
    rw [← e1, e]
    exact e2)
  unfold kindV
  rw [if_pos h1, if_neg h2]

set_option maxRecDepth 1000000 in
set_option maxHeartbeats 8000000 in
theorem elimSums5 {w : World} (n : Int) (t : Nat) (v1 v2 vb : Value) (L : List (List Nat)) (R : List Nat) (bl : List Bool) (h1 : MatAt byteV w v1 L) (h2 : ListAt wordV w v2 R) (h3 : ListAt boolV w vb bl) (hL : ∀ r ∈ L, Octets r) (hR : Word R) (ht256 : t < 256) (hT : Tab w) (hG : Laid w) :
    Calls Tryd.prog 6 #[.agg #[.int .i64 n, v1, v2], vb, .int .u8 (t : Int)] w fun e w' => e = .returned (.bool true) ∧ Below w.heap.size w w' := by
  have hblen := h3.len
  obtain ⟨ab, cb, rfl, hcbb, -, hbcell⟩ := h3
  have HBC := Lib.hid hbcell
  have HG := Lib.hid hG
  clear hbcell hG
  obtain ⟨w0, hw0⟩ : ∃ w0, w0 = w.alloc (.cells #[.int .i64 n, v1, v2] 54) := ⟨_, rfl⟩
  have hb0 : Below w.heap.size w w0 := by rw [hw0]; exact (Below.refl _ _).alloc (Nat.le_refl _) _
  have hbx : w0.heap[w.heap.size]? = some (.cells #[.int .i64 n, v1, v2] 54 (0, 0)) := by rw [hw0]; exact heap_alloc_new w _
  have hc0 := cell_of_heap (j := 0) (u := .int .i64 n) hbx rfl
  have hc1 := cell_of_heap (j := 1) (u := v1) hbx rfl
  have hc2 := cell_of_heap (j := 2) (u := v2) hbx rfl
  have HW0 := Lib.hid hw0
  have HT := Lib.hid hT
  have HM := Lib.hid (h1.mono hb0)
  have HRR := Lib.hid (h2.mono hb0)
  have HOL := Lib.hid hL
  have HWR := Lib.hid hR
  clear hw0 hb0 hbx h1 h2 hL hR hT
  go_enter Tryd.func6, Tryd.ntmps6
  go_wp2_with fail
  rw [← HW0.out]
  refine (fit_any n v1 v2 L R HM.out HRR.out HOL.out HWR.out).mono ?_
  rintro e w1 ⟨size, u1, u2, S, Q, rfl, hs1, hs4, hp, hm, hok, hq24, hq, hsy, hrw, hb1⟩
  obtain ⟨hbox, hlw⟩ := LawW.start (size := size) HW0.out hb1 hsy hrw
  have HLW := Lib.hid hlw
  have HOK := Lib.hid hok
  have HQ := Lib.hid hq
  have hx0 := cell_of_heap (j := 0) (u := .int .i64 n) hbox rfl
  have hx1 := cell_of_heap (j := 1) (u := v1) hbox rfl
  have hx2 := cell_of_heap (j := 2) (u := v2) hbox rfl
  have hf0 := frozen_of_heap (j := 0) hbox
  have hf1 := frozen_of_heap (j := 1) hbox
  have hf2 := frozen_of_heap (j := 2) hbox
  obtain ⟨⟨a1, cc1, rfl⟩, ⟨a2, cc2, rfl, ha2⟩⟩ := hlw.opens
  have HA2 := Lib.hid ha2
  clear hbox hlw hok hq hsy hrw hb1 ha2 hc0 hc1 hc2
  go_wp2_with fail
  generalize ((w1.setCell ⟨w.heap.size, 0, none⟩ (.int .i64 (size : Int))).setCell ⟨w.heap.size, 1, none⟩ (.slice a1 S.length cc1)).setCell ⟨w.heap.size, 2, none⟩ (.slice a2 Q.length cc2) = wS at *
  clear hx0 hx1 hx2 hf0 hf1 hf2
  have hltS := HLW.out.lt
  refine (sysNew S.length size hp (by omega) hs1 (by omega)).mono ?_
  rintro e w2 ⟨b, kb, rfl, hsys, hb, hkb, hb2⟩
  have HLW2 := Lib.hid (HLW.out.mono hb2)
  have HSYS := Lib.hid hsys
  have hbX : w.heap.size < b := by omega
  have hkX : w.heap.size < kb := by omega
  clear hsys hb2 hb hkb hltS HLW
  go_wp2_with fail
  go_loopw [9, 10] (fun sv i wr => ∃ k : Nat, k ≤ Q.length ∧ i = .int .i64 k ∧ (∃ sm : Nat, sv = .int .u64 (sm : Int) ∧ sm < 2 ^ S.length ∧ Sp (vecs (rowsQ (Q.take k))) (bitW [sm])) ∧ LawW w wr size (.slice a1 S.length cc1) (.slice a2 Q.length cc2) S Q ∧ Sys wr b S.length size (kQ S size (Q.take k)) (rkQ (Q.take k)) false kb) (fun _ i _ => Q.length - (intOf i).toNat)
  case atStart => exact ⟨0, Nat.zero_le _, rfl, ⟨0, rfl, Nat.pow_pos (by decide), by rw [show bitW [0] = vzero from zero_of_words (fun j hj => by have : j = 0 := (by simpa using hj); subst this; rfl)]; exact Sp.zero _⟩, HLW2.out, by rw [List.take_zero, rkQ_nil]; exact HSYS.out⟩
  case round =>
    clear HLW2 HSYS
    obtain ⟨k, hk, rfl, ⟨sm, rfl, hsm, hsp⟩, hlw, hsys⟩ := hrel
    have HSM := Lib.hid hsm
    have HSP := Lib.hid hsp
    have h2p : 2 ^ S.length ≤ 18446744073709551616 := by
      have := Nat.pow_le_pow_right (n := 2) (by decide) (show S.length ≤ 64 by omega)
      simpa using this
    have hsm64 : sm < 18446744073709551616 := by omega
    have H2P := Lib.hid h2p
    clear hsm hsp h2p
    by_cases hlt : k < Q.length
    · obtain ⟨g, rfl⟩ := HA2.out (by omega)
      obtain ⟨hx0, hx1, hx2⟩ := hlw.cells
      have hTk := takeQ hlt
      have hqx : Q.getD k 0 < 2 ^ S.length := HQ.out _ (by rw [List.getD_eq_getElem?_getD, List.getElem?_eq_getElem hlt]; exact List.getElem_mem hlt)
      obtain ⟨x, hxq⟩ : ∃ x, x = Q.getD k 0 := ⟨_, rfl⟩
      rw [← hxq] at hqx hTk
      have HXQ := Lib.hid hxq
      have HTK := Lib.hid hTk
      have HQX := Lib.hid hqx
      have HQT : Hid (∀ q ∈ Q.take k, q < 2 ^ S.length) := Lib.hid fun q hq => HQ.out q (List.mem_of_mem_take hq)
      have hx64 : x < 18446744073709551616 := by have := H2P.out; omega
      have hxr := bits_xor_u64_nat sm x hsm64 hx64
      have HSX : Hid (sm ^^^ x < 2 ^ S.length) := Lib.hid (Nat.xor_lt_two_pow HSM.out hqx)
      have HS0 : Hid (Sp (vecs (rowsQ (Q.take k ++ [x]))) (bitW [sm])) := Lib.hid (by rw [vecs_rowsQ_snoc]; exact HSP.out.sub fun r hr => List.mem_append.2 (.inl hr))
      have HS1 : Hid (Sp (vecs (rowsQ (Q.take k ++ [x]))) (bitW [sm ^^^ x])) := Lib.hid (by rw [bitW_xor_one]; exact HS0.out.add (by rw [vecs_rowsQ_snoc]; exact .mem (by simp)))
      have HLW := Lib.hid hlw
      have HSA := Lib.hid hsys
      have hltb := hlw.lt
      clear hlw hsys hTk hqx hxq
      generalize sm ^^^ x = sx at *
      go_wp2_with fail
      clear hx0 hx1 hx2
      have HBDA : Hid (Below wr.heap.size wr wr.drew) := Lib.hid (Below.refl _ _).drew
      have HBEA : Hid (Below wr.heap.size wr (wr.alloc (.cells #[.int .u64 (x : Int)] 47)).drew) := Lib.hid ((Below.refl _ _).alloc (Nat.le_refl _) _).drew
      have HLEA : Hid (ListAt wordV (wr.alloc (.cells #[.int .u64 (x : Int)] 47)).drew (.slice (some ⟨wr.heap.size, 0, none⟩) 1 1) [x]) := Lib.hid ((lit_words wr [x] 1 rfl (by decide)).mono (Below.refl _ _).drew)
      have HSATA : Hid (∀ W, LawW w W size (.slice a1 S.length cc1) (.slice (some ⟨g, 0, none⟩) Q.length cc2) S Q → W.cell? ⟨w.heap.size, 0, none⟩ = some (.int .i64 (size : Int)) ∧ W.cell? ⟨w.heap.size, 1, none⟩ = some (.slice a1 S.length cc1) ∧ W.cell? ⟨w.heap.size, 2, none⟩ = some (.slice (some ⟨g, 0, none⟩) Q.length cc2) ∧ W.cell? ⟨g, k, none⟩ = some (.int .u64 (x : Int))) := Lib.hid fun W h => ⟨h.cells.1, h.cells.2.1, h.cells.2.2, by have := h.row hlt; rw [← HXQ.out] at this; exact this⟩
      have HSDA : Hid (wr.drew.cell? ⟨w.heap.size, 0, none⟩ = some (.int .i64 (size : Int)) ∧ wr.drew.cell? ⟨w.heap.size, 1, none⟩ = some (.slice a1 S.length cc1) ∧ wr.drew.cell? ⟨w.heap.size, 2, none⟩ = some (.slice (some ⟨g, 0, none⟩) Q.length cc2) ∧ wr.drew.cell? ⟨g, k, none⟩ = some (.int .u64 (x : Int))) := Lib.hid (HSATA.out _ (HLW.out.mono HBDA.out))
      go_region_held3 (fun w' => w'.cell? ⟨w.heap.size, 0, none⟩ = some (.int .i64 (size : Int)) ∧ w'.cell? ⟨w.heap.size, 1, none⟩ = some (.slice a1 S.length cc1) ∧ w'.cell? ⟨w.heap.size, 2, none⟩ = some (.slice (some ⟨g, 0, none⟩) Q.length cc2) ∧ w'.cell? ⟨g, k, none⟩ = some (.int .u64 (x : Int)))
        (first | exact HSDA.out | exact HSATA.out _ (HLW.out.mono HBEA.out) | exact HSATA.out _ HLWCA.out | exact HSATA.out _ HLWBA.out | exact HSATA.out _ HLWEA.out | go_keep)
        (first
        | (go_at_call 21; (with_reducible refine (law_sym HLW.out HOK.out hm hs4 HQX.out HBEA.out).mono ?_); rintro e wBA ⟨vB, rfl, hoB, hbB, hbB2⟩; have HLLA := Lib.hid (HLEA.out.mono hbB2); have HOBA := Lib.hid hoB; have HBBA := Lib.hid hbB; have HLWBA := Lib.hid (HLW.out.mono hbB); obtain ⟨ab, cb, rfl, -, -⟩ := own_open hoB; clear hoB hbB hbB2)
        | (go_at_call 21; (with_reducible refine (law_sym HLW.out HOK.out hm hs4 HQX.out HBDA.out).mono ?_); rintro e wBA ⟨vB, rfl, hoB, hbB, hbB2⟩; have HBBA := Lib.hid (hbB.alloc hbB.size (.cells #[.int .u64 (x : Int)] 47)); have HLWBA := Lib.hid (HLW.out.mono hbB); have HLWEA := Lib.hid (HLW.out.mono HBBA.out); have HLLA : Hid (ListAt wordV (wBA.alloc (.cells #[.int .u64 (x : Int)] 47)) (.slice (some ⟨wBA.heap.size, 0, none⟩) 1 1) [x]) := Lib.hid (lit_words wBA [x] 1 rfl (by decide)); have HOBA := Lib.hid (hoB.alloc (.cells #[.int .u64 (x : Int)] 47)); obtain ⟨ab, cb, rfl, -, -⟩ := own_open hoB; clear hoB hbB hbB2)
        | (go_at_call 16; (with_reducible refine (law_eq HLW.out HOK.out hm hp HSA.out HT.out HQT.out HQX.out hbX hkX HBBA.out _ _ HLLA.out (ListAt.of_owns HOBA.out)).mono ?_); rintro e wCA ⟨kkA, rfl, hkkA, -, hsP, htC, hsC, hlC⟩; have HSYCA := Lib.hid hsC; have HLWCA := Lib.hid hlC; have HSPA := Lib.hid hsP; have HTCA := Lib.hid htC; clear hsP htC hsC hlC))
      all_goals
        clear HBDA HBEA HLEA HLW HSA HOBA HBBA HLLA HSDA
        obtain ⟨hz0, hz1, hz2, hz3⟩ := HSATA.out _ HLWCA.out
        clear HSATA
        by_cases hkb1 : k < bl.length
        · obtain ⟨bb, boff, rfl, hbc⟩ := HBC.out (by omega)
          have hbx0 := hbc k hkb1
          have hbx1 := (HLWCA.out.bel.cell (p := ⟨bb, boff + k, none⟩) (World.block_lt_of_cell? w _ hbx0)).trans hbx0
          have hbx : wCA.cell? ⟨bb, boff + k, none⟩ = some (.bool bl[k]) := hbx1
          clear hbc hbx0 hbx1
          generalize bl[k] = bt at *
          cases bt with
          | true =>
            go_wp2
            go_roundw
            case rel => exact ⟨k + 1, by omega, by go_num, ⟨sx, rfl, HSX.out, by rw [HTK.out]; exact HS1.out⟩, HLWCA.out, by rw [HTK.out]; exact HSYCA.out⟩
            case measure => simp [intOf]; omega
          | false =>
            go_wp2
            go_roundw
            case rel => exact ⟨k + 1, by omega, by go_num, ⟨sm, rfl, HSM.out, by rw [HTK.out]; exact HS0.out⟩, HLWCA.out, by rw [HTK.out]; exact HSYCA.out⟩
            case measure => simp [intOf]; omega
        · go_wp2
          go_roundw
          case rel => exact ⟨k + 1, by omega, by go_num, ⟨sm, rfl, HSM.out, by rw [HTK.out]; exact HS0.out⟩, HLWCA.out, by rw [HTK.out]; exact HSYCA.out⟩
          case measure => simp [intOf]; omega
    · have hkn : k = Q.length := by omega
      subst hkn
      rw [List.take_length] at hsys HSP
      have HLW := Lib.hid hlw
      have HSA := Lib.hid hsys
      have hlt0 := hlw.lt
      have HRA := Lib.hid hsys.cells.2.2.2.1
      have HRIN : Hid (rkQ (Q ++ [sm]) = rkQ Q) := Lib.hid (rkQ_in HSP.out)
      have HTWO : Hid (kindV S.length (kQ S size Q) (lqV S size sm) = 2) := Lib.hid (kQ_two HOK.out hm HQ.out HSM.out HSP.out)
      have HQS : Hid (∀ q ∈ Q ++ [sm], q < 2 ^ S.length) := Lib.hid fun q hq => by
        rcases List.mem_append.1 hq with h | h
        · exact HQ.out q h
        · rw [List.mem_singleton.1 h]; exact HSM.out
      have hbe : Below wr.heap.size wr (wr.alloc (.cells #[.int .u64 (sm : Int)] 47)) := (Below.refl _ _).alloc (Nat.le_refl _) _
      have HBE := Lib.hid hbe
      obtain ⟨hy0, hy1, hy2⟩ := (hlw.mono hbe).cells
      have hz2 := hlw.cells.2.2
      have HL1 : Hid (ListAt wordV (wr.alloc (.cells #[.int .u64 (sm : Int)] 47)) (.slice (some ⟨wr.heap.size, 0, none⟩) 1 1) [sm]) := Lib.hid (lit_words wr [sm] 1 rfl (by decide))
      clear hlw hsys hlt hbe
      go_wp2_with fail
      refine (Rank_any b (rkQ Q) HRA.out).mono ?_
      rintro e w4 ⟨rfl, rfl⟩
      go_wp2_with fail
      refine (law_sym HLW.out HOK.out hm hs4 HSM.out HBE.out).mono ?_
      rintro e w5 ⟨v5, rfl, ho5, hb5, hb5'⟩
      have HL2 := Lib.hid (HL1.out.mono hb5')
      have HO5 := Lib.hid ho5
      have HB5 := Lib.hid hb5
      obtain ⟨a5, c5, rfl, -, -⟩ := own_open ho5
      clear ho5 hb5 hb5' HL1
      go_wp2_with fail
      refine (law_eq HLW.out HOK.out hm hp HSA.out HT.out HQ.out HSM.out hbX hkX HB5.out _ _ HL2.out (ListAt.of_owns HO5.out)).mono ?_
      rintro e w6 ⟨kk, rfl, -, hkk, -, -, hs6, hl6⟩
      rw [HTWO.out] at hkk
      subst hkk
      rw [HRIN.out] at hs6
      have HS6 := Lib.hid hs6
      have HL6 := Lib.hid hl6
      have HR6 := Lib.hid hs6.cells.2.2.2.1
      have hlt6 := hl6.lt
      clear hs6 hl6 HSA HLW HRA HBE HO5 HB5 HL2 hy0 hy1 hy2 HTWO HRIN
      go_wp2_with fail
      refine (Rank_any b (rkQ Q) HR6.out).mono ?_
      rintro e w7 ⟨rfl, rfl⟩
      by_cases ht0 : t = 0
      · subst ht0
        have HBW := Lib.hid HL6.out.bel
        go_wp2_with fail
        refine (awake5 (HT.out.mono HBW.out)).mono ?_
        rintro e wZ ⟨rfl, hbZ⟩
        have HBZ := Lib.hid (HBW.out.trans (hbZ.mono HBW.out.size))
        clear hbZ
        go_wp2
        go_ret
        exact ⟨rfl, HBZ.out⟩
      · have htz : ((t : Int) == 0) = false := by simp; omega
        obtain ⟨hy0, hy1, hy2⟩ := HL6.out.cells
        go_wp2_with fail
        refine (law_sym HL6.out HOK.out hm hs4 HSM.out (Below.refl _ _)).mono ?_
        rintro e w8 ⟨v8, rfl, ho8, hb8, hb8'⟩
        obtain ⟨g8, c8, rfl⟩ := own_nonnil ho8 (by omega)
        have HB8 := Lib.hid hb8
        have HO8 := Lib.hid ho8
        have hg8 := (ho8.lt g8 rfl).1
        have hslen : (symOf S size sm).length = size := symOf_length sm
        have hoct := symOf_octets HOK.out HSM.out
        have hb0 : w8.cell? ⟨g8, 0, none⟩ = some (.int .u8 (((symOf S size sm).getD 0 0 : Nat) : Int)) := by
          rw [ho8.cellAt 0 (by omega)]
          have : 0 < (symOf S size sm).length := by omega
          simp [byteV, this]
        have hfr0 : w8.frozen? ⟨g8, 0, none⟩ = false := ho8.frozenAt 0
        have hlt0' := hoct.getD 0
        have hxo := bits_xor_u8_nat ((symOf S size sm).getD 0 0) t hlt0' ht256
        have hbl : (symOf S size sm).getD 0 0 ^^^ t < 256 := Nat.xor_lt_two_pow (n := 8) hlt0' ht256
        have HBAD : Hid (∀ z, (symOf S size sm).getD 0 0 ^^^ t = z → Octets ((symOf S size sm).set 0 z) ∧ ((symOf S size sm).set 0 z).length = size ∧ (symOf S size sm).set 0 z ≠ symOf S size sm) := Lib.hid fun z hz => by
          refine ⟨hoct.set 0 z (by omega), by rw [List.length_set]; exact hslen, fun e => ?_⟩
          have e1 : ((symOf S size sm).set 0 z).getD 0 0 = (symOf S size sm).getD 0 0 := by rw [e]
          rw [getD_set _ _ _ _ _ (by omega), if_pos rfl] at e1
          have e2 : (symOf S size sm).getD 0 0 ^^^ ((symOf S size sm).getD 0 0 ^^^ t) = (symOf S size sm).getD 0 0 ^^^ (symOf S size sm).getD 0 0 := by rw [hz, e1]
          rw [← Nat.xor_assoc, Nat.xor_self, Nat.zero_xor] at e2
          exact ht0 e2
        clear ho8 hb8 hb8' hoct hslen hlt0' hbl
        obtain ⟨zz, hzz⟩ : ∃ zz, zz = (symOf S size sm).getD 0 0 ^^^ t := ⟨_, rfl⟩
        rw [← hzz] at hxo
        obtain ⟨ho, hl, hne⟩ := HBAD.out zz hzz.symm
        have HOC := Lib.hid ho
        have HLN := Lib.hid hl
        have HNE := Lib.hid hne
        clear HBAD hzz ho hl hne
        generalize hb0v : (symOf S size sm).getD 0 0 = b0 at *
        clear hb0v
        have HB9 : Hid (Below w6.heap.size w6 (w8.setCell ⟨g8, 0, none⟩ (.int .u8 (zz : Int)))) := Lib.hid (HB8.out.setCell (p := ⟨g8, 0, none⟩) hg8 _)
        have HO9 : Hid ((w8.setCell ⟨g8, 0, none⟩ (.int .u8 (zz : Int))).ownsRow w6.heap.size 5 1 (.slice (some ⟨g8, 0, none⟩) size c8) size (((symOf S size sm).set 0 zz).map byteV)) := Lib.hid (by rw [List.map_set]; exact (HO8.out.stored 0 (.int .u8 (zz : Int))).1)
        have HL9 := Lib.hid (HL6.out.mono HB9.out)
        have HS9 := Lib.hid (HS6.out.mono HB9.out)
        obtain ⟨w9, hw9⟩ : ∃ w9, w9 = w8.setCell ⟨g8, 0, none⟩ (.int .u8 (zz : Int)) := ⟨_, rfl⟩
        rw [← hw9] at HO9 HL9 HS9 HB9
        have HW9 := Lib.hid hw9
        clear hw9 hg8
        go_wp2_with fail
        rw [← HW9.out]
        have hbA : Below w9.heap.size w9 (w9.alloc (.cells #[.int .u64 (sm : Int)] 47)) := (Below.refl _ _).alloc (Nat.le_refl _) _
        have HLA : Hid (ListAt wordV (w9.alloc (.cells #[.int .u64 (sm : Int)] 47)) (.slice (some ⟨w8.heap.size, 0, none⟩) 1 1) [sm]) := Lib.hid (by have h := lit_words w9 [sm] 1 rfl (by decide); rw [show w9.heap.size = w8.heap.size by rw [HW9.out]; exact World.size_setCell _ _ _] at h; exact h)
        have hQok : EqOk S.length size ([sm], (symOf S size sm).set 0 zz) := by
          have h := lq_ok HOK.out hm hp HSM.out
          exact ⟨h.1, h.2.1, h.2.2.1, HLN.out, HOC.out⟩
        have hk3 := kQ_three HOK.out hm HQ.out HSM.out HOC.out HLN.out HNE.out
        have HSA9 := Lib.hid (HS9.out.mono hbA)
        have HLA9 := Lib.hid (HL9.out.mono hbA)
        with_reducible refine (sysAdd b S.length size _ _ kb _ _ [sm] ((symOf S size sm).set 0 zz) HSA9.out (HT.out.mono HLA9.out.bel) HLA.out ((ListAt.of_owns HO9.out).mono hbA) hQok).mono ?_
        rw [hk3, addV_three hk3, addR_three hk3]
        rintro e w10 ⟨rfl, ht10, hs10⟩
        have HL10 := Lib.hid (HLA9.out.touch HSA9.out ht10 hbX hkX)
        have HS10 := Lib.hid hs10
        have hbB : Below w10.heap.size w10 (w10.alloc (.cells #[.int .u64 (sm : Int)] 47)) := (Below.refl _ _).alloc (Nat.le_refl _) _
        have HBB := Lib.hid hbB
        obtain ⟨hy0, hy1, hy2⟩ := (HL10.out.mono hbB).cells
        have hlt10 := HL10.out.lt
        clear ht10 hs10 hbA hbB hk3 hQok HLA HSA9 HLA9 HS9 HL9 HO9 HB9 HO8 HB8 HW9
        go_wp2_with fail
        refine (law_sym HL10.out HOK.out hm hs4 HSM.out HBB.out).mono ?_
        rintro e w11 ⟨v11, rfl, ho11, hb11, -⟩
        have HB11 := Lib.hid hb11
        obtain ⟨a11, c11, rfl, -, -⟩ := own_open ho11
        clear ho11 hb11
        go_wp2_with fail
        refine (elAdd_over b _ _ (HS10.out.mono HB11.out).cells.2.2.2.2).mono ?_
        rintro e w12 ⟨E12, rfl, he12, hb12⟩
        have HE12 := Lib.hid he12
        have HB12 := Lib.hid (HB11.out.trans (hb12.mono HB11.out.size))
        obtain ⟨u12, x12, rfl⟩ := he12.some (by decide)
        clear he12 hb12
        go_wp2_with fail
        refine (elVal_over b _ (HS10.out.mono HB12.out).cells.2.2.2.2).mono ?_
        rintro e w13 ⟨E13, rfl, he13, hb13⟩
        have HE12 := Lib.hid (HE12.out.mono hb13)
        have HE13 := Lib.hid he13
        have HB13 := Lib.hid (HB12.out.trans (hb13.mono HB12.out.size))
        obtain ⟨u13, x13, rfl⟩ := he13.some (by decide)
        clear he13 hb13
        go_wp2_with fail
        refine (elAll_over b (HS10.out.mono HB13.out).cells.2.2.2.2).mono ?_
        rintro e w14 ⟨E14, rfl, he14, hb14⟩
        have HE12 := Lib.hid (HE12.out.mono hb14)
        have HE13 := Lib.hid (HE13.out.mono hb14)
        have HE14 := Lib.hid he14
        have HB14 := Lib.hid (HB13.out.trans (hb14.mono HB13.out.size))
        obtain ⟨u14, x14, rfl⟩ := he14.some (by decide)
        clear he14 hb14
        have HC14 := Lib.hid (HS10.out.mono HB14.out).cells
        have hrr : ((rkQ Q : Int) == (rkQ Q : Int)) = true := by simp
        go_wp2_with fail
        refine (Clashed_any b true HC14.out.2.2.2.2).mono ?_
        rintro e wc ⟨rfl, rfl⟩
        go_wp2_with fail
        refine (elWhole_any b S.length (rkQ Q) true HC14.out.1 HC14.out.2.2.2.1 HC14.out.2.2.2.2).mono ?_
        rintro e w15 ⟨rfl, hb15⟩
        have HE12 := Lib.hid (HE12.out.mono hb15)
        have HE13 := Lib.hid (HE13.out.mono hb15)
        have HE14 := Lib.hid (HE14.out.mono hb15)
        have HB15 := Lib.hid (HB14.out.trans (hb15.mono HB14.out.size))
        clear hb15
        simp only [Bool.not_true, Bool.false_and]
        go_wp2_with fail
        refine (Rank_any b (rkQ Q) (HS10.out.mono HB15.out).cells.2.2.2.1).mono ?_
        rintro e wc ⟨rfl, rfl⟩
        go_wp2_with fail
        refine (tells_ans 7 nameElAdd _ HE12.out (HG.out.mono (HL10.out.mono HB15.out).bel)).mono ?_
        rintro e w16 ⟨rfl, hb16⟩
        have HE13 := Lib.hid (HE13.out.mono hb16)
        have HE14 := Lib.hid (HE14.out.mono hb16)
        have HB16 := Lib.hid (HB15.out.trans (hb16.mono HB15.out.size))
        clear hb16
        go_wp2_with fail
        refine (tells_ans 7 nameElValue _ HE13.out (HG.out.mono (HL10.out.mono HB16.out).bel)).mono ?_
        rintro e w17 ⟨rfl, hb17⟩
        have HE14 := Lib.hid (HE14.out.mono hb17)
        have HB17 := Lib.hid (HB16.out.trans (hb17.mono HB16.out.size))
        clear hb17
        go_wp2_with fail
        refine (tells_ans 7 nameElAll _ HE14.out (HG.out.mono (HL10.out.mono HB17.out).bel)).mono ?_
        rintro e w18 ⟨rfl, hb18⟩
        have HB18 := Lib.hid (HB17.out.trans (hb18.mono HB17.out.size))
        have HBW := Lib.hid (HL10.out.mono HB18.out).bel
        clear hb18
        go_wp2_with fail
        refine (awake5 (HT.out.mono HBW.out)).mono ?_
        rintro e wZ ⟨rfl, hbZ⟩
        have HBZ := Lib.hid (HBW.out.trans (hbZ.mono HBW.out.size))
        clear hbZ
        go_wp2
        go_ret
        exact ⟨rfl, HBZ.out⟩
end Go.Proofs.YtoahjjeaaekkpaaDoor
