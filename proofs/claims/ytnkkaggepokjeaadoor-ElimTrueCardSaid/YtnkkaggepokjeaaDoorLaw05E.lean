/- ElimTrue: the walk. -/
import Derived.Test.YtnkkaggepokjeaaDoorLaw05O
import Derived.Test.YtnkkaggepokjeaaDoorJoinC
import Derived.Deep.RegionHeld3
namespace Go.Proofs.YtnkkaggepokjeaaDoor
open Go.RowKit Go.Extern.Stop Go.Stop Go.Extern

set_option maxRecDepth 1000000 in
set_option maxHeartbeats 8000000 in
theorem elimTrue5 {w : World} (n : Int) (v1 v2 : Value) (L : List (List Nat)) (R : List Nat) (h1 : MatAt byteV w v1 L) (h2 : ListAt wordV w v2 R) (hL : ∀ r ∈ L, Octets r) (hR : Word R) (hT : Tab w) :
    Calls Tryd.prog 4 #[.agg #[.int .i64 n, v1, v2]] w fun e w' => e = .returned (.bool true) ∧ Below w.heap.size w w' := by
  obtain ⟨w0, hw0⟩ : ∃ w0, w0 = w.alloc (.cells #[.int .i64 n, v1, v2] 54) := ⟨_, rfl⟩
  have hb0 : Below w.heap.size w w0 := by rw [hw0]; exact (Below.refl _ _).alloc (Nat.le_refl _) _
  have hbx : w0.heap[w.heap.size]? = some (.cells #[.int .i64 n, v1, v2] 54 (0, 0)) := by rw [hw0]; exact heap_alloc_new w _
  have hc0 := cell_of_heap (j := 0) (u := .int .i64 n) hbx rfl
  have hc1 := cell_of_heap (j := 1) (u := v1) hbx rfl
  have hc2 := cell_of_heap (j := 2) (u := v2) hbx rfl
  have HW0 := Lib.hid hw0
  have HT := Lib.hid hT
  have HM := Lib.hid (h1.mono hb0)
  have HRR := Lib.hid (h2.mono hb0)
  have HOL := Lib.hid hL
  have HWR := Lib.hid hR
  clear hw0 hb0 hbx h1 h2 hL hR hT
  go_enter Tryd.func4, Tryd.ntmps4
  go_wp2_with fail
  rw [← HW0.out]
  refine (fit_any n v1 v2 L R HM.out HRR.out HOL.out HWR.out).mono ?_
  rintro e w1 ⟨size, u1, u2, S, Q, rfl, hs1, hs4, hp, hm, hok, hq24, hq, hsy, hrw, hb1⟩
  obtain ⟨hbox, hlw⟩ := LawW.start (size := size) HW0.out hb1 hsy hrw
  have HLW := Lib.hid hlw
  have HOK := Lib.hid hok
  have HQ := Lib.hid hq
  have hx0 := cell_of_heap (j := 0) (u := .int .i64 n) hbox rfl
  have hx1 := cell_of_heap (j := 1) (u := v1) hbox rfl
  have hx2 := cell_of_heap (j := 2) (u := v2) hbox rfl
  have hf0 := frozen_of_heap (j := 0) hbox
  have hf1 := frozen_of_heap (j := 1) hbox
  have hf2 := frozen_of_heap (j := 2) hbox
  obtain ⟨⟨a1, cc1, rfl⟩, ⟨a2, cc2, rfl, ha2⟩⟩ := hlw.opens
  have HA2 := Lib.hid ha2
  clear hbox hlw hok hq hsy hrw hb1 ha2 hc0 hc1 hc2
  go_wp2_with fail
  generalize ((w1.setCell ⟨w.heap.size, 0, none⟩ (.int .i64 (size : Int))).setCell ⟨w.heap.size, 1, none⟩ (.slice a1 S.length cc1)).setCell ⟨w.heap.size, 2, none⟩ (.slice a2 Q.length cc2) = wS at *
  clear hx0 hx1 hx2 hf0 hf1 hf2
  have hltS := HLW.out.lt
  refine (sysNew S.length size hp (by omega) hs1 (by omega)).mono ?_
  rintro e w2 ⟨b, kb, rfl, hsys, hb, hkb, hb2⟩
  have HLW2 := Lib.hid (HLW.out.mono hb2)
  have HSYS := Lib.hid hsys
  have hbX : w.heap.size < b := by omega
  have hkX : w.heap.size < kb := by omega
  clear hsys hb2 hb hkb hltS HLW
  go_wp2_with fail

  go_loopw [5] (fun i wr => ∃ k : Nat, k ≤ Q.length ∧ i = .int .i64 k ∧ LawW w wr size (.slice a1 S.length cc1) (.slice a2 Q.length cc2) S Q ∧ Sys wr b S.length size (kQ S size (Q.take k)) (rkQ (Q.take k)) false kb) (fun i _ => Q.length - (intOf i).toNat)
  case atStart => exact ⟨0, Nat.zero_le _, rfl, HLW2.out, by rw [List.take_zero, rkQ_nil]; exact HSYS.out⟩
  case round =>
    clear HLW2 HSYS
    obtain ⟨k, hk, rfl, hlw, hsys⟩ := hrel
    by_cases hlt : k < Q.length
    · obtain ⟨g, rfl⟩ := HA2.out (by omega)
      obtain ⟨hx0, hx1, hx2⟩ := hlw.cells
      have hTk := takeQ hlt
      have hqx : Q.getD k 0 < 2 ^ S.length := HQ.out _ (by rw [List.getD_eq_getElem?_getD, List.getElem?_eq_getElem hlt]; exact List.getElem_mem hlt)
      obtain ⟨x, hxq⟩ : ∃ x, x = Q.getD k 0 := ⟨_, rfl⟩
      rw [← hxq] at hqx hTk
      have HXQ := Lib.hid hxq
      have HTK := Lib.hid hTk
      have HQX := Lib.hid hqx
      have HQT : Hid (∀ q ∈ Q.take k, q < 2 ^ S.length) := Lib.hid fun q hq => HQ.out q (List.mem_of_mem_take hq)
      have HLW := Lib.hid hlw
      have HSA := Lib.hid hsys
      have hltb := hlw.lt
      clear hlw hsys hTk hqx hxq
      go_wp2_with fail
      clear hx0 hx1 hx2
      have HBDA : Hid (Below wr.heap.size wr wr.drew) := Lib.hid (Below.refl _ _).drew
      have HBEA : Hid (Below wr.heap.size wr (wr.alloc (.cells #[.int .u64 (x : Int)] 47)).drew) := Lib.hid ((Below.refl _ _).alloc (Nat.le_refl _) _).drew
      have HLEA : Hid (ListAt wordV (wr.alloc (.cells #[.int .u64 (x : Int)] 47)).drew (.slice (some ⟨wr.heap.size, 0, none⟩) 1 1) [x]) := Lib.hid ((lit_words wr [x] 1 rfl (by decide)).mono (Below.refl _ _).drew)
      have HSATA : Hid (∀ W, LawW w W size (.slice a1 S.length cc1) (.slice (some ⟨g, 0, none⟩) Q.length cc2) S Q → W.cell? ⟨w.heap.size, 0, none⟩ = some (.int .i64 (size : Int)) ∧ W.cell? ⟨w.heap.size, 1, none⟩ = some (.slice a1 S.length cc1) ∧ W.cell? ⟨w.heap.size, 2, none⟩ = some (.slice (some ⟨g, 0, none⟩) Q.length cc2) ∧ W.cell? ⟨g, k, none⟩ = some (.int .u64 (x : Int))) := Lib.hid fun W h => ⟨h.cells.1, h.cells.2.1, h.cells.2.2, by have := h.row hlt; rw [← HXQ.out] at this; exact this⟩
      have HSDA : Hid (wr.drew.cell? ⟨w.heap.size, 0, none⟩ = some (.int .i64 (size : Int)) ∧ wr.drew.cell? ⟨w.heap.size, 1, none⟩ = some (.slice a1 S.length cc1) ∧ wr.drew.cell? ⟨w.heap.size, 2, none⟩ = some (.slice (some ⟨g, 0, none⟩) Q.length cc2) ∧ wr.drew.cell? ⟨g, k, none⟩ = some (.int .u64 (x : Int))) := Lib.hid (HSATA.out _ (HLW.out.mono HBDA.out))
      go_region_held3 (fun w' => w'.cell? ⟨w.heap.size, 0, none⟩ = some (.int .i64 (size : Int)) ∧ w'.cell? ⟨w.heap.size, 1, none⟩ = some (.slice a1 S.length cc1) ∧ w'.cell? ⟨w.heap.size, 2, none⟩ = some (.slice (some ⟨g, 0, none⟩) Q.length cc2) ∧ w'.cell? ⟨g, k, none⟩ = some (.int .u64 (x : Int)))
        (first | exact HSDA.out | exact HSATA.out _ (HLW.out.mono HBEA.out) | exact HSATA.out _ HLWCA.out | exact HSATA.out _ HLWBA.out | exact HSATA.out _ HLWEA.out | go_keep)
        (first
        | (go_at_call 21; (with_reducible refine (law_sym HLW.out HOK.out hm hs4 HQX.out HBEA.out).mono ?_); rintro e wBA ⟨vB, rfl, hoB, hbB, hbB2⟩; have HLLA := Lib.hid (HLEA.out.mono hbB2); have HOBA := Lib.hid hoB; have HBBA := Lib.hid hbB; have HLWBA := Lib.hid (HLW.out.mono hbB); obtain ⟨ab, cb, rfl, -, -⟩ := own_open hoB; clear hoB hbB hbB2)
        | (go_at_call 21; (with_reducible refine (law_sym HLW.out HOK.out hm hs4 HQX.out HBDA.out).mono ?_); rintro e wBA ⟨vB, rfl, hoB, hbB, hbB2⟩; have HBBA := Lib.hid (hbB.alloc hbB.size (.cells #[.int .u64 (x : Int)] 47)); have HLWBA := Lib.hid (HLW.out.mono hbB); have HLWEA := Lib.hid (HLW.out.mono HBBA.out); have HLLA : Hid (ListAt wordV (wBA.alloc (.cells #[.int .u64 (x : Int)] 47)) (.slice (some ⟨wBA.heap.size, 0, none⟩) 1 1) [x]) := Lib.hid (lit_words wBA [x] 1 rfl (by decide)); have HOBA := Lib.hid (hoB.alloc (.cells #[.int .u64 (x : Int)] 47)); obtain ⟨ab, cb, rfl, -, -⟩ := own_open hoB; clear hoB hbB hbB2)
        | (go_at_call 16; (with_reducible refine (law_eq HLW.out HOK.out hm hp HSA.out HT.out HQT.out HQX.out hbX hkX HBBA.out _ _ HLLA.out (ListAt.of_owns HOBA.out)).mono ?_); rintro e wCA ⟨kkA, rfl, hkkA, -, hsP, htC, hsC, hlC⟩; have HSYCA := Lib.hid hsC; have HLWCA := Lib.hid hlC; have HKKA := Lib.hid hkkA; clear hsP htC hsC hlC hkkA))
      all_goals
        clear HBDA HBEA HLEA HLW HSA HOBA HBBA HLLA HSDA HSATA
        obtain ⟨hzl, hzr⟩ := HLWCA.out.opens
        have HQS : Hid (∀ q ∈ Q.take k ++ [x], q < 2 ^ S.length) := Lib.hid fun q hq => by
          rcases List.mem_append.1 hq with h | h
          · exact HQT.out q h
          · rw [List.mem_singleton.1 h]; exact HQX.out
        obtain ⟨wE, hwE⟩ : ∃ wE, wE = wCA := ⟨_, rfl⟩
        subst hwE
        have HXC := Lib.hid HLWCA.out.cells.2.1
        clear hzl hzr HQT
        obtain ⟨kz, hkz⟩ : ∃ kz : Int, kz = (kkA : Int) := ⟨_, rfl⟩
        rw [← hkz]
        have hk12 : kz = 1 ∨ kz = 2 := by rcases HKKA.out with h | h <;> omega
        clear HKKA hkz
        rcases hk12 with rfl | rfl
        all_goals
          go_wp2_with fail
          go_loopw [8, 9, 10] (fun c _ _ wq => ∃ m : Nat, m ≤ S.length ∧ c = .int .i64 m ∧ Below wE.heap.size wE wq) (fun c _ _ _ => S.length - (intOf c).toNat)
          case atStart => exact ⟨0, Nat.zero_le _, rfl, Below.refl _ _⟩
          case round =>
            obtain ⟨m, hm0, rfl, hbel⟩ := hrel
            have HLM := Lib.hid (HLWCA.out.mono hbel)
            have hx1 := HLM.out.cells.2.1
            have HBL := Lib.hid hbel
            have hsE := hbel.size
            clear hbel
            by_cases hlm : m < S.length
            · go_wp2_with fail
              refine (sysVal b S.length size _ _ kb m (HSYCA.out.mono HBL.out) (HT.out.mono HLM.out.bel) hlm).mono ?_
              rintro e w4 ⟨hb4, ⟨hno, E1, rfl, he1⟩ | ⟨xv, vv, hval, rfl, ho4⟩⟩
              · have HB4 := Lib.hid (HBL.out.trans (hb4.mono hsE))
                obtain ⟨u4, x4, rfl⟩ := he1.some (by decide)
                clear hb4 he1 hno
                go_wp2_with fail
                go_quiet (fail)
                go_wp2
                go_roundw
                case rel => exact ⟨m + 1, by omega, by go_num, below_draws HB4.out _⟩
                case measure => simp [intOf]; omega
              · have HB4 := Lib.hid (HBL.out.trans (hb4.mono hsE))
                have HL4 := Lib.hid (HLM.out.mono hb4)
                have hst1 : ∀ nd, (convert 39 9 vv).run Tryd.prog (w4.drewN nd) = .ok (.string (strN (symV S.length size xv))) (w4.drewN nd) := fun nd => ((ListAt.of_owns (f := byteV) ho4).mono (below_drawn nd)).str
                rw [kQ_val HOK.out hm HQS.out hlm hval] at hst1
                obtain ⟨a4, c4, rfl, -, -⟩ := own_open ho4
                clear hb4 hval ho4
                have hx4 := HL4.out.cells.2.1
                obtain ⟨ag, cg, es, -, -, hop⟩ := HL4.out.syms.at.opens
                simp only [Value.slice.injEq] at es
                obtain ⟨rfl, -, rfl⟩ := es
                obtain ⟨bs, os, rfl, hsc⟩ := hop (by omega)
                obtain ⟨xs, hxs, hls⟩ := hsc m hlm
                obtain ⟨sm, hsm⟩ : ∃ sm, sm = S.getD m [] := ⟨_, rfl⟩
                rw [← hsm] at hls hst1
                clear hsm
                have hst2 : ∀ nd, (convert 39 9 xs).run Tryd.prog (w4.drewN nd) = .ok (.string (strN sm)) (w4.drewN nd) := fun nd => (hls.mono (below_drawn nd)).str
                obtain ⟨a5, c5, rfl, -, -⟩ := hls
                clear hsc hop
                generalize strN sm = str at *
                generalize sm.length = sl at *
                go_wp2_with fail
                go_quiet (fail)
                go_wp2
                go_roundw
                case rel => exact ⟨m + 1, by omega, by go_num, below_draws HB4.out _⟩
                case measure => simp [intOf]; omega
            · go_wp2
              go_roundw
              case rel => exact ⟨k + 1, by omega, by go_num, HLM.out, by rw [HTK.out]; exact HSYCA.out.mono HBL.out⟩
              case measure => simp [intOf]; omega
    · have hkn : k = Q.length := by omega
      subst hkn
      have HLWE := Lib.hid hlw
      have hsE : Sys wr b S.length size (kQ S size Q) (rkQ Q) false kb := by rw [List.take_length] at hsys; exact hsys
      have HSE := Lib.hid hsE
      have HC := Lib.hid hsE.cells
      clear hlw hsys hlt hsE
      have hx2 := HLWE.out.cells.2.2
      by_cases hfull : rkQ Q = S.length
      · have HSE2 : Hid (Sys wr b S.length size (kQ S size Q) S.length false kb) := Lib.hid (by have := HSE.out; rw [hfull] at this; exact this)
        clear HSE hfull HC
        go_wp2_with fail
        clear hx2
        refine (sysAll_some b S.length size _ kb HSE2.out).mono ?_
        rintro e w2 ⟨v', V, rfl, hv, hvl, hvv, hb2⟩
        have hVS : V = S := by
          apply List.ext_getElem (by omega)
          intro c h1 h2
          obtain ⟨x, hx, he⟩ := hvv c h2
          rw [kQ_val HOK.out hm HQ.out h2 hx] at he
          simpa [List.getD_eq_getElem?_getD, h1, h2] using he
        subst hVS
        have HLW2 := Lib.hid (HLWE.out.mono hb2)
        have HSY2 := Lib.hid (HSE2.out.mono hb2)
        have HV := Lib.hid hv
        obtain ⟨av, cv, rfl, -, -, -⟩ := hv.opens
        clear hv hvv hb2 hvl HSE2 HLWE
        have HBD : Hid (Below w2.heap.size w2 w2.drew) := Lib.hid (Below.refl _ _).drew
        have HSAT : Hid (∀ W, Below w2.heap.size w2 W → W.cell? ⟨w.heap.size, 1, none⟩ = some (.slice a1 V.length cc1)) := Lib.hid fun W hW => (HLW2.out.mono hW).cells.2.1
        have HWH : Hid (∀ W, Below w2.heap.size w2 W → Calls Tryd.prog 24 #[sysP b] W fun e w' => e = .returned (.bool true) ∧ Below W.heap.size W w') := Lib.hid fun W hW => by
          obtain ⟨c0, -, -, c3, c4⟩ := (HSY2.out.mono hW).cells
          refine (elWhole_any b V.length V.length false c0 c3 c4).mono ?_
          rintro e w' ⟨rfl, hb⟩
          exact ⟨by simp, hb⟩
        have HCL : Hid (∀ W, Below w2.heap.size w2 W → Calls Tryd.prog 26 #[sysP b] W fun e w' => e = .returned (.bool false) ∧ W = w') := Lib.hid fun W hW => Clashed_any b false (HSY2.out.mono hW).cells.2.2.2.2
        have HSM : Hid (∀ W, Below w2.heap.size w2 W → Calls Tryd.prog 25 #[.slice av V.length cv, .slice a1 V.length cc1] W fun e w' => e = .returned (.bool true) ∧ Below W.heap.size W w') := Lib.hid fun W hW => sSame_any _ _ V (HV.out.mono hW) (HLW2.out.mono hW).syms.at
        have HAW : Hid (∀ W, Below w2.heap.size w2 W → Calls Tryd.prog 10 #[] W fun e w' => e = .returned (.bool true) ∧ Below W.heap.size W w') := Lib.hid fun W hW => awake5 (HT.out.mono (HLW2.out.mono hW).bel)
        have HBW := Lib.hid HLW2.out.bel
        have HSD := Lib.hid (HSAT.out _ HBD.out)
        clear HSY2 HLW2 HV
        go_wp2_with fail
        go_region_held3 (fun w' => w'.cell? ⟨w.heap.size, 1, none⟩ = some (.slice a1 V.length cc1))
          (first | exact HSD.out | exact HSAT.out _ HB5.out | exact HSAT.out _ HB4.out | exact HSAT.out _ HB3.out | go_keep)
          (first
          | (go_at_call 24; (with_reducible refine (HWH.out _ HBD.out).mono ?_); rintro e w3 ⟨rfl, hb3⟩; have HB3 := Lib.hid (HBD.out.trans (hb3.mono HBD.out.size)); clear hb3)
          | (go_at_call 25; (with_reducible refine (HSM.out _ HB3.out).mono ?_); rintro e w4 ⟨rfl, hb4⟩; have HB4 := Lib.hid (HB3.out.trans (hb4.mono HB3.out.size)); clear hb4)
          | (go_at_call 26; (with_reducible refine (HCL.out _ HB4.out).mono ?_); rintro e wC ⟨rfl, rfl⟩)
          | (go_at_call 10; (with_reducible refine (HAW.out _ HB4.out).mono ?_); rintro e w5 ⟨rfl, hb5⟩; have HB5 := Lib.hid (HB4.out.trans (hb5.mono HB4.out.size)); clear hb5))
        all_goals
          go_wp2
          go_ret
          exact ⟨rfl, HBW.out.trans (HB5.out.mono HBW.out.size)⟩
      · clear HC
        go_wp2_with fail
        clear hx2
        refine (sysAll_none b S.length size _ (rkQ Q) kb HSE.out hfull).mono ?_
        rintro e w2 ⟨E2, rfl, he2, hb2⟩
        have HLW2 := Lib.hid (HLWE.out.mono hb2)
        have HSY2 := Lib.hid (HSE.out.mono hb2)
        have HNF := Lib.hid hfull
        obtain ⟨u2, x2, rfl⟩ := he2.some (by decide)
        clear hb2 he2 hfull HSE HLWE
        have HBD : Hid (Below w2.heap.size w2 w2.drew) := Lib.hid (Below.refl _ _).drew
        have HSAT : Hid (∀ W, Below w2.heap.size w2 W → W.cell? ⟨w.heap.size, 1, none⟩ = some (.slice a1 S.length cc1)) := Lib.hid fun W hW => (HLW2.out.mono hW).cells.2.1
        have HWH : Hid (∀ W, Below w2.heap.size w2 W → Calls Tryd.prog 24 #[sysP b] W fun e w' => e = .returned (.bool false) ∧ Below W.heap.size W w') := Lib.hid fun W hW => by
          obtain ⟨c0, -, -, c3, c4⟩ := (HSY2.out.mono hW).cells
          refine (elWhole_any b S.length (rkQ Q) false c0 c3 c4).mono ?_
          rintro e w' ⟨rfl, hb⟩
          exact ⟨by rw [decide_eq_false HNF.out]; rfl, hb⟩
        have HCL : Hid (∀ W, Below w2.heap.size w2 W → Calls Tryd.prog 26 #[sysP b] W fun e w' => e = .returned (.bool false) ∧ W = w') := Lib.hid fun W hW => Clashed_any b false (HSY2.out.mono hW).cells.2.2.2.2
        have HAW : Hid (∀ W, Below w2.heap.size w2 W → Calls Tryd.prog 10 #[] W fun e w' => e = .returned (.bool true) ∧ Below W.heap.size W w') := Lib.hid fun W hW => awake5 (HT.out.mono (HLW2.out.mono hW).bel)
        have HBW := Lib.hid HLW2.out.bel
        have HSD := Lib.hid (HSAT.out _ HBD.out)
        clear HSY2 HLW2
        go_wp2_with fail
        first
        | (go_region_law (first
          | (go_simp; go_at_call 24; (with_reducible refine (HWH.out _ HBD.out).mono ?_); rintro e w3 ⟨rfl, hb3⟩; have HB3 := Lib.hid (HBD.out.trans (hb3.mono HBD.out.size)); clear hb3)
          | (go_simp; go_at_call 26; (with_reducible refine (HCL.out _ HB3.out).mono ?_); rintro e wC ⟨rfl, rfl⟩)
          | (go_simp; go_at_call 10; (with_reducible refine (HAW.out _ HB3.out).mono ?_); rintro e w5 ⟨rfl, hb5⟩; have HB5 := Lib.hid (HB3.out.trans (hb5.mono HB3.out.size)); clear hb5)))
        | fail
        all_goals
          go_wp2
          go_ret
          exact ⟨rfl, HBW.out.trans (HB5.out.mono HBW.out.size)⟩
end Go.Proofs.YtnkkaggepokjeaaDoor
