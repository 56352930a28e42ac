/- ElimOrder: the walk. -/
import Derived.Test.YtnkkaggepokjeaaDoorLaw05R
namespace Go.Proofs.YtnkkaggepokjeaaDoor
open Go.RowKit Go.Extern.Stop Go.Stop Go.Extern

/-- The rows in the other order, as many as have come. -/
def backQ (Q : List Nat) (s k : Nat) : List Nat := (List.range k).map fun t => Q.getD (Q.length - 1 - (t + s) % Q.length) 0
theorem backQ_succ (Q : List Nat) (s k : Nat) : backQ Q s (k + 1) = backQ Q s k ++ [Q.getD (Q.length - 1 - (k + s) % Q.length) 0] := by unfold backQ; rw [List.range_succ, List.map_append]; rfl
theorem backQ_mem {Q : List Nat} {s : Nat} (hs : s < Q.length) : ∀ q, q ∈ backQ Q s Q.length ↔ q ∈ Q := fun q => by
  unfold backQ
  rw [List.mem_map]
  constructor
  · rintro ⟨t, ht, rfl⟩
    have hl : Q.length - 1 - (t + s) % Q.length < Q.length := by omega
    rw [List.getD_eq_getElem?_getD, List.getElem?_eq_getElem hl]
    exact List.getElem_mem hl
  · intro h
    obtain ⟨m, hm, rfl⟩ := List.getElem_of_mem h
    have key : ∃ t, t < Q.length ∧ (t + s) % Q.length = Q.length - 1 - m := by
      by_cases e : s ≤ Q.length - 1 - m
      · exact ⟨Q.length - 1 - m - s, by omega, by rw [Nat.mod_eq_of_lt (by omega)]; omega⟩
      · refine ⟨Q.length - 1 - m + Q.length - s, by omega, ?_⟩
        rw [show Q.length - 1 - m + Q.length - s + s = Q.length - 1 - m + Q.length by omega, Nat.add_mod_right, Nat.mod_eq_of_lt (by omega)]
    obtain ⟨t, ht, e⟩ := key
    refine ⟨t, List.mem_range.2 ht, ?_⟩
    rw [e, show Q.length - 1 - (Q.length - 1 - m) = m by omega]
    simp [hm]
theorem kQ_mem {S : List (List Nat)} {size : Nat} {Q P : List Nat} (h : ∀ q, q ∈ Q ↔ q ∈ P) : SpEq (kQ S size Q) (kQ S size P) := SpEq.of_mem fun r => by
  unfold kQ
  rw [List.mem_map, List.mem_map]
  exact ⟨fun ⟨q, hq, e⟩ => ⟨q, (h q).1 hq, e⟩, fun ⟨q, hq, e⟩ => ⟨q, (h q).2 hq, e⟩⟩
theorem rkQ_mem {Q P : List Nat} (h : ∀ q, q ∈ Q ↔ q ∈ P) : rkQ Q = rkQ P := rk_congr (SpEq.of_mem fun r => by
  unfold vecs rowsQ
  rw [List.map_map, List.map_map, List.mem_map, List.mem_map]
  exact ⟨fun ⟨q, hq, e⟩ => ⟨q, (h q).1 hq, e⟩, fun ⟨q, hq, e⟩ => ⟨q, (h q).2 hq, e⟩⟩)

set_option maxRecDepth 1000000 in
set_option maxHeartbeats 8000000 in
theorem elimOrder5 {w : World} (n byI : Int) (v1 v2 : Value) (L : List (List Nat)) (R : List Nat) (h1 : MatAt byteV w v1 L) (h2 : ListAt wordV w v2 R) (hL : ∀ r ∈ L, Octets r) (hR : Word R) (hT : Tab w) :
    Calls Tryd.prog 5 #[.agg #[.int .i64 n, v1, v2], .int .i64 byI] w fun e w' => e = .returned (.bool true) ∧ Below w.heap.size w w' := by
  obtain ⟨w0, hw0⟩ : ∃ w0, w0 = w.alloc (.cells #[.int .i64 n, v1, v2] 54) := ⟨_, rfl⟩
  have hb0 : Below w.heap.size w w0 := by rw [hw0]; exact (Below.refl _ _).alloc (Nat.le_refl _) _
  have hbx : w0.heap[w.heap.size]? = some (.cells #[.int .i64 n, v1, v2] 54 (0, 0)) := by rw [hw0]; exact heap_alloc_new w _
  have hc0 := cell_of_heap (j := 0) (u := .int .i64 n) hbx rfl
  have hc1 := cell_of_heap (j := 1) (u := v1) hbx rfl
  have hc2 := cell_of_heap (j := 2) (u := v2) hbx rfl
  have HW0 := Lib.hid hw0
  have HT := Lib.hid hT
  have HM := Lib.hid (h1.mono hb0)
  have HRR := Lib.hid (h2.mono hb0)
  have HOL := Lib.hid hL
  have HWR := Lib.hid hR
  clear hw0 hb0 hbx h1 h2 hL hR hT
  go_enter Tryd.func5, Tryd.ntmps5
  go_wp2_with fail
  rw [← HW0.out]
  refine (fit_any n v1 v2 L R HM.out HRR.out HOL.out HWR.out).mono ?_
  rintro e w1 ⟨size, u1, u2, S, Q, rfl, hs1, hs4, hp, hm, hok, hq24, hq, hsy, hrw, hb1⟩
  obtain ⟨hbox, hlw⟩ := LawW.start (size := size) HW0.out hb1 hsy hrw
  have HLW := Lib.hid hlw
  have HOK := Lib.hid hok
  have HQ := Lib.hid hq
  have hx0 := cell_of_heap (j := 0) (u := .int .i64 n) hbox rfl
  have hx1 := cell_of_heap (j := 1) (u := v1) hbox rfl
  have hx2 := cell_of_heap (j := 2) (u := v2) hbox rfl
  have hf0 := frozen_of_heap (j := 0) hbox
  have hf1 := frozen_of_heap (j := 1) hbox
  have hf2 := frozen_of_heap (j := 2) hbox
  obtain ⟨⟨a1, cc1, rfl⟩, ⟨a2, cc2, rfl, ha2⟩⟩ := hlw.opens
  have HA2 := Lib.hid ha2
  clear hbox hlw hok hq hsy hrw hb1 ha2 hc0 hc1 hc2
  go_wp2_with fail
  generalize ((w1.setCell ⟨w.heap.size, 0, none⟩ (.int .i64 (size : Int))).setCell ⟨w.heap.size, 1, none⟩ (.slice a1 S.length cc1)).setCell ⟨w.heap.size, 2, none⟩ (.slice a2 Q.length cc2) = wS at *
  clear hx0 hx1 hx2 hf0 hf1 hf2
  have hltS := HLW.out.lt
  refine (sysNew S.length size hp (by omega) hs1 (by omega)).mono ?_
  rintro e w2 ⟨b, kb, rfl, hsys, hb, hkb, hb2⟩
  have HLW2 := Lib.hid (HLW.out.mono hb2)
  have HSYS := Lib.hid hsys
  have hbX : w.heap.size < b := by omega
  have hkX : w.heap.size < kb := by omega
  have hbz := hsys.base
  have hyy := HLW2.out.cells
  have hy0 := hyy.1
  have hy1 := hyy.2.1
  clear hsys hb2 hb hkb hltS HLW hyy
  go_wp2_with fail
  refine (sysNew S.length size hp (by omega) hs1 (by omega)).mono ?_
  rintro e w3 ⟨b', kb', rfl, hsys', hb', hkb', hb3⟩
  have HLW3 := Lib.hid (HLW2.out.mono hb3)
  have HSA0 := Lib.hid (HSYS.out.mono hb3)
  have HSB0 := Lib.hid hsys'
  have hbX' : w.heap.size < b' := by omega
  have hkX' : w.heap.size < kb' := by omega
  have hbb : b' ≠ b := by omega
  have hbk : kb' ≠ kb := by omega
  have hcells3 := HLW3.out.cells
  have hy2 := hcells3.2.2
  clear hsys' hb3 hb' hkb' hbz HSYS HLW2 hcells3 hy0 hy1
  obtain ⟨sh, hsh, hsl⟩ : ∃ sh : Nat, (0 < Q.length → (IntKind.u64.wrap byI).tmod (Q.length : Int) = (sh : Int) ∧ sh < Q.length) ∧ True := by
    by_cases hq0 : 0 < Q.length
    · have hw : 0 ≤ IntKind.u64.wrap byI := by rw [IntKind.wrap_u64]; omega
      have e : (IntKind.u64.wrap byI).tmod (Q.length : Int) = (IntKind.u64.wrap byI) % (Q.length : Int) := Int.tmod_eq_emod_of_nonneg hw
      have h0 : 0 ≤ (IntKind.u64.wrap byI) % (Q.length : Int) := Int.emod_nonneg _ (by omega)
      have h4 : (IntKind.u64.wrap byI) % (Q.length : Int) < (Q.length : Int) := Int.emod_lt_of_pos _ (by omega)
      exact ⟨((IntKind.u64.wrap byI) % (Q.length : Int)).toNat, fun _ => ⟨by rw [e]; omega, by omega⟩, trivial⟩
    · exact ⟨0, fun h => absurd h hq0, trivial⟩
  have HSH := Lib.hid hsh
  clear hsh hsl
  go_wp2_with fail
  go_loopw [10, 11] (fun i _ wr => ∃ k : Nat, k ≤ Q.length ∧ i = .int .i64 k ∧ LawW w wr size (.slice a1 S.length cc1) (.slice a2 Q.length cc2) S Q ∧ Sys wr b S.length size (kQ S size (Q.take k)) (rkQ (Q.take k)) false kb ∧ Sys wr b' S.length size (kQ S size (backQ Q sh k)) (rkQ (backQ Q sh k)) false kb') (fun i _ _ => Q.length - (intOf i).toNat)
  case atStart => exact ⟨0, Nat.zero_le _, rfl, HLW3.out, by rw [List.take_zero, rkQ_nil]; exact HSA0.out, by rw [show backQ Q sh 0 = [] from rfl, rkQ_nil]; exact HSB0.out⟩
  case round =>
    clear HLW3 HSA0 HSB0 hy2
    obtain ⟨k, hk, rfl, hlw, hsa, hsb⟩ := hrel
    by_cases hlt : k < Q.length
    · obtain ⟨g, rfl⟩ := HA2.out (by omega)
      obtain ⟨hsh1, hsh2⟩ := HSH.out (by omega)
      have hconv : IntKind.u64.wrap (Q.length : Int) = (Q.length : Int) := by rw [IntKind.wrap_u64]; omega
      have hqz : ¬ (Q.length : Int) = 0 := by omega
      obtain ⟨m, hmk⟩ : ∃ m, m = (k + sh) % Q.length := ⟨_, rfl⟩
      have hmlt : m < Q.length := by rw [hmk]; exact Nat.mod_lt _ (by omega)
      have hmod : ((k : Int) + (sh : Int)).tmod (Q.length : Int) = (m : Int) := by rw [Int.tmod_eq_emod_of_nonneg (by omega), hmk]; push_cast; rfl
      have hmod2 : ((k : Int) + (sh : Int)) % (Q.length : Int) = (m : Int) := by rw [hmk]; push_cast; rfl
      have hwn : wrap64 ((Q.length : Int) - 1) = (Q.length : Int) - 1 := IntWalk.wrap64_in _ (by omega)
      obtain ⟨p, hpp⟩ : ∃ p, p = Q.length - 1 - m := ⟨_, rfl⟩
      have hplt : p < Q.length := by omega
      have hsubp : (Q.length : Int) - 1 - (m : Int) = (p : Int) := by omega
      have hTk := takeQ hlt
      have hBk : backQ Q sh (k + 1) = backQ Q sh k ++ [Q.getD p 0] := by rw [backQ_succ, ← hmk, ← hpp]
      have hqx : Q.getD k 0 < 2 ^ S.length := HQ.out _ (by rw [List.getD_eq_getElem?_getD, List.getElem?_eq_getElem hlt]; exact List.getElem_mem hlt)
      have hqy : Q.getD p 0 < 2 ^ S.length := HQ.out _ (by rw [List.getD_eq_getElem?_getD, List.getElem?_eq_getElem hplt]; exact List.getElem_mem hplt)
      obtain ⟨x, hxq⟩ : ∃ x, x = Q.getD k 0 := ⟨_, rfl⟩
      obtain ⟨y, hyq⟩ : ∃ y, y = Q.getD p 0 := ⟨_, rfl⟩
      rw [← hxq] at hqx hTk
      rw [← hyq] at hqy hBk
      have HXQ := Lib.hid hxq
      have HYQ := Lib.hid hyq
      have HTK := Lib.hid hTk
      have HBK := Lib.hid hBk
      have HQX := Lib.hid hqx
      have HQY := Lib.hid hqy
      have HQT : Hid (∀ q ∈ Q.take k, q < 2 ^ S.length) := Lib.hid fun q hq => HQ.out q (List.mem_of_mem_take hq)
      have HQB : Hid (∀ q ∈ backQ Q sh k, q < 2 ^ S.length) := Lib.hid fun q hq => by
        obtain ⟨t, _, rfl⟩ := List.mem_map.1 hq
        have hl : Q.length - 1 - (t + sh) % Q.length < Q.length := by omega
        exact HQ.out _ (by rw [List.getD_eq_getElem?_getD, List.getElem?_eq_getElem hl]; exact List.getElem_mem hl)
      obtain ⟨hx0, hx1, hx2⟩ := hlw.cells
      have HLW := Lib.hid hlw
      have HSA := Lib.hid hsa
      have HSB := Lib.hid hsb
      have hltb := hlw.lt
      clear hlw hsa hsb hTk hBk hqx hqy hxq hyq hmk hpp hmod2
      go_wp2_with fail
      clear hx0 hx1 hx2
      have HNUM := Lib.hid (And.intro hsubp hwn)
      clear hsubp hwn hmod hconv hsh1 hqz
      have HBDA : Hid (Below wr.heap.size wr wr.drew) := Lib.hid (Below.refl _ _).drew
      have HBEA : Hid (Below wr.heap.size wr (wr.alloc (.cells #[.int .u64 (x : Int)] 47)).drew) := Lib.hid ((Below.refl _ _).alloc (Nat.le_refl _) _).drew
      have HLEA : Hid (ListAt wordV (wr.alloc (.cells #[.int .u64 (x : Int)] 47)).drew (.slice (some ⟨wr.heap.size, 0, none⟩) 1 1) [x]) := Lib.hid ((lit_words wr [x] 1 rfl (by decide)).mono (Below.refl _ _).drew)
      have HSATA : Hid (∀ W, LawW w W size (.slice a1 S.length cc1) (.slice (some ⟨g, 0, none⟩) Q.length cc2) S Q → W.cell? ⟨w.heap.size, 0, none⟩ = some (.int .i64 (size : Int)) ∧ W.cell? ⟨w.heap.size, 1, none⟩ = some (.slice a1 S.length cc1) ∧ W.cell? ⟨w.heap.size, 2, none⟩ = some (.slice (some ⟨g, 0, none⟩) Q.length cc2) ∧ W.cell? ⟨g, k, none⟩ = some (.int .u64 (x : Int))) := Lib.hid fun W h => ⟨h.cells.1, h.cells.2.1, h.cells.2.2, by have := h.row hlt; rw [← HXQ.out] at this; exact this⟩
      have HSDA : Hid (wr.drew.cell? ⟨w.heap.size, 0, none⟩ = some (.int .i64 (size : Int)) ∧ wr.drew.cell? ⟨w.heap.size, 1, none⟩ = some (.slice a1 S.length cc1) ∧ wr.drew.cell? ⟨w.heap.size, 2, none⟩ = some (.slice (some ⟨g, 0, none⟩) Q.length cc2) ∧ wr.drew.cell? ⟨g, k, none⟩ = some (.int .u64 (x : Int))) := Lib.hid (HSATA.out _ (HLW.out.mono HBDA.out))
      go_region_held3 (fun w' => w'.cell? ⟨w.heap.size, 0, none⟩ = some (.int .i64 (size : Int)) ∧ w'.cell? ⟨w.heap.size, 1, none⟩ = some (.slice a1 S.length cc1) ∧ w'.cell? ⟨w.heap.size, 2, none⟩ = some (.slice (some ⟨g, 0, none⟩) Q.length cc2) ∧ w'.cell? ⟨g, k, none⟩ = some (.int .u64 (x : Int)))
        (first | exact HSDA.out | exact HSATA.out _ (HLW.out.mono HBEA.out) | exact HSATA.out _ HLWCA.out | exact HSATA.out _ HLWBA.out | exact HSATA.out _ HLWEA.out | go_keep)
        (first
        | (go_at_call 21; (with_reducible refine (law_sym HLW.out HOK.out hm hs4 HQX.out HBEA.out).mono ?_); rintro e wBA ⟨vB, rfl, hoB, hbB, hbB2⟩; have HLLA := Lib.hid (HLEA.out.mono hbB2); have HOBA := Lib.hid hoB; have HBBA := Lib.hid hbB; have HLWBA := Lib.hid (HLW.out.mono hbB); obtain ⟨ab, cb, rfl, -, -⟩ := own_open hoB; clear hoB hbB hbB2)
        | (go_at_call 21; (with_reducible refine (law_sym HLW.out HOK.out hm hs4 HQX.out HBDA.out).mono ?_); rintro e wBA ⟨vB, rfl, hoB, hbB, hbB2⟩; have HBBA := Lib.hid (hbB.alloc hbB.size (.cells #[.int .u64 (x : Int)] 47)); have HLWBA := Lib.hid (HLW.out.mono hbB); have HLWEA := Lib.hid (HLW.out.mono HBBA.out); have HLLA : Hid (ListAt wordV (wBA.alloc (.cells #[.int .u64 (x : Int)] 47)) (.slice (some ⟨wBA.heap.size, 0, none⟩) 1 1) [x]) := Lib.hid (lit_words wBA [x] 1 rfl (by decide)); have HOBA := Lib.hid (hoB.alloc (.cells #[.int .u64 (x : Int)] 47)); obtain ⟨ab, cb, rfl, -, -⟩ := own_open hoB; clear hoB hbB hbB2)
        | (go_at_call 16; (with_reducible refine (law_eq HLW.out HOK.out hm hp HSA.out HT.out HQT.out HQX.out hbX hkX HBBA.out _ _ HLLA.out (ListAt.of_owns HOBA.out)).mono ?_); rintro e wCA ⟨kkA, rfl, hkkA, -, hsP, htC, hsC, hlC⟩; have HSYCA := Lib.hid hsC; have HLWCA := Lib.hid hlC; have HSPA := Lib.hid hsP; have HTCA := Lib.hid htC; clear hsP htC hsC hlC))
      all_goals
        have HSOA : Hid (Sys wCA b' S.length size (kQ S size (backQ Q sh k)) (rkQ (backQ Q sh k)) false kb') := Lib.hid (Sys.other HSPA.out (HSB.out.mono HBBA.out) HTCA.out hbb hbk)
        clear HBDA HBEA HLEA HSATA HSDA HLW HSA HSB HOBA HBBA HLLA HSPA HTCA
        go_wp2_with fail
        have hA1 : IntKind.i64.wrap ((Q.length : Int) - 1) = (Q.length : Int) - 1 := IntWalk.i64_in _ (by omega)
        have hB1 : IntKind.i64.wrap ((Q.length : Int) - 1 - (m : Int)) = (p : Int) := by rw [HNUM.out.1]; exact IntWalk.i64_in _ (by omega)
        have hB2 : wrap64 ((Q.length : Int) - 1 - (m : Int)) = (p : Int) := by rw [HNUM.out.1]; exact IntWalk.wrap64_in _ (by omega)
        have hP0 : (0 : Int) ≤ (p : Int) := by omega
        have hP1 : (p : Int) < (Q.length : Int) := by omega
        clear HNUM hltb hk hmlt
        have HBDB : Hid (Below wCA.heap.size wCA wCA.drew) := Lib.hid (Below.refl _ _).drew
        have HBEB : Hid (Below wCA.heap.size wCA (wCA.alloc (.cells #[.int .u64 (y : Int)] 47)).drew) := Lib.hid ((Below.refl _ _).alloc (Nat.le_refl _) _).drew
        have HLEB : Hid (ListAt wordV (wCA.alloc (.cells #[.int .u64 (y : Int)] 47)).drew (.slice (some ⟨wCA.heap.size, 0, none⟩) 1 1) [y]) := Lib.hid ((lit_words wCA [y] 1 rfl (by decide)).mono (Below.refl _ _).drew)
        have HSATB : Hid (∀ W, LawW w W size (.slice a1 S.length cc1) (.slice (some ⟨g, 0, none⟩) Q.length cc2) S Q → W.cell? ⟨w.heap.size, 0, none⟩ = some (.int .i64 (size : Int)) ∧ W.cell? ⟨w.heap.size, 1, none⟩ = some (.slice a1 S.length cc1) ∧ W.cell? ⟨w.heap.size, 2, none⟩ = some (.slice (some ⟨g, 0, none⟩) Q.length cc2) ∧ W.cell? ⟨g, p, none⟩ = some (.int .u64 (y : Int))) := Lib.hid fun W h => ⟨h.cells.1, h.cells.2.1, h.cells.2.2, by have := h.row hplt; rw [← HYQ.out] at this; exact this⟩
        have HSDB : Hid (wCA.drew.cell? ⟨w.heap.size, 0, none⟩ = some (.int .i64 (size : Int)) ∧ wCA.drew.cell? ⟨w.heap.size, 1, none⟩ = some (.slice a1 S.length cc1) ∧ wCA.drew.cell? ⟨w.heap.size, 2, none⟩ = some (.slice (some ⟨g, 0, none⟩) Q.length cc2) ∧ wCA.drew.cell? ⟨g, p, none⟩ = some (.int .u64 (y : Int))) := Lib.hid (HSATB.out _ (HLWCA.out.mono HBDB.out))
        go_region_held3 (fun w' => w'.cell? ⟨w.heap.size, 0, none⟩ = some (.int .i64 (size : Int)) ∧ w'.cell? ⟨w.heap.size, 1, none⟩ = some (.slice a1 S.length cc1) ∧ w'.cell? ⟨w.heap.size, 2, none⟩ = some (.slice (some ⟨g, 0, none⟩) Q.length cc2) ∧ w'.cell? ⟨g, p, none⟩ = some (.int .u64 (y : Int)))
          (first | exact HSDB.out | exact HSATB.out _ (HLWCA.out.mono HBEB.out) | exact HSATB.out _ HLWCB.out | exact HSATB.out _ HLWBB.out | exact HSATB.out _ HLWEB.out | go_keep)
          (first
          | (go_at_call 21; (with_reducible refine (law_sym HLWCA.out HOK.out hm hs4 HQY.out HBEB.out).mono ?_); rintro e wBB ⟨vB, rfl, hoB, hbB, hbB2⟩; have HLLB := Lib.hid (HLEB.out.mono hbB2); have HOBB := Lib.hid hoB; have HBBB := Lib.hid hbB; have HLWBB := Lib.hid (HLWCA.out.mono hbB); obtain ⟨ab, cb, rfl, -, -⟩ := own_open hoB; clear hoB hbB hbB2)
          | (go_at_call 21; (with_reducible refine (law_sym HLWCA.out HOK.out hm hs4 HQY.out HBDB.out).mono ?_); rintro e wBB ⟨vB, rfl, hoB, hbB, hbB2⟩; have HBBB := Lib.hid (hbB.alloc hbB.size (.cells #[.int .u64 (y : Int)] 47)); have HLWBB := Lib.hid (HLWCA.out.mono hbB); have HLWEB := Lib.hid (HLWCA.out.mono HBBB.out); have HLLB : Hid (ListAt wordV (wBB.alloc (.cells #[.int .u64 (y : Int)] 47)) (.slice (some ⟨wBB.heap.size, 0, none⟩) 1 1) [y]) := Lib.hid (lit_words wBB [y] 1 rfl (by decide)); have HOBB := Lib.hid (hoB.alloc (.cells #[.int .u64 (y : Int)] 47)); obtain ⟨ab, cb, rfl, -, -⟩ := own_open hoB; clear hoB hbB hbB2)
          | (go_at_call 16; (with_reducible refine (law_eq HLWCA.out HOK.out hm hp HSOA.out HT.out HQB.out HQY.out hbX' hkX' HBBB.out _ _ HLLB.out (ListAt.of_owns HOBB.out)).mono ?_); rintro e wCB ⟨kkB, rfl, hkkB, -, hsP, htC, hsC, hlC⟩; have HSYCB := Lib.hid hsC; have HLWCB := Lib.hid hlC; have HSPB := Lib.hid hsP; have HTCB := Lib.hid htC; clear hsP htC hsC hlC))
        all_goals
          have HSOB : Hid (Sys wCB b S.length size (kQ S size (Q.take k ++ [x])) (rkQ (Q.take k ++ [x])) false kb) := Lib.hid (Sys.other HSPB.out (HSYCA.out.mono HBBB.out) HTCB.out hbb.symm hbk.symm)
          go_wp2
          go_roundw
          case rel => exact ⟨k + 1, by omega, by go_num, HLWCB.out, by rw [HTK.out]; exact HSOB.out, by rw [HBK.out]; exact HSYCB.out⟩
          case measure => simp [intOf]; omega
    · have hkn : k = Q.length := by omega
      subst hkn
      have HLWE := Lib.hid hlw
      have HSAE : Hid (Sys wr b S.length size (kQ S size Q) (rkQ Q) false kb) := Lib.hid (by rw [List.take_length] at hsa; exact hsa)
      have HSBE : Hid (Sys wr b' S.length size (kQ S size (backQ Q sh Q.length)) (rkQ (backQ Q sh Q.length)) false kb') := Lib.hid hsb
      have hmem : ∀ q, q ∈ backQ Q sh Q.length ↔ q ∈ Q := by
        by_cases hq0 : 0 < Q.length
        · exact backQ_mem (HSH.out hq0).2
        · have : Q = [] := List.eq_nil_of_length_eq_zero (by omega)
          subst this
          intro q; exact Iff.rfl
      have HRK : Hid (rkQ (backQ Q sh Q.length) = rkQ Q) := Lib.hid (rkQ_mem hmem)
      have HSP := Lib.hid (kQ_mem (S := S) (size := size) hmem)
      clear hlw hsa hsb hmem hlt HSH
      rw [HRK.out] at HSBE
      generalize hrr : rkQ Q = rr at *
      clear hrr
      have HSB2 := Lib.hid (HSBE.out.congr HSP.out)
      have HXC := Lib.hid HLWE.out.cells.2.1
      obtain ⟨wE, hwE⟩ : ∃ wE, wE = wr := ⟨_, rfl⟩
      subst hwE
      clear HSBE HSP
      go_wp2_with fail
      go_loopw [12] (fun c wq => ∃ k : Nat, k ≤ S.length ∧ c = .int .i64 k ∧ Below wE.heap.size wE wq) (fun c _ => S.length - (intOf c).toNat)
      case atStart => exact ⟨0, Nat.zero_le _, rfl, Below.refl _ _⟩
      case round =>
        obtain ⟨k, hk, rfl, hbel⟩ := hrel
        have hx1 := (hbel.cell (p := ⟨w.heap.size, 1, none⟩) HLWE.out.lt).trans HXC.out
        have HBL := Lib.hid hbel
        have hsE := hbel.size
        clear hbel
        by_cases hlt : k < S.length
        · go_wp2_with fail
          refine (sysVal b S.length size _ rr kb k (HSAE.out.mono HBL.out) (HT.out.mono (HLWE.out.mono HBL.out).bel) hlt).mono ?_
          rintro e w4 ⟨hb4, ⟨hno, E1, rfl, he1⟩ | ⟨xv, vv, hval, rfl, ho4⟩⟩
          · have HB4 := Lib.hid (HBL.out.trans (hb4.mono hsE))
            obtain ⟨u4, x4, rfl⟩ := he1.some (by decide)
            have HNO := Lib.hid hno
            clear hb4 he1 hno
            go_wp2_with fail
            refine (sysVal b' S.length size _ rr kb' k (HSB2.out.mono HB4.out) (HT.out.mono (HLWE.out.mono HB4.out).bel) hlt).mono ?_
            rintro e w5 ⟨hb5, ⟨hno2, E2, rfl, he2⟩ | ⟨xw, vw, hvalw, rfl, ho5⟩⟩
            · have HB5 := Lib.hid (HB4.out.trans (hb5.mono HB4.out.size))
              obtain ⟨u5, x5, rfl⟩ := he2.some (by decide)
              have hst1 : ∀ nd, (convert 39 9 nilS).run Tryd.prog (w5.drewN nd) = .ok (.string (strN [])) (w5.drewN nd) := fun nd => (ListAt.nil byteV (w5.drewN nd)).str
              clear hb5 he2 hno2
              generalize strN [] = str at *
              go_wp2_with fail
              go_quiet (fail)
              go_wp2
              go_roundw
              case rel => exact ⟨k + 1, by omega, by go_num, below_draws HB5.out _⟩
              case measure => simp [intOf]; omega
            · exact absurd hvalw.known HNO.out
          · have HB4 := Lib.hid (HBL.out.trans (hb4.mono hsE))
            have HVAL := Lib.hid hval
            have HO4 := Lib.hid ho4
            obtain ⟨a4, c4, rfl, -, -⟩ := own_open ho4
            clear hb4 hval ho4
            go_wp2_with fail
            refine (sysVal b' S.length size _ rr kb' k (HSB2.out.mono HB4.out) (HT.out.mono (HLWE.out.mono HB4.out).bel) hlt).mono ?_
            rintro e w5 ⟨hb5, ⟨hno2, E2, rfl, he2⟩ | ⟨xw, vw, hvalw, rfl, ho5⟩⟩
            · exact absurd HVAL.out.known hno2
            · have HB5 := Lib.hid (HB4.out.trans (hb5.mono HB4.out.size))
              obtain rfl := HVAL.out.unique HSAE.out.cons hvalw
              have hst1 : ∀ nd, (convert 39 9 (.slice a4 size c4)).run Tryd.prog (w5.drewN nd) = .ok (.string (strN (symV S.length size xv))) (w5.drewN nd) := fun nd => (((ListAt.of_owns (f := byteV) HO4.out).mono hb5).mono (below_drawn nd)).str
              have hst2 : ∀ nd, (convert 39 9 vw).run Tryd.prog (w5.drewN nd) = .ok (.string (strN (symV S.length size xv))) (w5.drewN nd) := fun nd => ((ListAt.of_owns (f := byteV) ho5).mono (below_drawn nd)).str
              obtain ⟨a5, c5, rfl, -, -⟩ := own_open ho5
              clear hb5 ho5 hvalw
              generalize strN (symV S.length size xv) = str at *
              go_wp2_with fail
              go_quiet (fail)
              go_wp2
              go_roundw
              case rel => exact ⟨k + 1, by omega, by go_num, below_draws HB5.out _⟩
              case measure => simp [intOf]; omega
        · have HRA := Lib.hid (HSAE.out.mono HBL.out).cells.2.2.2.1
          have HRB := Lib.hid (HSB2.out.mono HBL.out).cells.2.2.2.1
          have HBW := Lib.hid (HLWE.out.mono HBL.out).bel
          go_wp2_with fail
          refine (Rank_any b rr HRA.out).mono ?_
          rintro e w4 ⟨rfl, rfl⟩
          go_wp2_with fail
          refine (Rank_any b' rr HRB.out).mono ?_
          rintro e w4 ⟨rfl, rfl⟩
          go_wp2_with fail
          refine (awake5 (HT.out.mono HBW.out)).mono ?_
          rintro e wZ ⟨rfl, hbZ⟩
          have HBZ := Lib.hid (HBW.out.trans (hbZ.mono HBW.out.size))
          clear hbZ
          go_wp2
          go_ret
          exact ⟨rfl, HBZ.out⟩
end Go.Proofs.YtnkkaggepokjeaaDoor
