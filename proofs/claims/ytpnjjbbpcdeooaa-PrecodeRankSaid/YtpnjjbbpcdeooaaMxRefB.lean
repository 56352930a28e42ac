/- Package geyserref03: swap, clear, All, Words, Same. -/
import Derived.Test.YtpnjjbbpcdeooaaMxRefA
import Derived.Test.YtpnjjbbpcdeooaaAppend
import Derived.Deep.AppendLies
import Derived.Deep.RegionLaw
namespace Go.Proofs.Ytpnjjbbpcdeooaa
open Go.RowKit Go.Extern.Stop Go.Stop Go.Extern

def swB (R : List (List Bool)) (i j : Nat) : List (List Bool) := (R.set i (R.getD j [])).set j (R.getD i [])
theorem swB_length (R : List (List Bool)) (i j : Nat) : (swB R i j).length = R.length := by simp [swB]

theorem swap_facts {w w1 : World} {e : TypeId} {b off q i j : Nat} {vs : List Value} {R : List (List Bool)} {o : Value} (hq : vs.length = q) (hR : R.length = q) (hi : i < q) (hj : j < q)
    (hc : ∀ k, k < q → w.cell? ⟨b, off + k, none⟩ = some (vs.getD k nilS)) (hel : ∀ k, ListAt boolV w (vs.getD k nilS) (R.getD k [])) (ho : w1.ownsRow w.heap.size e 1 o q vs) (hb : Below w.heap.size w w1) :
    ∃ g co ai li ci aj lj cj y, o = .slice (some ⟨g, 0, none⟩) q co ∧ vs.getD i nilS = .slice ai li ci ∧ vs.getD j nilS = .slice aj lj cj ∧
      w1.cell? ⟨b, off + j, none⟩ = some (.slice aj lj cj) ∧ w1.cell? ⟨g, i, none⟩ = some (.slice ai li ci) ∧ w1.frozen? ⟨g, i, none⟩ = false ∧
      (w1.setCell ⟨g, i, none⟩ (.slice aj lj cj)).cell? ⟨b, off + i, none⟩ = some (.slice ai li ci) ∧ (w1.setCell ⟨g, i, none⟩ (.slice aj lj cj)).cell? ⟨g, j, none⟩ = some y ∧
      (w1.setCell ⟨g, i, none⟩ (.slice aj lj cj)).frozen? ⟨g, j, none⟩ = false ∧
      Hid (MatAt boolV ((w1.setCell ⟨g, i, none⟩ (.slice aj lj cj)).setCell ⟨g, j, none⟩ (.slice ai li ci)) (.slice (some ⟨g, 0, none⟩) q co) (swB R i j)) ∧
      Hid (Below w.heap.size w ((w1.setCell ⟨g, i, none⟩ (.slice aj lj cj)).setCell ⟨g, j, none⟩ (.slice ai li ci))) := by
  obtain ⟨ao, co, rfl, hco, hao⟩ := own_open ho
  obtain ⟨g, rfl⟩ := hao (by omega)
  have hg := (ho.lt g rfl).1
  have hbl : b < w.heap.size := World.block_lt_of_cell? w _ (hc i hi)
  have hbg : ¬ b = g := by omega
  have hci1 : w1.cell? ⟨b, off + i, none⟩ = some (vs.getD i nilS) := (hb.cell (p := ⟨b, off + i, none⟩) hbl).trans (hc i hi)
  have hcj1 : w1.cell? ⟨b, off + j, none⟩ = some (vs.getD j nilS) := (hb.cell (p := ⟨b, off + j, none⟩) hbl).trans (hc j hj)
  have hgi : w1.cell? ⟨g, i, none⟩ = some (vs.getD i nilS) := by
    rw [ho.cellAt i (by omega)]
    have : i < vs.length := by omega
    simp [this]
  have HS1 := (ho.stored i (vs.getD j nilS)).1
  have hci2 : (w1.setCell ⟨g, i, none⟩ (vs.getD j nilS)).cell? ⟨b, off + i, none⟩ = some (vs.getD i nilS) := (World.cell?_setCell_other _ _ _ _ (by intro e; exact hbg (congrArg Addr.block e).symm)).trans hci1
  have hgj : ∃ y, (w1.setCell ⟨g, i, none⟩ (vs.getD j nilS)).cell? ⟨g, j, none⟩ = some y := by
    rw [HS1.cellAt j (by omega)]
    exact ⟨_, List.getElem?_eq_getElem (by simp [hq]; omega)⟩
  obtain ⟨y, hgj⟩ := hgj
  have HS2 := (HS1.stored j (vs.getD i nilS)).1
  have HB2 := (hb.setCell (p := ⟨g, i, none⟩) hg (vs.getD j nilS)).setCell (p := ⟨g, j, none⟩) hg (vs.getD i nilS)
  have HEND : MatAt boolV ((w1.setCell ⟨g, i, none⟩ (vs.getD j nilS)).setCell ⟨g, j, none⟩ (vs.getD i nilS)) (.slice (some ⟨g, 0, none⟩) q co) (swB R i j) := by
    have hlq : ((vs.set i (vs.getD j nilS)).set j (vs.getD i nilS)).length = q := by simp [hq]
    refine ⟨(vs.set i (vs.getD j nilS)).set j (vs.getD i nilS), ListAt.of_owns (n := q) (by rw [List.map_id]; exact HS2), by rw [swB_length, hlq, hR], fun k => ?_⟩
    have hold := fun k => (hel k).mono HB2
    unfold swB
    rw [getD_set _ _ _ _ _ (by simp; omega), getD_set _ _ _ _ _ (by omega), getD_set _ _ _ _ _ (by simp; omega), getD_set _ _ _ _ _ (by omega)]
    by_cases e1 : k = j
    · rw [if_pos e1, if_pos e1]; exact hold i
    · rw [if_neg e1, if_neg e1]
      by_cases e2 : k = i
      · rw [if_pos e2, if_pos e2]; exact hold j
      · rw [if_neg e2, if_neg e2]; exact hold k
  obtain ⟨ai, ci, ei, _⟩ := hel i
  obtain ⟨aj, cj, ej, _⟩ := hel j
  have hgf := HS1.frozenAt j
  rw [ei] at hgi hci2 HEND HB2
  rw [ej] at hcj1 hci2 HEND HB2 hgj hgf
  exact ⟨g, co, ai, _, ci, aj, _, cj, y, rfl, ei, ej, hcj1, hgi, ho.frozenAt i, hci2, hgj, hgf, HEND, HB2⟩

set_option maxRecDepth 1000000 in
set_option maxHeartbeats 1000000 in
theorem swap_any {w : World} (v : Value) (R : List (List Bool)) (i j : Nat) (h : MatAt boolV w v R) (hi : i < R.length) (hj : j < R.length) (hl : R.length ≤ 100000) :
    Calls Try.prog 36 #[v, .int .i64 (i : Int), .int .i64 (j : Int)] w fun e w' => ∃ v', e = .returned v' ∧ MatAt boolV w' v' (swB R i j) ∧ Below w.heap.size w w' := by
  obtain ⟨i0, hi0, hz0, hz1, hz2⟩ := info_parts info_brow
  obtain ⟨vs, hvs, hvl, hel⟩ := h
  have HB0 := Lib.hid ((Below.refl w.heap.size w).alloc (Nat.le_refl _) (.cells #[] 67))
  have HO0 := Lib.hid (World.ownsRow_made (base := w.heap.size) (e := 67) (size := 1) w #[] 0 (Nat.le_refl _) (by decide) rfl)
  have HVA := Lib.hid (hvs.mono HB0.out)
  have HSL := Lib.hid (MatAt.slices hel)
  have HCELL : ∃ b off, (∃ cap, v = .slice (some ⟨b, off, none⟩) vs.length cap) ∧ ∀ k, k < vs.length → w.cell? ⟨b, off + k, none⟩ = some (vs.getD k nilS) := by
    obtain ⟨a, cap, rfl, _, _, hcl⟩ := hvs
    obtain ⟨b, off, rfl, hc⟩ := hcl (by omega)
    refine ⟨b, off, ⟨cap, rfl⟩, fun k hk => ?_⟩
    rw [hc k hk]; simp [hk]
  obtain ⟨b, off, ⟨cap, rfl⟩, hcc⟩ := HCELL
  generalize hq : vs.length = q at *
  have HF : Hid (∀ o w1, w1.ownsRow w.heap.size 67 1 o q vs → Below w.heap.size w w1 → _) := Lib.hid fun o w1 ho hb => swap_facts (o := o) (w1 := w1) (R := R) (i := i) (j := j) hq hvl.symm (by omega) (by omega) hcc hel ho hb
  rw [← hvl] at hl hi hj
  clear hel hvs hcc hvl
  go_enter Try.func36, Try.ntmps36
  go_wp2_with (at_builtin; refine wpList_append_of (f := id) _ rfl (.tmp 8) (.tmp 9) 51 rfl w.heap.size 67 i0 (.slice none 0 0) 24 Try.underlying51 hi0 hz0 hz1 hz2 rfl _ 0 [] rfl HO0.out _ vs rfl HVA.out HSL.out (by rw [hq]; unfold maxLen; omega) (by rw [hq]; omega) (by simp) ?_; intro o w1 hown1 hgrow1; have hb1 := HB0.out.grown hgrow1 (by simp) (fun k hk => (HO0.out.lt k hk).1); rw [hq, Nat.zero_add, List.nil_append, List.map_id] at hown1; obtain ⟨g, co, ai, li, ci, aj, lj, cj, y, rfl, -, -, f1, f2, f3, f4, f5, f6, HEND, HB2⟩ := HF.out o w1 hown1 hb1; clear hown1 hgrow1 hb1 HF)
  go_ret
  exact ⟨_, rfl, HEND.out, HB2.out⟩

/-! ### clear -/
def clB (R : List (List Bool)) (a c k : Nat) : List Bool := if k ≠ a ∧ bitB (R.getD k []) c = true then sumB (R.getD k []) (R.getD a []) else R.getD k []
def clTo (R : List (List Bool)) (a c k : Nat) : List (List Bool) := (List.range k).map (clB R a c)
theorem clTo_length (R : List (List Bool)) (a c k : Nat) : (clTo R a c k).length = k := by simp [clTo]
theorem clTo_succ (R : List (List Bool)) (a c k : Nat) : clTo R a c (k + 1) = clTo R a c k ++ [clB R a c k] := by unfold clTo; rw [List.range_succ, List.map_append]; rfl
theorem clB_sum {R : List (List Bool)} {a c k : Nat} (h1 : k ≠ a) (h2 : bitB (R.getD k []) c = true) : clB R a c k = sumB (R.getD k []) (R.getD a []) := if_pos ⟨h1, h2⟩
theorem clB_same {R : List (List Bool)} {a c k : Nat} (h : ¬ (k ≠ a ∧ bitB (R.getD k []) c = true)) : clB R a c k = R.getD k [] := if_neg h

set_option maxRecDepth 1000000 in
set_option maxHeartbeats 4000000 in
theorem clear_any {w : World} (v : Value) (R : List (List Bool)) (n a c : Nat) (h : MatAt boolV w v R) (hr : ∀ k, k < R.length → (R.getD k []).length = n) (ha : a < R.length) (hc : c < n) (hn : n ≤ 4096) (hl : R.length ≤ 100000) :
    Calls Try.prog 35 #[v, .int .i64 (a : Int), .int .i64 (c : Int)] w fun e w' => ∃ v', e = .returned v' ∧ MatAt boolV w' v' (clTo R a c R.length) ∧ Below w.heap.size w w' := by
  obtain ⟨i0, hi0, hz0, hz1, hz2⟩ := info_parts info_brow
  obtain ⟨ad, cap, rfl, hcap, hcm, hcell⟩ := h.opens
  have HC := Lib.hid hcell
  have HR := Lib.hid hr
  clear hcell h hr
  go_enter Try.func35, Try.ntmps35
  go_wp2
  go_loopw [7, 8] (fun o i wr => ∃ k : Nat, k ≤ R.length ∧ i = .int .i64 k ∧ MatOwn boolV 4 w.heap.size 67 wr o (clTo R a c k) ∧ Below w.heap.size w wr) (fun _ i _ => R.length - (intOf i).toNat)
  case atStart => exact ⟨0, Nat.zero_le _, rfl, MatOwn.start w (Nat.le_refl _), (Below.refl _ _).alloc (Nat.le_refl _) _⟩
  case round =>
    obtain ⟨k, hk, rfl, ⟨vs, hown, hel⟩, hbel⟩ := hrel
    have hsz := hbel.size
    by_cases hlt : k < R.length
    · obtain ⟨b, off, rfl, hcc⟩ := HC.out (by omega)
      obtain ⟨x, hx, hlx⟩ := hcc k hlt
      have HLX := Lib.hid hlx
      have hxl := HR.out k hlt
      have hal := HR.out a ha
      obtain ⟨ax, cx, rfl, -, -, hcx⟩ := hlx
      obtain ⟨b2, off2, rfl, hc2⟩ := hcx (by omega)
      have hx1 : wr.cell? ⟨b, off + k, none⟩ = some (.slice (some ⟨b2, off2, none⟩) n cx) := by
        rw [← hxl]
        exact (hbel.cell (p := ⟨b, off + k, none⟩) (World.block_lt_of_cell? w _ hx)).trans hx
      have hy : w.cell? ⟨b2, off2 + c, none⟩ = some (.bool (bitB (R.getD k []) c)) := by
        rw [hc2 c (by omega)]
        exact congrArg some (boolV_get _ _ _)
      have hy1 : wr.cell? ⟨b2, off2 + c, none⟩ = some (.bool (bitB (R.getD k []) c)) := (hbel.cell (p := ⟨b2, off2 + c, none⟩) (World.block_lt_of_cell? w _ hy)).trans hy
      rw [hxl] at HLX
      have HEX : Hid (ElAt boolV 4 w.heap.size wr (.slice (some ⟨b2, off2, none⟩) n cx) (R.getD k [])) := Lib.hid (ElAt.old HLX.out hbel)
      have HO := Lib.hid hown
      rw [clTo_length] at HO
      have HEL := Lib.hid hel
      have HB := Lib.hid hbel
      have HQ := Lib.hid (clTo_length R a c k)
      have HS := Lib.hid (clTo_succ R a c k)
      by_cases hka : k = a
      · have HSAME : Hid (clB R a c k = R.getD k []) := Lib.hid (clB_same (by simp [hka]))
        have hb1 : ((k : Int) != (a : Int)) = false := by simp; omega
        clear hcc hcx hc2 hx hy hxl hal hown hel hbel hka
        go_wp2_with (at_builtin; refine wpList_append_own _ rfl (.tmp 40) (.tmp 45) 51 rfl w.heap.size 67 i0 (.slice none 0 0) 1 24 Try.underlying51 hi0 hz0 hz1 hz2 rfl (by decide) u7 k vs rfl (HO.out.alloc _) ⟨wr.heap.size, 0, none⟩ 1 1 [.slice (some ⟨b2, off2, none⟩) n cx] rfl rfl (cell_one_new _ _ _) (fun x hx => by simp at hx; subst hx; rfl) (by unfold maxLen; omega) (by omega) (by simp; omega) ?_; intro v2 w2 hown1 hgrow1 _; have hb2 := Lib.hid ((HB.out.alloc hsz _).grown hgrow1 (by simp; omega) (fun k hk => (HO.out.lt k hk).1)); have ho2 : Hid (MatOwn boolV 4 w.heap.size 67 w2 v2 (clTo R a c k ++ [R.getD k []])) := Lib.hid (MatOwn.app (by decide) (by rw [HQ.out]; exact HO.out) HEL.out HEX.out (by rw [HQ.out]; exact hown1) hgrow1); clear hown1 hgrow1)
        go_roundw
        case rel => exact ⟨k + 1, by omega, by go_num, by rw [HS.out, HSAME.out]; exact ho2.out, hb2.out⟩
        case measure => simp [intOf]; omega
      · have hb1 : ((k : Int) != (a : Int)) = true := by simp; omega
        cases hbt : bitB (R.getD k []) c with
        | false =>
          have HSAME : Hid (clB R a c k = R.getD k []) := Lib.hid (clB_same (by rw [hbt]; simp))
          rw [hbt] at hy1
          clear hcc hcx hc2 hx hy hxl hal hown hel hbel hka hbt
          go_wp2_with (at_builtin; refine wpList_append_own _ rfl (.tmp 40) (.tmp 45) 51 rfl w.heap.size 67 i0 (.slice none 0 0) 1 24 Try.underlying51 hi0 hz0 hz1 hz2 rfl (by decide) u7 k vs rfl (HO.out.alloc _) ⟨wr.heap.size, 0, none⟩ 1 1 [.slice (some ⟨b2, off2, none⟩) n cx] rfl rfl (cell_one_new _ _ _) (fun x hx => by simp at hx; subst hx; rfl) (by unfold maxLen; omega) (by omega) (by simp; omega) ?_; intro v2 w2 hown1 hgrow1 _; have hb2 := Lib.hid ((HB.out.alloc hsz _).grown hgrow1 (by simp; omega) (fun k hk => (HO.out.lt k hk).1)); have ho2 : Hid (MatOwn boolV 4 w.heap.size 67 w2 v2 (clTo R a c k ++ [R.getD k []])) := Lib.hid (MatOwn.app (by decide) (by rw [HQ.out]; exact HO.out) HEL.out HEX.out (by rw [HQ.out]; exact hown1) hgrow1); clear hown1 hgrow1)
          go_roundw
          case rel => exact ⟨k + 1, by omega, by go_num, by rw [HS.out, HSAME.out]; exact ho2.out, hb2.out⟩
          case measure => simp [intOf]; omega
        | true =>
          have HSUM : Hid (clB R a c k = sumB (R.getD k []) (R.getD a [])) := Lib.hid (clB_sum hka hbt)
          rw [hbt] at hy1
          obtain ⟨xa, hxa, hla⟩ := hcc a ha
          have hwr : Below w.heap.size w wr.drew := hbel.drew
          have HLK : Hid (ListAt boolV wr.drew (.slice (some ⟨b2, off2, none⟩) n cx) (R.getD k [])) := Lib.hid (HLX.out.mono hwr)
          have HLA : Hid (ListAt boolV wr.drew xa (R.getD a [])) := Lib.hid (hla.mono hwr)
          obtain ⟨aa, ca, rfl, -, -, -⟩ := hla
          rw [hal] at hxa HLA
          have hxa1 : wr.cell? ⟨b, off + a, none⟩ = some (.slice aa n ca) := (hbel.cell (p := ⟨b, off + a, none⟩) (World.block_lt_of_cell? w _ hxa)).trans hxa
          have HLL : Hid ((R.getD k []).length = (R.getD a []).length) := Lib.hid (by omega)
          have HLN := Lib.hid hxl
          have HB2 := Lib.hid hwr
          have HO2 : Hid (wr.drew.ownsRow w.heap.size 67 1 u7 k vs) := Lib.hid HO.out.drew
          have HEL2 := Lib.hid (fun i => (hel i).mono (w' := wr.drew) (Below.refl _ _).drew)
          clear hcc hcx hc2 hx hy hxl hal hown hel hbel hka hbt HEL HO HB hxa hwr HLX HEX
          have HN6 : Hid ((R.getD k []).length ≤ 4096) := Lib.hid (by have := HLN.out; omega)
          go_wp2_with fail
          go_region_law (first
            | (go_simp; go_at_call 42; refine (sum_any _ _ (R.getD k []) (R.getD a []) HLK.out HLA.out HLL.out HN6.out).mono ?_; rintro e w1 ⟨vn, rfl, hvn, hbn⟩; rw [HLN.out] at hvn; have HEN : Hid (ElAt boolV 4 w.heap.size w1 vn (sumB (R.getD k []) (R.getD a []))) := Lib.hid (ElAt.own hvn); have HO3 := Lib.hid (owns_kept HO2.out hbn); have HEL3 := Lib.hid (fun i => (HEL2.out i).mono hbn); have hszd := HB2.out.size; have HB3 := Lib.hid (HB2.out.trans (hbn.mono hszd)); have hsz1 := HB3.out.size; obtain ⟨an, cn, rfl, -, -⟩ := own_open hvn; clear hvn hbn HEL2 HO2 HB2 HLK HLA)
            | (refine step_append_lies _ rfl (.tmp 28) (.tmp 38) 51 rfl w.heap.size 67 i0 (.slice none 0 0) 1 24 Try.underlying51 hi0 hz0 hz1 hz2 rfl (by decide) u7 k vs (by simp [Act.eval]) (HO3.out.alloc _) ⟨w1.heap.size, 0, none⟩ 1 1 [.slice an n cn] (by simp [Act.eval]) rfl (cell_one_new _ _ _) (fun x hx => by simp at hx; subst hx; rfl) (by decide) (by unfold maxLen; omega) (by omega) (by simp; omega) _ rfl ?_; intro g2 c2 w2 hown1 hgrow1 _ _; have hb2 := Lib.hid ((HB3.out.alloc hsz1 _).grown hgrow1 (by simp; omega) (fun k hk => (HO3.out.lt k hk).1)); have ho2 : Hid (MatOwn boolV 4 w.heap.size 67 w2 _ (clTo R a c k ++ [sumB (R.getD k []) (R.getD a [])])) := Lib.hid (MatOwn.app (by decide) (by rw [HQ.out]; exact HO3.out) HEL3.out HEN.out (by rw [HQ.out]; exact hown1) hgrow1); clear hown1 hgrow1))
          all_goals go_wp2
          all_goals exact ⟨⟨k + 1, by omega, by go_num, by rw [HS.out, HSUM.out]; exact ho2.out, hb2.out⟩, by simp [intOf]; omega⟩
    · have hk' : k = R.length := by omega
      have HM := Lib.hid (MatOwn.at ⟨vs, hown, hel⟩)
      rw [hk'] at HM
      have HB := Lib.hid hbel
      clear hown hel hbel
      go_wp2
      go_ret
      exact ⟨_, rfl, HM.out, HB.out⟩
end Go.Proofs.Ytpnjjbbpcdeooaa
