/- The walk of the third layer's law MatrixPlains. -/
import Derived.Test.YtlbeobocppmifaaDoorLaw03C
import Derived.Test.YtlbeobocppmifaaDoorLaw03O
import Derived.SizedLaws
namespace Go.Proofs.YtlbeobocppmifaaDoor
open Go.RowKit Go.Extern.Stop Go.Stop Go.Extern

/-- The rows of the call's own, whatever words they hold. -/
structure RowsAny (w : World) (B K : Nat) (rv : Value) (vs : List Value) (q : Nat) : Prop where
  own : w.ownsRow B 37 1 rv q vs
  row : ∀ i, i < q → ∃ g cap ws, vs.getD i nilS = .slice (some ⟨g, 0, none⟩) K cap ∧ ws.length = K ∧ Word ws ∧ w.ownsRow B 46 1 (.slice (some ⟨g, 0, none⟩) K cap) K (ws.map wordV)

theorem RowsOwn.any {w : World} {B K : Nat} {rv : Value} {vs : List Value} {M : List (List Nat)} (h : RowsOwn w B K rv vs M) : RowsAny w B K rv vs M.length :=
  ⟨h.own, fun i hi => by
    obtain ⟨g, cap, e, ho⟩ := h.row i hi
    have hm := h.word _ (getD_mem' hi)
    exact ⟨g, cap, M.getD i [], e, hm.2, hm.1, ho⟩⟩
theorem RowsAny.mono {w w' : World} {B K q : Nat} {rv : Value} {vs : List Value} (h : RowsAny w B K rv vs q) (hb : Below w.heap.size w w') : RowsAny w' B K rv vs q :=
  ⟨owns_kept h.own hb, fun i hi => by
    obtain ⟨g, cap, ws, e, h1, h2, h3⟩ := h.row i hi
    exact ⟨g, cap, ws, e, h1, h2, owns_kept h3 hb⟩⟩

/-- A word is turned: the rows stay rows, whichever of them share a block. -/
theorem RowsAny.turn {w : World} {B K q : Nat} {rv : Value} {vs : List Value} (h : RowsAny w B K rv vs q) {g cap k x : Nat} {ws : List Nat} (ho : w.ownsRow B 46 1 (.slice (some ⟨g, 0, none⟩) K cap) K (ws.map wordV)) (hx : x < 18446744073709551616) :
    RowsAny (w.setCell ⟨g, k, none⟩ (.int .u64 (x : Int))) B K rv vs q ∧ Below B w (w.setCell ⟨g, k, none⟩ (.int .u64 (x : Int))) := by
  obtain ⟨s1, s2⟩ := ho.stored k (.int .u64 (x : Int))
  refine ⟨⟨h.own.kept s2 (own_ne h.own ho (by decide)), fun i hi => ?_⟩, (Below.refl _ _).setCell (p := ⟨g, k, none⟩) (ho.lt g rfl).1 _⟩
  obtain ⟨g1, cap1, ws1, e, h1, h2, h3⟩ := h.row i hi
  by_cases hg : g1 = g
  · subst hg
    refine ⟨g1, cap1, ws1.set k x, e, by simpa using h1, h2.set k x hx, ?_⟩
    rw [List.map_set]
    exact (h3.stored k (.int .u64 (x : Int))).1
  · exact ⟨g1, cap1, ws1, e, h1, h2, h3.kept s2 (.inr (by intro e'; exact hg (by simpa [Value.ownBlock] using e')))⟩

theorem take_one {L : List (List Nat)} {k : Nat} (h : k < L.length) : L.take (k + 1) = L.take k ++ [L.getD k []] := by
  rw [List.take_succ_eq_append_getElem h]
  simp [h]

set_option maxRecDepth 1000000 in
set_option maxHeartbeats 8000000 in
theorem plains3 {w : World} (v : Value) (L : List (List Nat)) (n : Int) (h : MatAt wordV w v L) (hw : ∀ r ∈ L, Word r) (hs1 : L.length * 24 ≤ reachBytes) (hs2 : ∀ r ∈ L, r.length * 8 ≤ reachBytes) (hn : I64 n) (hT : Tab w) (hg : Laid w) :
    Calls Tryd.prog 6 #[v, .int .i64 n] w fun e w' => e = .returned (.bool true) ∧ Below w.heap.size w w' := by
  obtain ⟨i0, hi0, hz0, hz1, hz2⟩ := info_parts info_row
  obtain ⟨j0, hj0, jz0, jz1, jz2⟩ := info_parts info_u64
  have hreach : reachBytes ≤ 140737488355328 := by decide
  have HM := Lib.hid h
  have HW := Lib.hid hw
  have HN := Lib.hid hn
  have HT := Lib.hid hT
  have HG := Lib.hid hg
  have hL24 : L.length * 24 ≤ 140737488355328 := Nat.le_trans hs1 hreach
  have HR8 : Hid (∀ k, (L.getD k []).length * 8 ≤ 140737488355328) := Lib.hid fun k => by
    by_cases hk : k < L.length
    · exact Nat.le_trans (hs2 _ (getD_mem' hk)) hreach
    · rw [List.getD_eq_getElem?_getD, List.getElem?_eq_none (by omega)]; simp
  obtain ⟨a, cap, rfl, hcap, -, hcell⟩ := h.opens
  have HC := Lib.hid hcell
  clear h hw hn hT hg hs1 hs2 hcell hreach
  cases hb : bigB L n with
  | true =>
    have HBG := Lib.hid hb
    clear hb
    go_enter Tryd.func6, Tryd.ntmps6
    go_wp2_with fail
    refine (big_any _ L n HM.out).mono ?_
    rintro e w1 ⟨rfl, rfl⟩
    rw [HBG.out]
    go_wp2_with fail
    refine (awake3 HT.out).mono ?_
    rintro e wz ⟨rfl, hbz⟩
    have HBZ := Lib.hid hbz
    clear hbz
    go_wp2
    go_ret
    exact ⟨rfl, HBZ.out⟩
  | false =>
    have HBG := Lib.hid hb
    clear hb
    go_enter Tryd.func6, Tryd.ntmps6
    go_wp2_with fail
    refine (big_any _ L n HM.out).mono ?_
    rintro e w1 ⟨rfl, rfl⟩
    rw [HBG.out]
    go_wp2_with fail
    go_loopw [5, 6] (fun o i wr => ∃ k : Nat, k ≤ L.length ∧ i = .int .i64 k ∧ MatOwn wordV 46 w.heap.size 37 wr o (L.take k) ∧ Below w.heap.size w wr) (fun _ i _ => L.length - (intOf i).toNat)
    case atStart => exact ⟨0, Nat.zero_le _, rfl, MatOwn.start w (Nat.le_refl _), (Below.refl _ _).alloc (Nat.le_refl _) _⟩
    case round =>
      obtain ⟨k, hkl, rfl, ⟨vs, hown, hel⟩, hbel⟩ := hrel
      have hsz := hbel.size
      have hq0 : (L.take k).length = k := by rw [List.length_take]; omega
      by_cases hlt : k < L.length
      · obtain ⟨b, off, rfl, hcc⟩ := HC.out (by omega)
        obtain ⟨x, hx, hlx⟩ := hcc k hlt
        have hx1 := (hbel.cell (p := ⟨b, off + k, none⟩) (World.block_lt_of_cell? w _ hx)).trans hx
        have hx2 := (((Below.refl wr.heap.size wr).alloc (Nat.le_refl _) (.cells #[] 46)).cell (p := ⟨b, off + k, none⟩) (World.block_lt_of_cell? wr _ hx1)).trans hx1
        have HLX2 := Lib.hid ((hlx.mono hbel).mono ((Below.refl wr.heap.size wr).alloc (Nat.le_refl _) (.cells #[] 46)))
        have hr8 := HR8.out k
        have HQ := Lib.hid hq0
        have HO := Lib.hid hown
        rw [hq0] at HO
        have HEL := Lib.hid hel
        have HB := Lib.hid hbel
        have HS := Lib.hid (take_one hlt)
        have HO0 := Lib.hid (World.ownsRow_made (base := wr.heap.size) (e := 46) (size := 1) wr #[] 0 (Nat.le_refl _) (by decide) rfl)
        have HB0 := Lib.hid ((Below.refl wr.heap.size wr).alloc (Nat.le_refl _) (.cells #[] 46))
        obtain ⟨ax, cx, rfl, -, -, -⟩ := hlx
        clear hcc hx hown hel hbel hq0
        generalize L.getD k [] = r at *
        go_wp2_with (first
          | (at_builtin; refine wpList_append_of (f := wordV) _ rfl (.tmp 25) (.tmp 29) 37 rfl wr.heap.size 46 j0 (.int .u64 0) 8 Tryd.underlying37 hj0 jz0 jz1 jz2 rfl _ 0 [] rfl HO0.out _ r rfl HLX2.out (fun y _ => rfl) (by unfold maxLen; omega) (by omega) (by simp) ?_; intro o1 w1 hown1 hgrow1; have hb1 := HB0.out.grown hgrow1 (by simp) (fun k hk => (HO0.out.lt k hk).1); rw [Nat.zero_add, List.nil_append] at hown1; have HEN : Hid (ElAt wordV 46 w.heap.size w1 o1 r) := Lib.hid (ElAt.own hown1); have HO3 := Lib.hid (owns_kept HO.out hb1); have HEL3 := Lib.hid (fun i => (HEL.out i).mono hb1); have HB3 := Lib.hid (HB.out.trans (hb1.mono hsz)); have hsz1 := HB3.out.size; obtain ⟨a1, c1, rfl, -, -⟩ := own_open hown1; clear hown1 hgrow1 hb1)
          | (at_builtin; refine wpList_append_own _ rfl (.tmp 24) (.tmp 31) 22 rfl w.heap.size 37 i0 (.slice none 0 0) 1 24 Tryd.underlying22 hi0 hz0 hz1 hz2 rfl (by decide) u5 k vs rfl (HO3.out.alloc _) ⟨w1.heap.size, 0, none⟩ 1 1 [.slice a1 r.length c1] rfl rfl (cell_one_new _ _ _) (fun x hx => by simp at hx; subst hx; rfl) (by unfold maxLen; omega) (by omega) (by simp; omega) ?_; intro v2 w2 hown2 hgrow2 _; have hb2 := Lib.hid ((HB3.out.alloc hsz1 _).grown hgrow2 (by simp; omega) (fun k hk => (HO3.out.lt k hk).1)); have ho2 : Hid (MatOwn wordV 46 w.heap.size 37 w2 v2 (L.take k ++ [r])) := Lib.hid (MatOwn.app (by decide) (by rw [HQ.out]; exact HO3.out) HEL3.out HEN.out (by rw [HQ.out]; exact hown2) hgrow2); clear hown2 hgrow2))
        go_roundw
        case rel => exact ⟨k + 1, by omega, by go_num, by rw [HS.out]; exact ho2.out, hb2.out⟩
        case measure => simp [intOf]; omega
      · have hk' : k = L.length := by omega
        have hM := MatOwn.at ⟨vs, hown, hel⟩
        rw [hk', List.take_length] at hM
        have HOW := Lib.hid hM
        have HB := Lib.hid hbel
        obtain ⟨oa, oc, rfl, -, -, -⟩ := hM.opens
        clear hown hel hbel hM hq0
        by_cases hk0 : checkM L n = 0
        · obtain ⟨m, rfl, hok⟩ := checkM_zero HW.out hk0
          have HOK := Lib.hid hok
          have HK := Lib.hid hk0
          have hm4 := hok.cols
          have hK64 := kOf_le hm4
          clear hok hk0
          go_wp2_with fail
          refine (Plain_ok _ L m HOW.out HOK.out (HT.out.mono HB.out)).mono ?_
          rintro e w2 ⟨rv, vs2, M, rfl, hr, hpf, hse, hokM, hb2⟩
          have HR := Lib.hid hr
          have HPF := Lib.hid hpf
          have HSE := Lib.hid hse
          have HOKM := Lib.hid hokM
          have hml := hokM.rows
          have HOW2 := Lib.hid (HOW.out.mono hb2)
          have HB2 := Lib.hid (HB.out.trans (hb2.mono HB.out.size))
          have HBR2 := Lib.hid hb2
          have hszr := HB.out.size
          have hsz2 := hb2.size
          obtain ⟨ra, rc, rfl, -, hra⟩ := own_open hr.own
          have HRA := Lib.hid hra
          clear hr hpf hse hokM hb2 hra
          go_wp2_with fail
          refine (refCheck_any _ L (m : Int) (HM.out.mono HB2.out) HW.out).mono ?_
          rintro e w3 ⟨rfl, rfl⟩
          rw [HK.out]
          go_wp2_with fail
          refine (tells_nil _).mono ?_
          rintro e w3 ⟨rfl, rfl⟩
          go_wp2_with fail
          refine (refSame_any _ _ L HOW2.out (HM.out.mono HB2.out)).mono ?_
          rintro e w3 ⟨rfl, hb3⟩
          have HR3 := Lib.hid (HR.out.mono hb3)
          have HOW3 := Lib.hid (HOW2.out.mono hb3)
          have HB3 := Lib.hid (HB2.out.trans (hb3.mono HB2.out.size))
          have HBR3 := Lib.hid (HBR2.out.trans (hb3.mono hsz2))
          have hsz3 := hb3.size
          clear hb3
          go_wp2_with fail
          refine (refPlain_any _ L m (HM.out.mono HB3.out) HOK.out).mono ?_
          rintro e w4 ⟨pv, M2, rfl, hp4, hwd, hpf4, hse4, hb4⟩
          have hMM : M2 = M := words_of_vecs (k := kOf m) hwd HR.out.word (PF_unique hpf4 HPF.out (hse4.trans HSE.out.symm))
          subst hMM
          have HP4 := Lib.hid hp4
          have HR4 := Lib.hid (HR3.out.mono hb4)
          have HOW4 := Lib.hid (HOW3.out.mono hb4)
          have HB4 := Lib.hid (HB3.out.trans (hb4.mono HB3.out.size))
          have HBR4 := Lib.hid (HBR3.out.trans (hb4.mono (by omega)))
          have hsz4 := hb4.size
          obtain ⟨pa, pc, rfl, -, -, -⟩ := hp4.opens
          clear hp4 hwd hpf4 hse4 hb4
          go_wp2_with fail
          refine (refSame_any _ _ M2 HR4.out.at HP4.out).mono ?_
          rintro e w5 ⟨rfl, hb5⟩
          have HA5 := Lib.hid ((HR4.out.mono hb5).any)
          have HOW5 := Lib.hid (HOW4.out.mono hb5)
          have HB5 := Lib.hid (HB4.out.trans (hb5.mono HB4.out.size))
          have HBR5 := Lib.hid (HBR4.out.trans (hb5.mono (by omega)))
          have hsz5 := hb5.size
          have hszr5 : wr.heap.size ≤ w5.heap.size := by omega
          have hszw5 : w.heap.size ≤ w5.heap.size := by omega
          clear hb5
          have HFIN : Hid (∀ wx, Below wr.heap.size w5 wx → MatAt wordV wx (.slice oa L.length oc) L ∧ MatAt wordV wx (.slice a L.length cap) L ∧ Below w.heap.size w wx) := Lib.hid fun wx hb =>
            have hb' := HBR5.out.trans hb
            have hw' := HB.out.trans (hb'.mono hszr)
            ⟨HOW.out.mono hb', HM.out.mono hw', hw'⟩
          clear HOW HOW2 HOW3 HOW4 HOW5 HBR2 HBR3 HBR4 HBR5 HB HB2 HB3 HB4 HB5 HR HR3 HR4 HP4 HPF HSE HOKM
          generalize wr.heap.size = H0 at *
          generalize M2.length = q at *
          generalize kOf m = K at *
          go_wp2_with fail
          go_loopw [11] (fun i wx => ∃ k : Nat, k ≤ q ∧ i = .int .i64 k ∧ RowsAny wx H0 K (.slice ra q rc) vs2 q ∧ Below H0 w5 wx) (fun i _ => q - (intOf i).toNat)
          case atStart => exact ⟨0, Nat.zero_le _, rfl, HA5.out, Below.refl _ _⟩
          case round =>
            obtain ⟨k2, hk2, rfl, hA, hbx⟩ := hrel
            have HA := Lib.hid hA
            have HBX := Lib.hid hbx
            by_cases hlt2 : k2 < q
            · obtain ⟨g0, rfl⟩ := HRA.out (by omega)
              clear hA hbx
              go_wp2_with fail
              go_loopw [12] (fun j wy => ∃ k3 : Nat, k3 ≤ K ∧ j = .int .i64 k3 ∧ RowsAny wy H0 K (.slice (some ⟨g0, 0, none⟩) q rc) vs2 q ∧ Below H0 w5 wy) (fun j _ => K - (intOf j).toNat)
              case atStart => exact ⟨0, Nat.zero_le _, rfl, HA.out, HBX.out⟩
              case round =>
                obtain ⟨k3, hk3, rfl, hA3, hbx3⟩ := hrel
                obtain ⟨g, cg, ws, eg, hwl, hww, hwo⟩ := hA3.row k2 hlt2
                have hvl : vs2.length = q := by have := hA3.own.1; omega
                have hrc := hA3.own.cellAt k2 (by omega)
                have hrg : vs2[k2]? = some (.slice (some ⟨g, 0, none⟩) K cg) := by
                  have : k2 < vs2.length := by omega
                  rw [← eg]; simp [this]
                rw [hrg] at hrc
                by_cases hlt3 : k3 < K
                · have hxc := hwo.cellAt k3 (by omega)
                  have hxg : (ws.map wordV)[k3]? = some (.int .u64 ((ws.getD k3 0 : Nat) : Int)) := by
                    have : k3 < ws.length := by omega
                    simp [this, wordV]
                  rw [hxg] at hxc
                  have hxf := hwo.frozenAt k3
                  have hxlt := hww.getD k3
                  have hbn := not_u64 (ws.getD k3 0) hxlt
                  have hnlt : 18446744073709551615 ^^^ ws.getD k3 0 < 18446744073709551616 := Nat.xor_lt_two_pow (n := 64) (by decide) hxlt
                  have HTN := Lib.hid (hA3.turn (k := k3) hwo hnlt)
                  have HBY := Lib.hid hbx3
                  clear hA3 hbx3 hwo hwl hww eg hrg hxg hnlt
                  generalize ws.getD k3 0 = x at *
                  generalize 18446744073709551615 ^^^ x = x' at *
                  go_wp2_with fail
                  go_region
                  all_goals go_wp2
                  exact ⟨⟨k3 + 1, by omega, by go_num, HTN.out.1.mono (Below.refl _ _).drew, (HBY.out.trans HTN.out.2).drew⟩, by simp [intOf]; omega⟩
                · have HA4 := Lib.hid hA3
                  have HB4 := Lib.hid hbx3
                  clear hA3 hbx3 hwo hwl hww eg hrg
                  go_wp2
                  go_roundw
                  case rel => exact ⟨k2 + 1, by omega, by go_num, HA4.out, HB4.out⟩
                  case measure => simp [intOf]; omega
            · obtain ⟨f1, f2, f3⟩ := HFIN.out _ hbx
              have HF1 := Lib.hid f1
              have HF2 := Lib.hid f2
              have HF3 := Lib.hid f3
              clear hA hbx f1 f2 f3
              go_wp2_with fail
              refine (refSame_any _ _ L HF1.out HF2.out).mono ?_
              rintro e w6 ⟨rfl, hb6⟩
              have HB6 := Lib.hid (HF3.out.trans (hb6.mono HF3.out.size))
              clear hb6
              go_wp2_with fail
              refine (awake3 (HT.out.mono HB6.out)).mono ?_
              rintro e wz ⟨rfl, hbz⟩
              have HBZ := Lib.hid (HB6.out.trans (hbz.mono HB6.out.size))
              clear hbz
              go_wp2
              go_ret
              exact ⟨rfl, HBZ.out⟩
        · have HK0 := Lib.hid hk0
          have hkb := ne_bool hk0
          generalize hkk : checkM L n = kk at *
          have HK := Lib.hid hkk
          clear hk0 hkk
          go_wp2_with fail
          refine (Plain_bad _ L n HOW.out HW.out HN.out (by rw [HK.out]; exact HK0.out)).mono ?_
          rintro e w2 ⟨E2, rfl, hE2, hb2⟩
          rw [HK.out] at hE2
          have HE2 := Lib.hid hE2
          have HOW2 := Lib.hid (HOW.out.mono hb2)
          have HB2 := Lib.hid (HB.out.trans (hb2.mono HB.out.size))
          clear hE2 hb2
          go_wp2_with fail
          refine (refCheck_any _ L n (HM.out.mono HB2.out) HW.out).mono ?_
          rintro e w3 ⟨rfl, rfl⟩
          rw [HK.out]
          go_wp2_with fail
          refine (tells_ans kk namePlain _ HE2.out (HG.out.mono HB2.out)).mono ?_
          rintro e w3 ⟨rfl, hb3⟩
          have HOW3 := Lib.hid (HOW2.out.mono hb3)
          have HB3 := Lib.hid (HB2.out.trans (hb3.mono HB2.out.size))
          clear hb3
          go_wp2_with fail
          refine (refSame_any _ _ L HOW3.out (HM.out.mono HB3.out)).mono ?_
          rintro e w4 ⟨rfl, hb4⟩
          have HB4 := Lib.hid (HB3.out.trans (hb4.mono HB3.out.size))
          clear hb4
          go_wp2_with fail
          refine (awake3 (HT.out.mono HB4.out)).mono ?_
          rintro e wz ⟨rfl, hbz⟩
          have HBZ := Lib.hid (HB4.out.trans (hbz.mono HB4.out.size))
          clear hbz
          go_wp2
          go_ret
          exact ⟨rfl, HBZ.out⟩
end Go.Proofs.YtlbeobocppmifaaDoor
