/- Package geyserref03: Rank, Plain, Picks, Spans. -/
import Derived.Test.YtlbeobocppmifaaDoorMxRefD
namespace Go.Proofs.YtlbeobocppmifaaDoor
open Go.RowKit Go.Extern.Stop Go.Stop Go.Extern

theorem MatOk.len {L : List (List Nat)} {n : Nat} (h : MatOk L n) (k : Nat) : (L.getD k []).length ≤ 100000 := by
  by_cases hk : k < L.length
  · rw [(h.whole _ (getD_mem' hk)).1]
    have := kOf_le h.cols
    omega
  · rw [List.getD_eq_getElem?_getD, List.getElem?_eq_none (by omega)]; simp
theorem MatOk.take {L : List (List Nat)} {n : Nat} (h : MatOk L n) (k : Nat) : MatOk (L.take k) n := h.sub (fun _ hr => List.mem_of_mem_take hr) (by have := h.rows; rw [List.length_take]; omega)
theorem allB_rows (L : List (List Nat)) (n : Nat) : RowsLen (allB L n) n := fun k hk => by
  unfold allB at hk ⊢
  rw [List.length_map] at hk
  simp [hk, truthsB_length]
theorem allB_length (L : List (List Nat)) (n : Nat) : (allB L n).length = L.length := by simp [allB]

set_option maxRecDepth 1000000 in
set_option maxHeartbeats 1000000 in
theorem refRank_any {w : World} (v : Value) (L : List (List Nat)) (n : Nat) (h : MatAt wordV w v L) (hm : MatOk L n) :
    Calls Tryd.prog 17 #[v, .int .i64 (n : Int)] w fun e w' => e = .returned (.int .i64 ((rk (vecs L) : Nat) : Int)) ∧ Below w.heap.size w w' := by
  have HM := Lib.hid h
  have HW := Lib.hid hm.words
  have HLN := Lib.hid hm.len
  have HV := Lib.hid (vecsB_all hm)
  have hn := hm.cols
  have hl : L.length ≤ 100000 := by have := hm.rows; omega
  obtain ⟨a, cap, rfl, -, -, -⟩ := h.opens
  clear h hm
  go_enter Tryd.func17, Tryd.ntmps17
  go_wp2_with fail
  refine (All_any _ L n HM.out HW.out HLN.out hn hl).mono ?_
  rintro e w1 ⟨v1, rfl, hv1, hb1⟩
  have HM1 := Lib.hid hv1
  have HB1 := Lib.hid hb1
  have hsz1 := hb1.size
  obtain ⟨a1, c1, rfl, -, -, -⟩ := hv1.opens
  clear hv1 hb1
  go_wp2_with fail
  refine (Gauss_any _ (allB L n) n HM1.out (allB_rows L n) hn (by rw [allB_length]; exact hl)).mono ?_
  rintro e w2 ⟨v2, R, rfl, hv2, -, hpf, hsp, -, hb2⟩
  have HR : Hid (R.length = rk (vecs L)) := Lib.hid (by
    have := hpf.rank hsp
    rw [vecsB_length, HV.out] at this
    exact this)
  have HB2 := Lib.hid (HB1.out.trans (hb2.mono hsz1))
  obtain ⟨a2, c2, rfl, -, -, -⟩ := hv2.opens
  clear hv2 hb2 hpf hsp
  go_wp2
  go_ret
  exact ⟨by rw [HR.out]; rfl, HB2.out⟩

/-! ### Plain -/
theorem words_take {R : List (List Bool)} {k : Nat} (h : k < R.length) : (R.take (k + 1)).map wordsB = (R.take k).map wordsB ++ [wordsB (R.getD k [])] := by
  rw [List.take_succ_eq_append_getElem h, List.map_append]
  simp [h]

set_option maxRecDepth 1000000 in
set_option maxHeartbeats 1000000 in
theorem refPlain_any {w : World} (v : Value) (L : List (List Nat)) (n : Nat) (h : MatAt wordV w v L) (hm : MatOk L n) :
    Calls Tryd.prog 25 #[v, .int .i64 (n : Int)] w fun e w' => ∃ v' M, e = .returned v' ∧ MatAt wordV w' v' M ∧ (∀ r ∈ M, Word r ∧ r.length = kOf n) ∧ PF (vecs M) ∧ SpEq (vecs M) (vecs L) ∧ Below w.heap.size w w' := by
  obtain ⟨i0, hi0, hz0, hz1, hz2⟩ := info_parts info_row
  have HM := Lib.hid h
  have HW := Lib.hid hm.words
  have HLN := Lib.hid hm.len
  have HV := Lib.hid (vecsB_all hm)
  have hn := hm.cols
  have hl : L.length ≤ 100000 := by have := hm.rows; omega
  obtain ⟨a, cap, rfl, -, -, -⟩ := h.opens
  clear h hm
  go_enter Tryd.func25, Tryd.ntmps25
  go_wp2_with fail
  refine (All_any _ L n HM.out HW.out HLN.out hn hl).mono ?_
  rintro e w1 ⟨v1, rfl, hv1, hb1⟩
  have HM1 := Lib.hid hv1
  have HB1 := Lib.hid hb1
  have hsz1 := hb1.size
  obtain ⟨a1, c1, rfl, -, -, -⟩ := hv1.opens
  clear hv1 hb1
  go_wp2_with fail
  refine (Gauss_any _ (allB L n) n HM1.out (allB_rows L n) hn (by rw [allB_length]; exact hl)).mono ?_
  rintro e w2 ⟨v2, R, rfl, hv2, hrl, hpf, hsp, hRL, hb2⟩
  have HRES : Hid ((∀ r ∈ R.map wordsB, Word r ∧ r.length = kOf n) ∧ PF (vecs (R.map wordsB)) ∧ SpEq (vecs (R.map wordsB)) (vecs L)) := Lib.hid (by
    refine ⟨fun r hr => ?_, by rw [vecs_words]; exact hpf, by rw [vecs_words, ← HV.out]; exact hsp⟩
    obtain ⟨b, hb, rfl⟩ := List.mem_map.1 hr
    obtain ⟨k, hk, rfl⟩ := List.getElem_of_mem hb
    have e := hrl k hk
    have e2 : R.getD k [] = R[k] := by simp [hk]
    rw [e2] at e
    obtain ⟨f1, f2, _⟩ := wordsB_spec R[k]
    exact ⟨f1, by rw [f2, e]⟩)
  have HRN := Lib.hid hrl
  have HB2 := Lib.hid (HB1.out.trans (hb2.mono hsz1))
  have hsz2 := HB2.out.size
  have hRl : R.length ≤ 100000 := by rw [allB_length] at hRL; omega
  obtain ⟨a2, c2, rfl, hcap2, hcm2, hcell2⟩ := hv2.opens
  have HC2 := Lib.hid hcell2
  have HB2A : Hid (Below w2.heap.size w2 (w2.alloc (.cells #[] 37))) := Lib.hid ((Below.refl _ _).alloc (Nat.le_refl _) _)
  clear hv2 hb2 hpf hsp hcell2 hrl HB1 HM1 hRL
  go_wp2
  go_loopw [6, 7] (fun o i wr => ∃ k : Nat, k ≤ R.length ∧ i = .int .i64 k ∧ MatOwn wordV 46 w2.heap.size 37 wr o ((R.take k).map wordsB) ∧ Below w2.heap.size w2 wr) (fun _ i _ => R.length - (intOf i).toNat)
  case atStart => exact ⟨0, Nat.zero_le _, rfl, MatOwn.start w2 (Nat.le_refl _), HB2A.out⟩
  case round =>
    obtain ⟨k, hk, rfl, ⟨vs, hown, hel⟩, hbel⟩ := hrel
    have hsz := hbel.size
    by_cases hlt : k < R.length
    · obtain ⟨b, off, rfl, hcc⟩ := HC2.out (by omega)
      obtain ⟨x, hx, hlx⟩ := hcc k hlt
      have HLX := Lib.hid (hlx.mono hbel)
      obtain ⟨ax, cx, rfl, -, -, -⟩ := hlx
      have hx1 : wr.cell? ⟨b, off + k, none⟩ = some (.slice ax (R.getD k []).length cx) := (hbel.cell (p := ⟨b, off + k, none⟩) (World.block_lt_of_cell? w2 _ hx)).trans hx
      have HQ : Hid (((R.take k).map wordsB).length = k) := Lib.hid (by rw [List.length_map, List.length_take]; omega)
      have HO := Lib.hid hown
      rw [HQ.out] at HO
      have HEL := Lib.hid hel
      have HB := Lib.hid hbel
      have HS := Lib.hid (words_take hlt)
      have HRK := Lib.hid (HRN.out k hlt)
      clear hcc hx hown hel hbel
      generalize R.getD k [] = r at *
      go_wp2_with fail
      refine (Words_any _ r HLX.out (by rw [HRK.out]; exact hn)).mono ?_
      rintro e w3 ⟨vn, nn, rfl, hvn, hbn⟩
      have HEN : Hid (ElAt wordV 46 w2.heap.size w3 vn (wordsB r)) := Lib.hid (ElAt.own hvn)
      have HO3 := Lib.hid (owns_kept HO.out hbn)
      have HEL3 := Lib.hid (fun i => (HEL.out i).mono hbn)
      have HB3 := Lib.hid (HB.out.trans (hbn.mono hsz))
      have hsz3 := HB3.out.size
      obtain ⟨an, cn, rfl, -, -⟩ := own_open hvn
      clear hvn hbn HEL HO HB HLX
      go_wp2_with (at_builtin; refine wpList_append_own _ rfl (.tmp 20) (.tmp 26) 22 rfl w2.heap.size 37 i0 (.slice none 0 0) 1 24 Tryd.underlying22 hi0 hz0 hz1 hz2 rfl (by decide) u6 k vs rfl (HO3.out.alloc _) ⟨w3.heap.size, 0, none⟩ 1 1 [.slice an nn cn] rfl rfl (cell_one_new _ _ _) (fun x hx => by simp at hx; subst hx; rfl) (by unfold maxLen; omega) (by omega) (by simp; omega) ?_; intro v2 w4 hown1 hgrow1 _; have hb2 := Lib.hid ((HB3.out.alloc hsz3 _).grown hgrow1 (by simp; omega) (fun k hk => (HO3.out.lt k hk).1)); have ho2 : Hid (MatOwn wordV 46 w2.heap.size 37 w4 v2 ((R.take k).map wordsB ++ [wordsB r])) := Lib.hid (MatOwn.app (by decide) (by rw [HQ.out]; exact HO3.out) HEL3.out HEN.out (by rw [HQ.out]; exact hown1) hgrow1); clear hown1 hgrow1)
      go_roundw
      case rel => exact ⟨k + 1, by omega, by go_num, by rw [HS.out]; exact ho2.out, hb2.out⟩
      case measure => simp [intOf]; omega
    · have hk' : k = R.length := by omega
      have HMM := Lib.hid (MatOwn.at ⟨vs, hown, hel⟩)
      rw [hk', List.take_length] at HMM
      have HB := Lib.hid (HB2.out.trans (hbel.mono hsz2))
      clear hown hel hbel
      go_wp2
      go_ret
      exact ⟨_, _, rfl, HMM.out, HRES.out.1, HRES.out.2.1, HRES.out.2.2, HB.out⟩

/-! ### Picks, Spans -/
theorem refRank_pre {w wr : World} {a : Option Addr} {cap : Nat} (L : List (List Nat)) (n k : Nat) (h : MatAt wordV w (.slice a L.length cap) L) (hm : MatOk L n) (hk : k ≤ L.length) (hb : Below w.heap.size w wr) :
    Calls Tryd.prog 17 #[.slice a k cap, .int .i64 (n : Int)] wr fun e w' => e = .returned (.int .i64 ((rk ((vecs L).take k) : Nat) : Int)) ∧ Below wr.heap.size wr w' := by
  have := refRank_any _ (L.take k) n ((h.take k hk).mono hb) (hm.take k)
  rwa [vecs_take] at this

set_option maxRecDepth 1000000 in
set_option maxHeartbeats 4000000 in
theorem refPicks_any {w : World} (v : Value) (L : List (List Nat)) (n : Nat) (h : MatAt wordV w v L) (hm : MatOk L n) :
    Calls Tryd.prog 19 #[v, .int .i64 (n : Int)] w fun e w' => ∃ v', e = .returned v' ∧ ListAt colV w' v' (picksTo (vecs L) L.length) ∧ Below w.heap.size w w' := by
  obtain ⟨i0, hi0, hz0, hz1, hz2⟩ := info_parts info_int
  have HM0 := Lib.hid h
  have HOK := Lib.hid hm
  have hn := hm.cols
  have hl : L.length ≤ 100000 := by have := hm.rows; omega
  obtain ⟨ad, cap, rfl, hcap, hcm, hcell⟩ := h.opens
  have HAD : Hid (0 < L.length → ∃ b off, ad = some ⟨b, off, none⟩) := Lib.hid fun hp => by
    obtain ⟨b, off, e, _⟩ := hcell hp
    exact ⟨b, off, e⟩
  clear hcell h hm
  go_enter Tryd.func19, Tryd.ntmps19
  go_wp2
  go_loopw [5, 6] (fun o i wr => ∃ k : Nat, k ≤ L.length ∧ i = .int .i64 k ∧ wr.ownsRow w.heap.size 3 1 o (picksTo (vecs L) k).length ((picksTo (vecs L) k).map colV) ∧ Below w.heap.size w wr) (fun _ i _ => L.length - (intOf i).toNat)
  case atStart => exact ⟨0, Nat.zero_le _, rfl, World.ownsRow_made (base := w.heap.size) (e := 3) (size := 1) w #[] 0 (Nat.le_refl _) (by decide) rfl, (Below.refl _ _).alloc (Nat.le_refl _) _⟩
  case round =>
    obtain ⟨k, hk, rfl, hown, hbel⟩ := hrel
    have hsz := hbel.size
    have hq := picksTo_le (vecs L) k
    by_cases hlt : k < L.length
    · obtain ⟨b, off, rfl⟩ := HAD.out (by omega)
      have hvl : k < (vecs L).length := by rw [vecs_length]; exact hlt
      have HR1 : Hid (∀ wx : World, Below wr.heap.size wr wx → Calls Tryd.prog 17 #[.slice (some ⟨b, off, none⟩) (k + 1) cap, .int .i64 (n : Int)] wx fun e w' => e = .returned (.int .i64 ((rk ((vecs L).take (k + 1)) : Nat) : Int)) ∧ Below wr.heap.size wr w') := Lib.hid fun wx hb =>
        (refRank_pre L n (k + 1) HM0.out HOK.out (by omega) (hbel.trans (hb.mono hsz))).mono fun e w' ⟨he, hb'⟩ => ⟨he, hb.trans (hb'.mono hb.size)⟩
      have HR0 : Hid (∀ wx : World, Below wr.heap.size wr wx → Calls Tryd.prog 17 #[.slice (some ⟨b, off, none⟩) k cap, .int .i64 (n : Int)] wx fun e w' => e = .returned (.int .i64 ((rk ((vecs L).take k) : Nat) : Int)) ∧ Below wr.heap.size wr w') := Lib.hid fun wx hb =>
        (refRank_pre L n k HM0.out HOK.out (by omega) (hbel.trans (hb.mono hsz))).mono fun e w' ⟨he, hb'⟩ => ⟨he, hb.trans (hb'.mono hb.size)⟩
      have HCASE : Hid ((rk ((vecs L).take (k + 1)) = rk ((vecs L).take k) ∧ picksTo (vecs L) (k + 1) = picksTo (vecs L) k) ∨ (rk ((vecs L).take (k + 1)) = rk ((vecs L).take k) + 1 ∧ picksTo (vecs L) (k + 1) = picksTo (vecs L) k ++ [k])) := Lib.hid (by
        by_cases hs : Sp ((vecs L).take k) ((vecs L).getD k vzero)
        · exact .inl ⟨rk_take_in hvl hs, picksTo_in hs⟩
        · exact .inr ⟨rk_take_out hvl hs, picksTo_out hs⟩)
      have HB := Lib.hid hbel
      have HO0 := Lib.hid hown
      have HBR : Hid (Below wr.heap.size wr wr.drew) := Lib.hid (Below.refl _ _).drew
      have e1 : IntKind.i64.wrap ((k : Int) + 1) = (k : Int) + 1 := IntWalk.i64_in _ (by omega)
      have e2 : ((k : Int) + 1).toNat = k + 1 := by omega
      have e3 : (0 : Int) ≤ (k : Int) + 1 := by omega
      have hc1 : (k : Int) + 1 ≤ (cap : Int) := by omega
      have hc2 : (k : Int) ≤ (cap : Int) := by omega
      have hc0 : (0 : Int) ≤ (k : Int) := by omega
      clear hown hbel hvl
      generalize rk ((vecs L).take (k + 1)) = m1 at *
      generalize rk ((vecs L).take k) = m0 at *
      go_wp2_with fail
      go_region_with (first
        | (go_at_call 17; (with_reducible refine (HR1.out _ ?_).mono ?_); (first | exact HBR.out | assumption); rintro e wA ⟨rfl, hbA⟩)
        | (go_at_call 17; (with_reducible refine (HR0.out _ ?_).mono ?_); (first | exact HBR.out | assumption); rintro e wB ⟨rfl, hbB⟩))
      all_goals clear e1 e2 e3
      have HO := Lib.hid (owns_kept HO0.out hbB)
      have HB3 := Lib.hid (HB.out.trans (hbB.mono hsz))
      have hszB := HB3.out.size
      clear hbA hbB HBR HR0 HR1 HO0 HB
      rcases HCASE.out with ⟨hm, hp⟩ | ⟨hm, hp⟩
      · have HP := Lib.hid hp
        subst hm
        clear HCASE hp
        go_wp2
        go_roundw
        case rel => exact ⟨k + 1, by omega, by go_num, by rw [HP.out]; exact HO.out, HB3.out⟩
        case measure => simp [intOf]; omega
      · have HP := Lib.hid hp
        have hlt2 : (m0 : Int) < (m1 : Int) := by omega
        clear HCASE hp hm
        have HOA := Lib.hid (HO.out.alloc (.cells #[.int .i64 (k : Int)] 3))
        generalize hqe : (picksTo (vecs L) k).length = q at *
        have HQ := Lib.hid hqe
        clear hqe
        go_wp2_with (at_builtin; refine wpList_append_own _ rfl (.tmp 26) (.tmp 28) 32 rfl w.heap.size 3 i0 (.int .i64 0) 1 8 Tryd.underlying32 hi0 hz0 hz1 hz2 rfl (by decide) u5 q ((picksTo (vecs L) k).map colV) rfl HOA.out ⟨wB.heap.size, 0, none⟩ 1 1 [.int .i64 (k : Int)] rfl rfl (cell_one_new _ _ _) (fun x hx => by simp at hx; subst hx; rfl) (by unfold maxLen; omega) (by omega) (by simp; omega) ?_; intro v2 w2 hown1 hgrow1 _; have hb2 := Lib.hid ((HB3.out.alloc hszB _).grown hgrow1 (by simp; omega) (fun k hk => (HOA.out.lt k hk).1)); have ho2 := Lib.hid hown1; clear hown1 hgrow1)
        go_roundw
        case rel => exact ⟨k + 1, by omega, by go_num, by rw [HP.out]; exact own_snoc HQ.out ho2.out, hb2.out⟩
        case measure => simp [intOf]; omega
    · have hk' : k = L.length := by omega
      have HLA : Hid (ListAt colV wr u5 (picksTo (vecs L) L.length)) := Lib.hid (by have := hown; rw [hk'] at this; exact ListAt.of_owns this)
      have HB := Lib.hid hbel
      clear hown hbel
      go_wp2
      go_ret
      exact ⟨_, rfl, HLA.out, HB.out⟩

set_option maxRecDepth 1000000 in
set_option maxHeartbeats 2000000 in
theorem refSpans_any {w : World} (v x : Value) (L : List (List Nat)) (r : List Nat) (n : Nat) (h : MatAt wordV w v L) (hx : ListAt wordV w x r) (hm : MatOk L n) (hm2 : MatOk (L ++ [r]) n) :
    Calls Tryd.prog 22 #[v, .int .i64 (n : Int), x] w fun e w' => ∃ bt, e = .returned (.bool bt) ∧ (bt = true ↔ Sp (vecs L) (bitW r)) ∧ Below w.heap.size w w' := by
  obtain ⟨i0, hi0, hz0, hz1, hz2⟩ := info_parts info_row
  have HM0 := Lib.hid h
  have HOK := Lib.hid hm
  have HOK2 := Lib.hid hm2
  have HCASE : Hid ((rk (vecs (L ++ [r])) = rk (vecs L) ∧ Sp (vecs L) (bitW r)) ∨ (rk (vecs (L ++ [r])) = rk (vecs L) + 1 ∧ ¬ Sp (vecs L) (bitW r))) := Lib.hid (by
    have e : vecs (L ++ [r]) = vecs L ++ [bitW r] := vecs_append L [r]
    rw [e]
    by_cases hs : Sp (vecs L) (bitW r)
    · exact .inl ⟨rk_in hs, hs⟩
    · exact .inr ⟨rk_out hs, hs⟩)
  have hl : L.length ≤ 100000 := by have := hm.rows; omega
  obtain ⟨vs, hvs, hvl, hel⟩ := h
  have HB0 := Lib.hid ((Below.refl w.heap.size w).alloc (Nat.le_refl _) (.cells #[] 37))
  have HO0 := Lib.hid (World.ownsRow_made (base := w.heap.size) (e := 37) (size := 1) w #[] 0 (Nat.le_refl _) (by decide) rfl)
  have HVA := Lib.hid (hvs.mono HB0.out)
  have HSL := Lib.hid (MatAt.slices hel)
  have HEL := Lib.hid hel
  have HX := Lib.hid hx
  obtain ⟨ax, cx, rfl, -, -, -⟩ := hx
  obtain ⟨a, cap, rfl, -, -, -⟩ := hvs
  generalize hq : vs.length = q at *
  have HVL := Lib.hid hvl
  rw [← hvl] at hl
  clear hm hm2 hel hvl
  go_enter Tryd.func22, Tryd.ntmps22
  go_wp2_with (first
    | (at_builtin; refine wpList_append_of (f := id) _ rfl (.tmp 8) (.tmp 9) 22 rfl w.heap.size 37 i0 (.slice none 0 0) 24 Tryd.underlying22 hi0 hz0 hz1 hz2 rfl _ 0 [] rfl HO0.out _ vs rfl HVA.out HSL.out (by rw [hq]; unfold maxLen; omega) (by rw [hq]; omega) (by simp) ?_; intro o w1 hown1 hgrow1; have hb1 := HB0.out.grown hgrow1 (by simp) (fun k hk => (HO0.out.lt k hk).1); rw [hq, Nat.zero_add, List.nil_append, List.map_id] at hown1; have HO1 := Lib.hid hown1; have HB1 := Lib.hid hb1; have hsz1 := hb1.size; clear hown1 hgrow1 hb1)
    | (at_builtin; refine wpList_append_own _ rfl (.tmp 11) (.tmp 13) 22 rfl w.heap.size 37 i0 (.slice none 0 0) 1 24 Tryd.underlying22 hi0 hz0 hz1 hz2 rfl (by decide) o q vs rfl (HO1.out.alloc _) ⟨w1.heap.size, 0, none⟩ 1 1 [.slice ax r.length cx] rfl rfl (cell_one_new _ _ _) (fun x hx => by simp at hx; subst hx; rfl) (by unfold maxLen; omega) (by omega) (by simp; omega) ?_; intro v2 w2 hown2 hgrow2 _; have hb2 := Lib.hid ((HB1.out.alloc hsz1 _).grown hgrow2 (by simp; omega) (fun k hk => (HO1.out.lt k hk).1)); have ho2 : Hid (MatOwn wordV 46 w.heap.size 37 w2 v2 (L ++ [r])) := Lib.hid (MatOwn.app (by decide) (by rw [← HVL.out]; exact HO1.out) (fun i => ElAt.old (HEL.out i) HB1.out) (ElAt.old HX.out HB1.out) (by rw [← HVL.out]; exact hown2) hgrow2); clear hown2 hgrow2))
  have HM2 := Lib.hid ho2.out.at
  have hsz2 := hb2.out.size
  go_wp2_with fail
  refine (refRank_any _ (L ++ [r]) n HM2.out HOK2.out).mono ?_
  rintro e w3 ⟨rfl, hb3⟩
  have HB3 := Lib.hid (hb2.out.trans (hb3.mono hsz2))
  have hsz3 := HB3.out.size
  clear hb3
  go_wp2_with fail
  refine (refRank_any _ L n (HM0.out.mono HB3.out) HOK.out).mono ?_
  rintro e w4 ⟨rfl, hb4⟩
  have HB4 := Lib.hid (HB3.out.trans (hb4.mono hsz3))
  clear hb4
  generalize rk (vecs (L ++ [r])) = m1 at *
  generalize rk (vecs L) = m0 at *
  rcases HCASE.out with ⟨hm, hp⟩ | ⟨hm, hp⟩
  · have HP := Lib.hid hp
    subst hm
    have hb : ((m1 : Int) == (m1 : Int)) = true := by simp
    clear HCASE hp
    go_wp2
    go_ret
    exact ⟨true, rfl, ⟨fun _ => HP.out, fun _ => rfl⟩, HB4.out⟩
  · have HP := Lib.hid hp
    have hb : ((m1 : Int) == (m0 : Int)) = false := by simp; omega
    clear HCASE hp hm
    go_wp2
    go_ret
    exact ⟨false, rfl, ⟨(fun h => by cases h), fun h => absurd h HP.out⟩, HB4.out⟩
end Go.Proofs.YtlbeobocppmifaaDoor
