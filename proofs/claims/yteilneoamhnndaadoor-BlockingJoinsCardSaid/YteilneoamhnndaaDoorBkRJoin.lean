/- The document's Join. -/
import Derived.Test.YteilneoamhnndaaDoorBkRCut
import Derived.Test.YteilneoamhnndaaDoorSyRef2
import Derived.Deep.RegionLaw
import Derived.Deep.RegionWith
namespace Go.Proofs.YteilneoamhnndaaDoor
open Go.RowKit Go.Extern.Stop Go.Stop Go.Extern

theorem rowFit_check {b c : Nat} {M : List (List Nat)} (h1 : 1 ≤ b) (h2 : b ≤ 64) : RowFit b c M ↔ M.length = c ∧ checkS M (b : Int) = 0 := by
  unfold RowFit
  constructor
  · rintro ⟨h, h3⟩
    refine ⟨h, checkS_ok h1 h2 fun r hr => ?_⟩
    obtain ⟨k, hk, rfl⟩ := List.getElem_of_mem hr
    have := h3 k hk
    simpa [List.getD_eq_getElem?_getD, hk] using this
  · rintro ⟨h, h3⟩
    obtain ⟨m, hm, -, -, h4⟩ := checkS_zero h3
    refine ⟨h, fun k hk => ?_⟩
    have := h4 (M.getD k []) (by rw [List.getD_eq_getElem?_getD, List.getElem?_eq_getElem hk]; exact List.getElem_mem hk)
    omega
def flatTo (C : List (List (List Nat))) (j : Nat) : List Nat := (C.take j).flatten.flatten
theorem flatTo_succ {C : List (List (List Nat))} {j : Nat} (h : j < C.length) : flatTo C (j + 1) = flatTo C j ++ (C.getD j []).flatten := by
  unfold flatTo
  rw [List.take_add_one, List.flatten_append, List.flatten_append, List.getElem?_eq_getElem h, List.getD_eq_getElem?_getD, List.getElem?_eq_getElem h]
  simp
theorem flat_take {M : List (List Nat)} {k : Nat} (h : k < M.length) : (M.take (k + 1)).flatten = (M.take k).flatten ++ M.getD k [] := by
  rw [List.take_add_one, List.flatten_append, List.getElem?_eq_getElem h, List.getD_eq_getElem?_getD, List.getElem?_eq_getElem h]
  simp

set_option maxRecDepth 1000000 in
set_option maxHeartbeats 4000000 in
theorem rbJoin_any {w : World} {s b n l q : Nat} (h : PlanOk s b n l q) (v : Value) (C : List (List (List Nat))) (hC : CubeAt byteV w v C) :
    Calls Tryd.prog 20 #[plV s b n l q, v] w fun e w' => Below w.heap.size w w' ∧
      ((JoinOk s b n l q C ∧ ∃ v', e = .returned (.tuple #[v', .int .i64 0]) ∧ ListAt byteV w' v' (C.flatten.flatten.take s)) ∨ (¬ JoinOk s b n l q C ∧ e = .returned (.tuple #[nilS, .int .i64 2]))) := by
  obtain ⟨j0, hj0, jz0, jz1, jz2⟩ := info_parts info_u8
  have HP := Lib.hid h
  have hsl := h.size_le
  have hTb := symT_mul (s := s) h.b1
  have hTl := h.symT_le
  have hb1 := h.b1
  have hb64 := h.b64
  have hn := h.n16
  obtain ⟨W0, hW0, hb0, hbx⟩ := pl_laid w (s : Int) (b : Int) (n : Int) (l : Int) (q : Int)
  have HW0 := Lib.hid hW0
  have HB0 := Lib.hid hb0
  have HX := Lib.hid hbx
  have HC := Lib.hid (hC.mono hb0)
  have HSR : Hid (∀ (i : Nat) (V : World), Calls Tryd.prog 14 #[.agg #[.int .i64 (s : Int), .int .i64 (b : Int), .int .i64 (n : Int), .int .i64 (l : Int), .int .i64 (q : Int)], .int .i64 (i : Int)] V fun e w' => e = .returned (.int .i64 ((cntP l q i : Nat) : Int)) ∧ Below V.heap.size V w') := Lib.hid fun i V => rbSource_ok h i
  have HCB : Hid (∀ i, cntP l q i ≤ 128) := Lib.hid fun i => (h.cnt i).2
  obtain ⟨av, cap, rfl, hc1, hc2, -⟩ := hC.opens
  obtain ⟨c0, c1, c2, c3, c4⟩ := hbx.cells
  have hlen := hC.len
  clear hW0 hb0 hbx hC h
  unfold plV plC
  by_cases hne : C.length = n
  · have HL := Lib.hid hne
    rw [hne] at hc1 hlen ⊢
    clear hne
    have d1 : ((n : Int) != (n : Int)) = false := by simp
    go_enter Tryd.func20, Tryd.ntmps20
    go_upto_region 1 with fail
    rw [← HW0.out]
    go_wp2_with fail
    go_loopw [6, 7] (fun all i wr => ∃ j : Nat, j ≤ n ∧ i = .int .i64 (j : Int) ∧ (∀ i, i < j → RowFit b (cntP l q i) (C.getD i [])) ∧ (flatTo C j).length ≤ 8192 * j ∧ wr.ownsRow W0.heap.size 5 1 all (flatTo C j).length ((flatTo C j).map byteV) ∧ Below W0.heap.size W0 wr) (fun _ i _ => n - (intOf i).toNat)
    case atStart => exact ⟨0, by omega, rfl, fun i hi => by omega, by simp [flatTo], World.ownsRow_made (base := W0.heap.size) (e := 5) (size := 1) W0 #[] 0 (Nat.le_refl _) (by decide) rfl, (Below.refl _ _).alloc (Nat.le_refl _) _⟩
    case round =>
      obtain ⟨j, hj, rfl, hfit, hdl, hown, hbel⟩ := hrel
      have HF := Lib.hid hfit
      have HB := Lib.hid hbel
      have HO := Lib.hid hown
      clear hfit c0 c1 c2 c3 c4
      by_cases hlt : j < n
      · have d2 : decide ((j : Int) < (n : Int)) = true := decide_eq_true (by omega)
        obtain ⟨a', cap', he, -, -, hcell⟩ := HC.out.opens
        obtain ⟨bk, off, hab, hcc⟩ := hcell (by rw [HL.out]; omega)
        have hab2 : av = some ⟨bk, off, none⟩ := by rw [HL.out] at he; simp at he; rw [he.1]; exact hab
        subst hab2
        obtain ⟨x, hx, hxm⟩ := hcc j (by rw [HL.out]; omega)
        have HXM := Lib.hid hxm
        have hMl := hxm.len
        have hbkl := World.block_lt_of_cell? W0 _ hx
        obtain ⟨ax, cx, rfl, hx1, hx2, -⟩ := hxm.opens
        have HSRj := Lib.hid (HSR.out j)
        have hcb := HCB.out j
        have HFS := Lib.hid (flatTo_succ (C := C) (j := j) (by rw [HL.out]; exact hlt))
        have HRF : Hid (∀ i, i < j + 1 → i ≠ j → RowFit b (cntP l q i) (C.getD i [])) := Lib.hid fun i h1 h2 => HF.out i (by omega)
        obtain ⟨M, hM⟩ : ∃ M, M = C.getD j [] := ⟨_, rfl⟩
        rw [← hM] at HXM hx hMl hx1 HFS
        have HM := Lib.hid hM
        obtain ⟨c, hcE⟩ : ∃ c, c = cntP l q j := ⟨_, rfl⟩
        rw [← hcE] at HSRj hcb
        have HCE := Lib.hid hcE
        have HRC : Hid (RowFit b c M ↔ M.length = c ∧ checkS M (b : Int) = 0) := Lib.hid (rowFit_check hb1 hb64)
        generalize flatTo C j = D at *
        have hbd : Below wr.heap.size wr wr.drew := (Below.refl _ _).drew
        have HBD := Lib.hid hbd
        have HSAT : Hid (∀ V, Below wr.heap.size wr V → V.cell? ⟨bk, off + j, none⟩ = some (.slice ax M.length cx) ∧ V.cell? ⟨w.heap.size, 0, none⟩ = some (.int .i64 (s : Int)) ∧ V.cell? ⟨w.heap.size, 1, none⟩ = some (.int .i64 (b : Int)) ∧ V.cell? ⟨w.heap.size, 2, none⟩ = some (.int .i64 (n : Int)) ∧ V.cell? ⟨w.heap.size, 3, none⟩ = some (.int .i64 (l : Int)) ∧ V.cell? ⟨w.heap.size, 4, none⟩ = some (.int .i64 (q : Int))) := Lib.hid fun V hV => by
          have hV' := HB.out.trans (hV.mono HB.out.size)
          exact ⟨(hV'.cell (p := ⟨bk, off + j, none⟩) hbkl).trans hx, (HX.out.mono hV').cells⟩
        have HSD := Lib.hid (HSAT.out _ hbd)
        clear hcell hcc hxm hM hcE hbel hown hx hbd
        by_cases hml : M.length = c
        · have d3 : ((M.length : Int) != (c : Int)) = false := by simp; omega
          have HML := Lib.hid hml
          clear hml
          obtain ⟨kk, hkk⟩ : ∃ kk, kk = checkS M (b : Int) := ⟨_, rfl⟩
          have HKK := Lib.hid hkk
          have HCHK : Hid (∀ V, Below wr.heap.size wr V → Calls Tryd.prog 36 #[.slice ax M.length cx, .int .i64 (b : Int)] V fun e w' => e = .returned (.int .i64 kk) ∧ V = w') := Lib.hid fun V hV => by
            rw [hkk]
            exact sCheck_any _ M (b : Int) (HXM.out.mono (HB.out.trans (hV.mono HB.out.size))) (by unfold I64; omega)
          clear hkk
          by_cases hk0 : kk = 0
          · have d4 : (kk != 0) = false := by simpa using hk0
            have HK0 := Lib.hid hk0
            clear hk0
            go_upto_region 7 with fail
            go_region_held3 (fun w' => w'.cell? ⟨bk, off + j, none⟩ = some (.slice ax M.length cx) ∧ w'.cell? ⟨w.heap.size, 0, none⟩ = some (.int .i64 (s : Int)) ∧ w'.cell? ⟨w.heap.size, 1, none⟩ = some (.int .i64 (b : Int)) ∧ w'.cell? ⟨w.heap.size, 2, none⟩ = some (.int .i64 (n : Int)) ∧ w'.cell? ⟨w.heap.size, 3, none⟩ = some (.int .i64 (l : Int)) ∧ w'.cell? ⟨w.heap.size, 4, none⟩ = some (.int .i64 (q : Int)))
              (first | exact HSD.out | exact HSAT.out _ HB3.out | go_keep)
              (first
              | (go_at_call 14; (with_reducible refine (HSRj.out _).mono ?_); rintro e w3 ⟨rfl, hb3⟩; have HB3 := Lib.hid (HBD.out.trans (hb3.mono HBD.out.size)); clear hb3)
              | (go_at_call 36; (with_reducible refine (HCHK.out _ HB3.out).mono ?_); rintro e w4 ⟨rfl, rfl⟩))
            have HRWS : Hid (∀ k, k < M.length → (M.getD k []).length = b) := Lib.hid (HRC.out.2 ⟨HML.out, by rw [← HKK.out]; exact HK0.out⟩).2
            have hMc : M.length ≤ 128 := by rw [HML.out]; exact hcb
            obtain ⟨ao, co, rfl, -, -⟩ := own_open HO.out
            have HBW3 := Lib.hid (HB.out.trans (HB3.out.mono HB.out.size))
            have HO3 := Lib.hid (owns_kept HO.out HB3.out)
            have HFT : Hid (∀ k, k < M.length → D ++ (M.take (k + 1)).flatten = (D ++ (M.take k).flatten) ++ M.getD k []) := Lib.hid fun k hk => by rw [flat_take hk, List.append_assoc]
            have HFA : Hid (D ++ (M.take M.length).flatten = D ++ M.flatten) := Lib.hid (by rw [List.take_length])
            have HCEL : Hid (∀ V, Below W0.heap.size W0 V → V.cell? ⟨bk, off + j, none⟩ = some (.slice ax M.length cx)) := Lib.hid fun V hV => by
              have h1 := (HSAT.out wr (Below.refl _ _)).1
              have h2 : W0.cell? ⟨bk, off + j, none⟩ = some (.slice ax M.length cx) := by rw [← h1]; exact (HB.out.cell (p := ⟨bk, off + j, none⟩) hbkl).symm
              exact (hV.cell (p := ⟨bk, off + j, none⟩) hbkl).trans h2
            obtain ⟨q1, q2, q3, q4, q5, q6⟩ := HSAT.out _ HB3.out
            go_wp2_with fail
            go_loopw [6, 8] (fun all i wr => ∃ k : Nat, k ≤ M.length ∧ i = .int .i64 (k : Int) ∧ (D ++ (M.take k).flatten).length ≤ 8192 * j + 64 * k ∧ wr.ownsRow W0.heap.size 5 1 all (D ++ (M.take k).flatten).length ((D ++ (M.take k).flatten).map byteV) ∧ Below W0.heap.size W0 wr) (fun _ i _ => M.length - (intOf i).toNat)
            case atStart => exact ⟨0, by omega, rfl, by simpa using hdl, by simpa using HO3.out, HBW3.out⟩
            case round =>
              obtain ⟨k, hk, rfl, hkl, hown2, hbel2⟩ := hrel
              have HO4 := Lib.hid hown2
              have HB4 := Lib.hid hbel2
              have hsz4 := hbel2.size
              clear q1 q2 q3 q4 q5 q6
              have q1 := HCEL.out _ hbel2
              by_cases hkM : k < M.length
              · have d5 : decide ((k : Int) < (M.length : Int)) = true := decide_eq_true (by omega)
                obtain ⟨ax', cx', he2, -, -, hcell⟩ := HXM.out.opens
                obtain ⟨bx, ox, hab, hcc⟩ := hcell (by omega)
                have hab2 : ax = some ⟨bx, ox, none⟩ := by simp at he2; rw [he2.1]; exact hab
                subst hab2
                obtain ⟨y, hy, hyl⟩ := hcc k hkM
                have hyw := (hbel2.cell (p := ⟨bx, ox + k, none⟩) (World.block_lt_of_cell? W0 _ hy)).trans hy
                have HYL := Lib.hid (hyl.mono hbel2)
                have hrl : (M.getD k []).length ≤ 64 := by rw [HRWS.out k hkM]; exact hb64
                have HFTk := Lib.hid (HFT.out k hkM)
                obtain ⟨ay, cy, rfl, hy1, hy2, -⟩ := hyl
                clear hcell hcc he2 hy hown2 hbel2 hab
                generalize M.getD k [] = r at *
                generalize D ++ (M.take k).flatten = Dk at *
                obtain ⟨ao2, co2, rfl, -, -⟩ := own_open HO4.out
                go_wp2_with (at_builtin; refine wpList_append_of _ rfl (.tmp 49) (.tmp 56) 39 rfl W0.heap.size 5 j0 (.int .u8 0) 1 Tryd.underlying39 hj0 jz0 jz1 jz2 rfl (.slice ao2 Dk.length co2) Dk.length (Dk.map byteV) rfl HO4.out (.slice ay r.length cy) r rfl HYL.out (fun y _ => rfl) (by unfold maxLen; omega) (by omega) hsz4 ?_; intro v' w' ho' hg'; have HO5 := Lib.hid ho'; have HB5 := Lib.hid (HB4.out.grown hg' hsz4 (fun z hz => (HO4.out.lt z hz).1)); clear ho' hg')
                go_roundw
                case rel => exact ⟨k + 1, hkM, by go_num, by rw [HFTk.out, List.length_append]; omega, by rw [HFTk.out, List.length_append, List.map_append]; exact HO5.out, HB5.out⟩
                case measure => simp [intOf]; omega
              · obtain rfl : k = M.length := by omega
                have d5 : decide ((M.length : Int) < (M.length : Int)) = false := decide_eq_false (by omega)
                rw [HFA.out] at hkl HO4
                clear hown2 hbel2
                go_wp2
                go_roundw
                case rel => exact ⟨j + 1, hlt, by go_num, fun i hi => by
                  by_cases e : i = j
                  · subst e
                    rw [← HM.out, ← HCE.out]
                    exact HRC.out.2 ⟨HML.out, by rw [← HKK.out]; exact HK0.out⟩
                  · exact HRF.out i hi e, by rw [HFS.out]; omega, by rw [HFS.out]; exact HO4.out, HB4.out⟩
                case measure => simp [intOf]; omega
          · have d4 : (kk != 0) = true := by simpa using hk0
            have HK0 := Lib.hid hk0
            clear hk0
            go_upto_region 7 with fail
            go_region_held3 (fun w' => w'.cell? ⟨bk, off + j, none⟩ = some (.slice ax M.length cx) ∧ w'.cell? ⟨w.heap.size, 0, none⟩ = some (.int .i64 (s : Int)) ∧ w'.cell? ⟨w.heap.size, 1, none⟩ = some (.int .i64 (b : Int)) ∧ w'.cell? ⟨w.heap.size, 2, none⟩ = some (.int .i64 (n : Int)) ∧ w'.cell? ⟨w.heap.size, 3, none⟩ = some (.int .i64 (l : Int)) ∧ w'.cell? ⟨w.heap.size, 4, none⟩ = some (.int .i64 (q : Int)))
              (first | exact HSD.out | exact HSAT.out _ HB3.out | go_keep)
              (first
              | (go_at_call 14; (with_reducible refine (HSRj.out _).mono ?_); rintro e w3 ⟨rfl, hb3⟩; have HB3 := Lib.hid (HBD.out.trans (hb3.mono HBD.out.size)); clear hb3)
              | (go_at_call 36; (with_reducible refine (HCHK.out _ HB3.out).mono ?_); rintro e w4 ⟨rfl, rfl⟩))
            all_goals
              go_wp2
              go_ret2
              refine ⟨HB0.out.trans ((HB.out.trans (HB3.out.mono HB.out.size)).mono HB0.out.size), .inr ⟨fun h => ?_, rfl⟩⟩
              have h2 := h.1.2 j hlt
              rw [← HM.out, ← HCE.out] at h2
              have h3 := (HRC.out.1 h2).2
              rw [← HKK.out] at h3
              exact HK0.out h3
        · have d3 : ((M.length : Int) != (c : Int)) = true := by simp; omega
          have HML := Lib.hid hml
          clear hml
          go_upto_region 7 with fail
          refine wp_region_quiet (C := fun V => Below wr.heap.size wr V) (by kernel_rfl) (by kernel_rfl) HBD.out ?_
          dsimp only
          repeat (first | go_big_quiet_step (fail) | (refine wpQuiet_step (fun K hK => ?_); go_simp; refine ⟨_, fun _ _ => rfl, hK _ ?_⟩; clear hK K))
          refine BigFrame.wpQuiet_want rfl (fun K hK => ⟨.slice ax M.length cx, fun V hV => ?_, hK _ ?_⟩)
          · obtain ⟨p1, p2, p3, p4, p5, p6⟩ := HSAT.out V hV
            go_simp
          clear hK K
          repeat (first | go_big_quiet_step (fail) | (refine wpQuiet_step (fun K hK => ?_); go_simp; refine ⟨_, fun _ _ => rfl, hK _ ?_⟩; clear hK K))
          refine BigFrame.wpQuiet_want rfl (fun K hK => ⟨.agg #[.int .i64 (s : Int), .int .i64 (b : Int), .int .i64 (n : Int), .int .i64 (l : Int), .int .i64 (q : Int)], fun V hV => ?_, hK _ ?_⟩)
          · obtain ⟨p1, p2, p3, p4, p5, p6⟩ := HSAT.out V hV
            go_simp
          clear hK K
          repeat (first | go_big_quiet_step (fail) | (refine wpQuiet_step (fun K hK => ?_); go_simp; refine ⟨_, fun _ _ => rfl, hK _ ?_⟩; clear hK K))
          refine BigFrame.wpQuiet_want rfl (fun K hK => ⟨.int .i64 (c : Int), fun V hV => ?_, hK _ ?_⟩)
          · go_simp
            refine (HSRj.out V).mono ?_
            rintro e w' ⟨rfl, hb⟩
            exact ⟨rfl, hV.trans (hb.mono hV.size)⟩
          clear hK K
          repeat (first | go_big_quiet_step (fail) | (refine wpQuiet_step (fun K hK => ?_); go_simp; refine ⟨_, fun _ _ => rfl, hK _ ?_⟩; clear hK K))
          refine wpQuiet_nil ?_
          intro w3 hb3
          have HB3 := Lib.hid hb3
          clear hb3
          go_wp2
          go_ret2
          refine ⟨HB0.out.trans ((HB.out.trans (HB3.out.mono HB.out.size)).mono HB0.out.size), .inr ⟨fun h => ?_, rfl⟩⟩
          have h2 := h.1.2 j hlt
          rw [← HM.out, ← HCE.out] at h2
          exact HML.out h2.1
      · obtain rfl : j = n := by omega
        have d2 : decide ((j : Int) < (j : Int)) = false := decide_eq_false (by omega)
        have hF : FitOk b j l q C := ⟨HL.out, HF.out⟩
        have HFI := Lib.hid hF
        have hfa : flatTo C j = C.flatten.flatten := by unfold flatTo; rw [← HL.out, List.take_length]
        have hd : C.flatten.flatten.length = symT s b * b := hF.bytes HP.out
        have hN1 : 1 ≤ symT s b * b := Nat.mul_pos (symT_pos s b) hb1
        have hsN := hTb.1
        have hN2 := hsl.2
        rw [hfa] at HO
        obtain ⟨a4, cp4, rfl, hcp4, hg4⟩ := own_open HO.out
        rw [hd] at HO hcp4 hg4 ⊢
        obtain ⟨g, rfl⟩ := hg4 hN1
        have hl4 : ListAt byteV wr (.slice (some ⟨g, 0, none⟩) (symT s b * b) cp4) C.flatten.flatten := ListAt.of_owns (f := byteV) (l := C.flatten.flatten) (show wr.ownsRow W0.heap.size 5 1 (.slice (some ⟨g, 0, none⟩) (symT s b * b) cp4) C.flatten.flatten.length _ by rw [hd]; exact HO.out)
        have hcm : cp4 ≤ 9223372036854775807 := by
          rcases HO.out.2 with ⟨e1, _⟩ | ⟨g', cap, cur, e1, _, _, _, hm, _⟩
          · cases e1
          · simp at e1; rw [e1.2]; exact hm
        have hcut := (show ListAt byteV wr (.slice (some ⟨g, 0, none⟩) C.flatten.flatten.length cp4) C.flatten.flatten by rw [hd]; exact hl4).cutAt s (by rw [hd]; exact hsN)
        have htk := (show ListAt byteV wr (.slice (some ⟨g, 0, none⟩) C.flatten.flatten.length cp4) C.flatten.flatten by rw [hd]; exact hl4).take s (by rw [hd]; exact hsN)
        rw [hd, Nat.zero_add] at hcut
        obtain ⟨z, hz⟩ : ∃ z, z = zeroB (C.flatten.flatten.drop s) := ⟨_, rfl⟩
        have HZ1 : Hid (cp4 = s → Calls Tryd.prog 37 #[.slice (some ⟨g, 0, none⟩) 0 0] wr fun e w' => e = .returned (.bool z) ∧ wr = w') := Lib.hid fun e => by
          rw [hz]
          refine refZero_any _ _ ?_
          have h := hcut.addr0 (a' := some ⟨g, 0, none⟩) (by omega)
          rwa [e, Nat.sub_self, show symT s b * b - s = 0 by omega] at h
        have HZ2 : Hid (Calls Tryd.prog 37 #[.slice (some ⟨g, s, none⟩) (symT s b * b - s) (cp4 - s)] wr fun e w' => e = .returned (.bool z) ∧ wr = w') := Lib.hid (by rw [hz]; exact refZero_any _ _ hcut)
        have HZZ := Lib.hid hz
        have HTK := Lib.hid htk
        have HBW := Lib.hid (HB0.out.trans (HB.out.mono HB0.out.size))
        obtain ⟨q0, q1, q2, q3, q4⟩ := (HX.out.mono HB.out).cells
        clear hF hfa hg4 hl4 hTb hTl hsl hd hcut hz htk hown hbel hdl
        generalize hDE : C.flatten.flatten = D at *
        have HDE := Lib.hid hDE
        generalize symT s b * b = N at *
        clear hDE
        by_cases hcs : cp4 = s
        · have HZ := Lib.hid (HZ1.out hcs)
          subst hcs
          clear HZ1 HZ2
          cases z with
          | true =>
            go_wp2_with fail
            refine HZ.out.mono ?_
            rintro e w5 ⟨rfl, rfl⟩
            go_wp2
            go_ret2
            exact ⟨HBW.out, .inl ⟨⟨HFI.out, by rw [HDE.out]; exact HZZ.out.symm⟩, _, rfl, by rw [HDE.out]; exact HTK.out⟩⟩
          | false =>
            go_wp2_with fail
            refine HZ.out.mono ?_
            rintro e w5 ⟨rfl, rfl⟩
            go_wp2
            go_ret2
            exact ⟨HBW.out, .inr ⟨fun h => (by have := h.2; rw [HDE.out, ← HZZ.out] at this; cases this), rfl⟩⟩
        · have HZ := Lib.hid HZ2.out
          clear HZ1 HZ2
          cases z with
          | true =>
            go_wp2_with fail
            refine HZ.out.mono ?_
            rintro e w5 ⟨rfl, rfl⟩
            go_wp2
            go_ret2
            exact ⟨HBW.out, .inl ⟨⟨HFI.out, by rw [HDE.out]; exact HZZ.out.symm⟩, _, rfl, by rw [HDE.out]; exact HTK.out⟩⟩
          | false =>
            go_wp2_with fail
            refine HZ.out.mono ?_
            rintro e w5 ⟨rfl, rfl⟩
            go_wp2
            go_ret2
            exact ⟨HBW.out, .inr ⟨fun h => (by have := h.2; rw [HDE.out, ← HZZ.out] at this; cases this), rfl⟩⟩
  · have d1 : ((C.length : Int) != (n : Int)) = true := by simp; omega
    have HL := Lib.hid hne
    clear hne
    go_enter Tryd.func20, Tryd.ntmps20
    go_upto_region 1 with fail
    rw [← HW0.out]
    go_wp2
    go_ret2
    exact ⟨HB0.out, .inr ⟨fun h => HL.out h.1.1, rfl⟩⟩
end Go.Proofs.YteilneoamhnndaaDoor
