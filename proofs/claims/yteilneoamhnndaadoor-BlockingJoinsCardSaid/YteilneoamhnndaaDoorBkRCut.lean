/- The document's Cut and Same. -/
import Derived.Test.YteilneoamhnndaaDoorBkBack
import Derived.Test.YteilneoamhnndaaDoorSyRef
import Derived.Test.YteilneoamhnndaaDoorSyRef3
namespace Go.Proofs.YteilneoamhnndaaDoor
open Go.RowKit Go.Extern.Stop Go.Stop Go.Extern

theorem MatAt.sub {α : Type} {f : α → Value} {w : World} {b off cap : Nat} {L : List (List α)} (h : MatAt f w (.slice (some ⟨b, off, none⟩) L.length cap) L) (o c : Nat) (hc : o + c ≤ L.length) :
    MatAt f w (.slice (some ⟨b, off + o, none⟩) c (cap - o)) ((L.drop o).take c) := by
  obtain ⟨vs, h1, h2, h3⟩ := h
  have h4 := (show ListAt id w (.slice (some ⟨b, off, none⟩) vs.length cap) vs by rw [h2]; exact h1).cutAt o (by omega)
  have h5 := (show ListAt id w (.slice (some ⟨b, off + o, none⟩) (vs.drop o).length (cap - o)) (vs.drop o) by rw [List.length_drop]; exact h4).take c (by rw [List.length_drop]; omega)
  refine ⟨(vs.drop o).take c, h5, by rw [List.length_take, List.length_take, List.length_drop, List.length_drop]; omega, fun i => ?_⟩
  by_cases hi : i < c
  · have := h3 (o + i)
    simpa only [List.getD_eq_getElem?_getD, List.getElem?_take, if_pos hi, List.getElem?_drop] using this
  · rw [List.getD_eq_getElem?_getD, List.getD_eq_getElem?_getD, List.getElem?_take, List.getElem?_take, if_neg hi, if_neg hi]
    exact ListAt.nil _ _

set_option maxRecDepth 1000000 in
set_option maxHeartbeats 4000000 in
theorem rbSame_any {w : World} (v1 v2 : Value) (L : List (List (List Nat))) (h1 : CubeAt byteV w v1 L) (h2 : CubeAt byteV w v2 L) :
    Calls Tryd.prog 16 #[v1, v2] w fun e w' => e = .returned (.bool true) ∧ Below w.heap.size w w' := by
  have hlen := h1.len
  obtain ⟨a1, cap1, rfl, hcap1, -, hcell1⟩ := h1.opens
  obtain ⟨a2, cap2, rfl, hcap2, -, hcell2⟩ := h2.opens
  have HC1 := Lib.hid hcell1
  have HC2 := Lib.hid hcell2
  have d0 : ((L.length : Int) != (L.length : Int)) = false := by simp
  clear h1 h2 hcell1 hcell2
  generalize hn : L.length = n at *
  go_enter Tryd.func16, Tryd.ntmps16
  go_wp2_with fail
  go_loopw [5] (fun i wr => ∃ k : Nat, k ≤ n ∧ i = .int .i64 (k : Int) ∧ Below w.heap.size w wr) (fun i _ => n - (intOf i).toNat)
  case atStart => exact ⟨0, by omega, rfl, Below.refl _ _⟩
  case round =>
    obtain ⟨k, hk, rfl, hbel⟩ := hrel
    have HB := Lib.hid hbel
    by_cases hlt : k < n
    · have d2 : decide ((k : Int) < (n : Int)) = true := decide_eq_true (by omega)
      obtain ⟨b1, o1, rfl, hcc1⟩ := HC1.out (by omega)
      obtain ⟨b2, o2, rfl, hcc2⟩ := HC2.out (by omega)
      obtain ⟨x1, hx1, hm1⟩ := hcc1 k hlt
      obtain ⟨x2, hx2, hm2⟩ := hcc2 k hlt
      have hbd : Below wr.heap.size wr wr.drew := (Below.refl _ _).drew
      have HSAT : Hid (∀ V, Below wr.heap.size wr V → V.cell? ⟨b1, o1 + k, none⟩ = some x1 ∧ V.cell? ⟨b2, o2 + k, none⟩ = some x2) := Lib.hid fun V hV =>
        ⟨((HB.out.trans (hV.mono HB.out.size)).cell (p := ⟨b1, o1 + k, none⟩) (World.block_lt_of_cell? w _ hx1)).trans hx1, ((HB.out.trans (hV.mono HB.out.size)).cell (p := ⟨b2, o2 + k, none⟩) (World.block_lt_of_cell? w _ hx2)).trans hx2⟩
      have HSD := Lib.hid (HSAT.out _ hbd)
      have HSM : Hid (Calls Tryd.prog 30 #[x1, x2] wr.drew fun e w' => e = .returned (.bool true) ∧ Below wr.heap.size wr w') := Lib.hid (by
        have hw : Below w.heap.size w wr.drew := HB.out.trans (hbd.mono HB.out.size)
        refine (sSame_any x1 x2 _ (hm1.mono hw) (hm2.mono hw)).mono ?_
        rintro e w' ⟨rfl, hb⟩
        exact ⟨rfl, hbd.trans (hb.mono hbd.size)⟩)
      obtain ⟨ax1, cx1, rfl, -, -, -⟩ := hm1.opens
      obtain ⟨ax2, cx2, rfl, -, -, -⟩ := hm2.opens
      clear hbel hcc1 hcc2 hx1 hx2 hm1 hm2 hbd
      generalize (L.getD k []).length = lk at *
      go_upto_region 6 with fail
      go_region_held3 (fun w' => w'.cell? ⟨b1, o1 + k, none⟩ = some (.slice ax1 lk cx1) ∧ w'.cell? ⟨b2, o2 + k, none⟩ = some (.slice ax2 lk cx2))
        (first | exact HSD.out | exact HSAT.out _ HB3.out | go_keep)
        (first
        | (go_at_call 30; (with_reducible refine HSM.out.mono ?_); rintro e w3 ⟨rfl, hb3⟩; have HB3 := Lib.hid hb3; clear hb3))
      all_goals
        go_wp2
        go_roundw
        case rel => exact ⟨k + 1, hlt, by go_num, HB.out.trans (HB3.out.mono HB.out.size)⟩
        case measure => simp [intOf]; omega
    · obtain rfl : k = n := by omega
      have d2 : decide ((k : Int) < (k : Int)) = false := decide_eq_false (by omega)
      clear hbel
      go_wp2
      go_ret
      exact ⟨rfl, HB.out⟩

theorem rbSource_ok {w : World} {s b n l q : Nat} (h : PlanOk s b n l q) (i : Nat) : Calls Tryd.prog 14 #[.agg #[.int .i64 (s : Int), .int .i64 (b : Int), .int .i64 (n : Int), .int .i64 (l : Int), .int .i64 (q : Int)], .int .i64 (i : Int)] w fun e w' => e = .returned (.int .i64 ((cntP l q i : Nat) : Int)) ∧ Below w.heap.size w w' := by
  refine (rbSource_any (s : Int) (b : Int) (n : Int) (l : Int) (q : Int) (i : Int) (by omega) (by have := h.q128; omega)).mono ?_
  rintro e w' ⟨rfl, hb⟩
  rw [cntP_int]
  exact ⟨rfl, hb⟩
theorem pieces_sym {s b : Nat} (hb : 1 ≤ b) (P : List Nat) (hP : P.length = s) (h0 : 0 < s) : splitTo P b (pieces P b) = symL s b P := by
  have h : pieces P b = symT s b := by
    have h1 := pieces_mul (p := P) hb
    have h2 := symT_mul (s := s) hb
    rw [hP] at h1
    have hm : max s 1 = s := by omega
    rw [hm] at h2
    rcases Nat.lt_trichotomy (pieces P b) (symT s b) with h | h | h
    · have := Nat.mul_le_mul_right b (show pieces P b + 1 ≤ symT s b by omega)
      rw [Nat.add_mul] at this
      omega
    · exact h
    · have := Nat.mul_le_mul_right b (show symT s b + 1 ≤ pieces P b by omega)
      rw [Nat.add_mul] at this
      omega
  unfold symL
  rw [h]
theorem pieces_none {s b : Nat} (hb : 1 ≤ b) (P : List Nat) (hP : P.length = s) : (pieces P b = 0 ↔ s = 0) := by
  have h1 := pieces_mul (p := P) hb
  rw [hP] at h1
  constructor
  · intro h
    rw [h] at h1
    omega
  · intro h
    rcases Nat.eq_zero_or_pos (pieces P b) with h' | h'
    · exact h'
    · have := Nat.mul_le_mul_right b h'
      omega
theorem symL_none (b : Nat) : symL 0 b [] = [List.replicate b 0] := by
  have h : symT 0 b = 1 := by simp [symT, upN]
  unfold symL
  rw [h]
  simp only [splitTo, List.range_succ, List.range_zero, List.nil_append, List.map_cons, List.map_nil]
  congr 1
  unfold pieceAt
  apply List.ext_getElem
  · simp
  · intro i h1 h2; simp

set_option maxRecDepth 1000000 in
set_option maxHeartbeats 4000000 in
theorem rbCut_any {w : World} {s b n l q : Nat} (h : PlanOk s b n l q) (v : Value) (P : List Nat) (hP : ListAt byteV w v P) (ho : Octets P) (hl : P.length = s) :
    Calls Tryd.prog 17 #[v, plV s b n l q] w fun e w' => ∃ v', e = .returned v' ∧ CubeAt byteV w' v' (cutL s b n l q P) ∧ Below w.heap.size w w' := by
  obtain ⟨j0, hj0, jz0, jz1, jz2⟩ := info_parts info_u8
  obtain ⟨m0, hm0, mz0, mz1, mz2⟩ := info_parts info_mat
  obtain ⟨i0, hi0, hz0, hz1, hz2⟩ := info_parts info_sym
  have hsl := h.size_le
  have HSR : Hid (∀ (i : Nat) (V : World), Calls Tryd.prog 14 #[.agg #[.int .i64 (s : Int), .int .i64 (b : Int), .int .i64 (n : Int), .int .i64 (l : Int), .int .i64 (q : Int)], .int .i64 (i : Int)] V fun e w' => e = .returned (.int .i64 ((cntP l q i : Nat) : Int)) ∧ Below V.heap.size V w') := Lib.hid fun i V => rbSource_ok h i
  have hb1 := h.b1
  have hb2 := h.b64
  have hn1 := h.n1
  have hn := h.n16
  have hTl := h.symT_le
  have hT1 := symT_pos s b
  have HTL : Hid ((symL s b P).length = symT s b) := Lib.hid (symL_length s b P)
  have HOFF : Hid (∀ i, i ≤ n → offP l q i ≤ symT s b) := Lib.hid fun i hi => by rw [← h.off]; exact offP_le hi
  have HOFS : Hid (∀ i, offP l q (i + 1) = offP l q i + cntP l q i) := Lib.hid (offP_succ l q)
  have HCNB : Hid (∀ i, 1 ≤ cntP l q i ∧ cntP l q i ≤ 128) := Lib.hid h.cnt
  obtain ⟨W0, hW0, hb0, hbx⟩ := pl_laid w (s : Int) (b : Int) (n : Int) (l : Int) (q : Int)
  have HW0 := Lib.hid hW0
  have HB0 := Lib.hid hb0
  have HX := Lib.hid hbx
  have HSP : Hid (∀ V : World, Below W0.heap.size W0 V → Calls Tryd.prog 31 #[v, .int .i64 (b : Int)] V fun e w' => ∃ v', e = .returned v' ∧ MatAt byteV w' v' (splitTo P b (pieces P b)) ∧ Below V.heap.size V w') := Lib.hid fun V hV => by
    refine (refSplit_any v P b ((hP.mono hb0).mono hV) ho hb1 hb2 (by omega)).mono ?_
    rintro e w' ⟨v', rfl, hm, hb⟩
    exact ⟨v', rfl, hm.at, hb⟩
  have HPN : Hid (pieces P b = 0 ↔ s = 0) := Lib.hid (pieces_none hb1 P hl)
  have HPS : Hid (0 < s → splitTo P b (pieces P b) = symL s b P) := Lib.hid (pieces_sym hb1 P hl)
  have HLL := Lib.hid hl
  obtain ⟨c0, c1, c2, c3, c4⟩ := hbx.cells
  clear hW0 hb0 hbx hP ho h hsl hl
  unfold plV plC
  go_enter Tryd.func17, Tryd.ntmps17
  go_upto_region 1 with fail
  rw [← HW0.out]
  go_wp2_with fail
  refine (HSP.out W0 (Below.refl _ _)).mono ?_
  rintro e w5 ⟨v5, rfl, hm5, hb5⟩
  obtain ⟨a5, cp5, he5, hcp5, hcm5, hopen⟩ := hm5.opens
  rw [splitTo_length] at he5 hcp5 hopen
  subst he5
  have HX5 := Lib.hid (HX.out.mono hb5)
  have HB5 := Lib.hid (HB0.out.trans (hb5.mono HB0.out.size))
  clear c0 c1 c2 c3 c4 hb5
  by_cases hs0 : s = 0
  · have hp0 : pieces P b = 0 := HPN.out.2 hs0
    have hPn : P = [] := List.eq_nil_of_length_eq_zero (by rw [HLL.out]; exact hs0)
    rw [hp0] at hcp5 ⊢
    clear hm5 hopen
    obtain ⟨c0, c1, c2, c3, c4⟩ := HX5.out.cells
    have hbn : (b : Int) ≤ 64 := by omega
    go_upto_region 4 with (at_make; refine wpList_make_full _ rfl _ _ 39 rfl w5.heap.size 5 j0 (.int .u8 0) 1 Tryd.underlying39 hj0 jz0 jz1 .i64 .i64 _ _ b rfl rfl rfl rfl (by rw [jz2]; omega) (by unfold maxLen; omega) (Nat.le_refl _) ?_; intro w6 ho6 hg6; have HB6 := Lib.hid ((Below.refl w5.heap.size w5).grown hg6 (Nat.le_refl _) (fun k hk => by cases hk)); have HO6 : Hid (w6.ownsRow w5.heap.size 5 1 (.slice (some ⟨w5.heap.size, 0, none⟩) b b) b (List.replicate b (byteV 0))) := Lib.hid (by rw [Nat.mul_one] at ho6; exact toList_madeCells_one (.int .u8 0) b ▸ ho6); clear ho6 hg6)
    obtain ⟨WB, hWB⟩ : ∃ WB, WB = w6.alloc (.cells #[Value.slice (some ⟨w5.heap.size, 0, none⟩) b b] 39) := ⟨_, rfl⟩
    have hT : symT s b = 1 := by rw [hs0]; simp [symT, upN]
    have hsym : symL s b P = [List.replicate b 0] := by rw [hs0, hPn]; exact symL_none b
    have hb6 : Below w6.heap.size w6 WB := by rw [hWB]; exact (Below.refl _ _).alloc (Nat.le_refl _) _
    have HMB : Hid (MatAt byteV WB (.slice (some ⟨w6.heap.size, 0, none⟩) (symT s b) 1) (symL s b P)) := Lib.hid (by
      rw [hT, hsym, hWB]
      refine MatAt.lit (vs := [Value.slice (some ⟨w5.heap.size, 0, none⟩) b b]) _ 1 rfl rfl (by decide) fun i => ?_
      cases i with
      | zero =>
        have := ListAt.of_owns (f := byteV) (l := List.replicate b 0) (show w6.ownsRow w5.heap.size 5 1 (.slice (some ⟨w5.heap.size, 0, none⟩) b b) (List.replicate b 0).length ((List.replicate b 0).map byteV) by rw [List.length_replicate, List.map_replicate]; exact HO6.out)
        exact this
      | succ i => simpa using ListAt.nil byteV w6)
    have HXB := Lib.hid ((HX5.out.mono HB6.out).mono hb6)
    have HBB := Lib.hid (HB5.out.trans ((HB6.out.trans (hb6.mono HB6.out.size)).mono HB5.out.size))
    rw [← hWB]
    have HWB := Lib.hid hWB
    rw [hT] at HOFF
    have hT' : symT s b ≤ 1 := by omega
    clear c0 c1 c2 c3 c4 hWB hb6 hsym hs0 hPn hp0
    go_wp2_with fail
    go_loopw [6, 7, 8] (fun out at' i wr => ∃ k : Nat, k ≤ n ∧ i = .int .i64 (k : Int) ∧ at' = .int .i64 ((offP l q k : Nat) : Int) ∧ wr.ownsRow WB.heap.size 46 1 out k ((List.range k).map fun i => Value.slice (some ⟨w6.heap.size, offP l q i, none⟩) (cntP l q i) (1 - offP l q i)) ∧ Below WB.heap.size WB wr) (fun _ _ i _ => n - (intOf i).toNat)
    case atStart => exact ⟨0, by omega, rfl, by rw [offP_zero]; rfl, World.ownsRow_made (base := WB.heap.size) (e := 46) (size := 1) WB #[] 0 (Nat.le_refl _) (by decide) rfl, (Below.refl _ _).alloc (Nat.le_refl _) _⟩
    case round =>
      obtain ⟨k, hk, rfl, rfl, hown, hbel⟩ := hrel
      have HB := Lib.hid hbel
      have HO := Lib.hid hown
      have hszB := hbel.size
      obtain ⟨ao, co, rfl, -, -⟩ := own_open hown
      by_cases hlt : k < n
      · have d2 : decide ((k : Int) < (n : Int)) = true := decide_eq_true (by omega)
        obtain ⟨c0, c1, c2, c3, c4⟩ := (HXB.out.mono hbel).cells
        have HSRk := Lib.hid (HSR.out k)
        have hcb := HCNB.out k
        have hoc := HOFF.out (k + 1) hlt
        rw [HOFS.out k] at hoc
        have HNX := Lib.hid (HOFS.out k)
        have HLS : Hid (((List.range k).map fun i => Value.slice (some ⟨w6.heap.size, offP l q i, none⟩) (cntP l q i) (1 - offP l q i)) ++ [Value.slice (some ⟨w6.heap.size, offP l q k, none⟩) (cntP l q k) (1 - offP l q k)] = (List.range (k + 1)).map fun i => Value.slice (some ⟨w6.heap.size, offP l q i, none⟩) (cntP l q i) (1 - offP l q i)) := Lib.hid (by rw [List.range_succ, List.map_append]; rfl)
        clear hbel hown
        generalize ((List.range k).map fun i => Value.slice (some ⟨w6.heap.size, offP l q i, none⟩) (cntP l q i) (1 - offP l q i)) = HL at *
        generalize cntP l q k = c at *
        generalize offP l q k = o at *
        have hcpo : ¬ 1 = o := by omega
        go_wp2_with fail
        refine (HSRk.out _).mono ?_
        rintro e w8 ⟨rfl, hb8⟩
        have HB8 := Lib.hid (HB.out.trans (hb8.mono hszB))
        have HO8 := Lib.hid (owns_kept HO.out hb8)
        have hsz8 := HB8.out.size
        clear hb8 c0 c1 c2 c3 c4
        go_wp2_with (at_builtin; refine wpList_append_own _ rfl (.tmp 27) (.tmp 36) 40 rfl WB.heap.size 46 m0 (.slice none 0 0) 1 24 Tryd.underlying40 hm0 mz0 mz1 mz2 rfl (by decide) (.slice ao k co) k HL rfl (HO8.out.alloc _) ⟨w8.heap.size, 0, none⟩ 1 1 [.slice (some ⟨w6.heap.size, o, none⟩) c (1 - o)] rfl rfl (cell_one_new _ _ _) (fun x hx => by simp at hx; subst hx; rfl) (by unfold maxLen; omega) (by omega) (by simp; omega) ?_; intro v3 w3 hown1 hgrow1 _; have HO3 := Lib.hid hown1; have HB3 := Lib.hid ((HB8.out.alloc hsz8 _).grown hgrow1 (by simp; omega) (fun j hj => (HO8.out.lt j hj).1)); obtain ⟨c0, c1, c2, c3, c4⟩ := (HXB.out.mono HB3.out).cells; clear hown1 hgrow1)
        refine (HSRk.out _).mono ?_
        rintro e w9 ⟨rfl, hb9⟩
        have HB9 := Lib.hid (HB3.out.trans (hb9.mono HB3.out.size))
        have HO9 := Lib.hid (owns_kept HO3.out hb9)
        clear hb9 c0 c1 c2 c3 c4
        go_wp2
        go_roundw
        case rel => exact ⟨k + 1, hlt, by go_num, by rw [HNX.out]; go_num, by rw [← HLS.out]; exact HO9.out, HB9.out⟩
        case measure => simp [intOf]; omega
      · obtain rfl : k = n := by omega
        have d2 : decide ((k : Int) < (k : Int)) = false := decide_eq_false (by omega)
        obtain ⟨c0, c1, c2, c3, c4⟩ := (HXB.out.mono hbel).cells
        clear hbel hown
        go_wp2
        go_ret
        refine ⟨_, rfl, ⟨_, ListAt.of_owns (f := id) (by rw [List.map_id]; simpa using HO.out), by simp [cutL], fun i => ?_⟩, HBB.out.trans (HB.out.mono HBB.out.size)⟩
        by_cases hi : i < k
        · have e1 : (cutL s b k l q P).getD i [] = cutF s b l q P i := by simp [cutL, List.getD_eq_getElem?_getD, hi]
          have e2 : ((List.range k).map fun i => Value.slice (some ⟨w6.heap.size, offP l q i, none⟩) (cntP l q i) (1 - offP l q i)).getD i nilS = Value.slice (some ⟨w6.heap.size, offP l q i, none⟩) (cntP l q i) (1 - offP l q i) := by simp [List.getD_eq_getElem?_getD, hi]
          rw [e1, e2]
          have hoc := HOFF.out (i + 1) hi
          rw [HOFS.out i] at hoc
          have hm := (HMB.out.mono HB.out)
          have hs := MatAt.sub (show MatAt byteV wr (.slice (some ⟨w6.heap.size, 0, none⟩) (symL s b P).length 1) (symL s b P) by rw [HTL.out]; exact hm) (offP l q i) (cntP l q i) (by rw [HTL.out, hT]; exact hoc)
          rw [Nat.zero_add] at hs
          exact hs
        · rw [List.getD_eq_getElem?_getD, List.getElem?_eq_none (by simp; omega), List.getD_eq_getElem?_getD, List.getElem?_eq_none (by simp [cutL]; omega)]
          exact MatAt.nil _ _
  · have hp1 : splitTo P b (pieces P b) = symL s b P := HPS.out (by omega)
    have hpT : pieces P b = symT s b := by have := congrArg List.length hp1; rwa [splitTo_length, symL_length] at this
    rw [hp1] at hm5
    rw [hpT] at hcp5 hopen hm5 ⊢
    obtain ⟨b5, o5, rfl, -⟩ := hopen (by omega)
    have HMB := Lib.hid hm5
    have HXB := HX5
    have HBB := HB5
    have hTn : ¬ symT s b = 0 := by omega
    have hTz : (((symT s b : Nat) : Int) == 0) = false := by simp; omega
    clear hm5 hopen hp1 hpT hs0
    obtain ⟨c0, c1, c2, c3, c4⟩ := HXB.out.cells
    generalize symT s b = T at *
    go_wp2_with fail
    go_loopw [6, 7, 8] (fun out at' i wr => ∃ k : Nat, k ≤ n ∧ i = .int .i64 (k : Int) ∧ at' = .int .i64 ((offP l q k : Nat) : Int) ∧ wr.ownsRow w5.heap.size 46 1 out k ((List.range k).map fun i => Value.slice (some ⟨b5, o5 + offP l q i, none⟩) (cntP l q i) (cp5 - offP l q i)) ∧ Below w5.heap.size w5 wr) (fun _ _ i _ => n - (intOf i).toNat)
    case atStart => exact ⟨0, by omega, rfl, by rw [offP_zero]; rfl, World.ownsRow_made (base := w5.heap.size) (e := 46) (size := 1) w5 #[] 0 (Nat.le_refl _) (by decide) rfl, (Below.refl _ _).alloc (Nat.le_refl _) _⟩
    case round =>
      obtain ⟨k, hk, rfl, rfl, hown, hbel⟩ := hrel
      have HB := Lib.hid hbel
      have HO := Lib.hid hown
      have hszB := hbel.size
      obtain ⟨ao, co, rfl, -, -⟩ := own_open hown
      by_cases hlt : k < n
      · have d2 : decide ((k : Int) < (n : Int)) = true := decide_eq_true (by omega)
        obtain ⟨c0, c1, c2, c3, c4⟩ := (HXB.out.mono hbel).cells
        have HSRk := Lib.hid (HSR.out k)
        have hcb := HCNB.out k
        have hoc := HOFF.out (k + 1) hlt
        rw [HOFS.out k] at hoc
        have HNX := Lib.hid (HOFS.out k)
        have HLS : Hid (((List.range k).map fun i => Value.slice (some ⟨b5, o5 + offP l q i, none⟩) (cntP l q i) (cp5 - offP l q i)) ++ [Value.slice (some ⟨b5, o5 + offP l q k, none⟩) (cntP l q k) (cp5 - offP l q k)] = (List.range (k + 1)).map fun i => Value.slice (some ⟨b5, o5 + offP l q i, none⟩) (cntP l q i) (cp5 - offP l q i)) := Lib.hid (by rw [List.range_succ, List.map_append]; rfl)
        clear hbel hown
        generalize ((List.range k).map fun i => Value.slice (some ⟨b5, o5 + offP l q i, none⟩) (cntP l q i) (cp5 - offP l q i)) = HL at *
        generalize cntP l q k = c at *
        generalize offP l q k = o at *
        have hcpo : ¬ cp5 = o := by omega
        go_wp2_with fail
        refine (HSRk.out _).mono ?_
        rintro e w8 ⟨rfl, hb8⟩
        have HB8 := Lib.hid (HB.out.trans (hb8.mono hszB))
        have HO8 := Lib.hid (owns_kept HO.out hb8)
        have hsz8 := HB8.out.size
        clear hb8 c0 c1 c2 c3 c4
        go_wp2_with (at_builtin; refine wpList_append_own _ rfl (.tmp 27) (.tmp 36) 40 rfl w5.heap.size 46 m0 (.slice none 0 0) 1 24 Tryd.underlying40 hm0 mz0 mz1 mz2 rfl (by decide) (.slice ao k co) k HL rfl (HO8.out.alloc _) ⟨w8.heap.size, 0, none⟩ 1 1 [.slice (some ⟨b5, o5 + o, none⟩) c (cp5 - o)] rfl rfl (cell_one_new _ _ _) (fun x hx => by simp at hx; subst hx; rfl) (by unfold maxLen; omega) (by omega) (by simp; omega) ?_; intro v3 w3 hown1 hgrow1 _; have HO3 := Lib.hid hown1; have HB3 := Lib.hid ((HB8.out.alloc hsz8 _).grown hgrow1 (by simp; omega) (fun j hj => (HO8.out.lt j hj).1)); obtain ⟨c0, c1, c2, c3, c4⟩ := (HXB.out.mono HB3.out).cells; clear hown1 hgrow1)
        refine (HSRk.out _).mono ?_
        rintro e w9 ⟨rfl, hb9⟩
        have HB9 := Lib.hid (HB3.out.trans (hb9.mono HB3.out.size))
        have HO9 := Lib.hid (owns_kept HO3.out hb9)
        clear hb9 c0 c1 c2 c3 c4
        go_wp2
        go_roundw
        case rel => exact ⟨k + 1, hlt, by go_num, by rw [HNX.out]; go_num, by rw [← HLS.out]; exact HO9.out, HB9.out⟩
        case measure => simp [intOf]; omega
      · obtain rfl : k = n := by omega
        have d2 : decide ((k : Int) < (k : Int)) = false := decide_eq_false (by omega)
        obtain ⟨c0, c1, c2, c3, c4⟩ := (HXB.out.mono hbel).cells
        clear hbel hown
        go_wp2
        go_ret
        refine ⟨_, rfl, ⟨_, ListAt.of_owns (f := id) (by rw [List.map_id]; simpa using HO.out), by simp [cutL], fun i => ?_⟩, HBB.out.trans (HB.out.mono HBB.out.size)⟩
        by_cases hi : i < k
        · have e1 : (cutL s b k l q P).getD i [] = cutF s b l q P i := by simp [cutL, List.getD_eq_getElem?_getD, hi]
          have e2 : ((List.range k).map fun i => Value.slice (some ⟨b5, o5 + offP l q i, none⟩) (cntP l q i) (cp5 - offP l q i)).getD i nilS = Value.slice (some ⟨b5, o5 + offP l q i, none⟩) (cntP l q i) (cp5 - offP l q i) := by simp [List.getD_eq_getElem?_getD, hi]
          rw [e1, e2]
          have hoc := HOFF.out (i + 1) hi
          rw [HOFS.out i] at hoc
          have hm := (HMB.out.mono HB.out)
          have hs := MatAt.sub (show MatAt byteV wr (.slice (some ⟨b5, o5, none⟩) (symL s b P).length cp5) (symL s b P) by rw [HTL.out]; exact hm) (offP l q i) (cntP l q i) (by rw [HTL.out]; exact hoc)
          exact hs
        · rw [List.getD_eq_getElem?_getD, List.getElem?_eq_none (by simp; omega), List.getD_eq_getElem?_getD, List.getElem?_eq_none (by simp [cutL]; omega)]
          exact MatAt.nil _ _
end Go.Proofs.YteilneoamhnndaaDoor
