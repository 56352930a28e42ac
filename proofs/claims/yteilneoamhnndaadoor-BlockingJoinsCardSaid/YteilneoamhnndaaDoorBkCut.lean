/- Package blocking: Cut. -/
import Derived.Test.YteilneoamhnndaaDoorBkRows
import Derived.Test.YteilneoamhnndaaDoorLaw14
import Derived.Test.YteilneoamhnndaaDoorJ3
import Derived.Test.YteilneoamhnndaaDoorSep
import Derived.Test.YteilneoamhnndaaDoorUponMake
import Derived.Deep.AppendLies
import Derived.Deep.RegionLaw
import Derived.Maps.AppendAt
namespace Go.Proofs.YteilneoamhnndaaDoor
open Go.RowKit Go.Extern.Stop Go.Stop Go.Extern

set_option maxRecDepth 1000000 in
set_option maxHeartbeats 4000000 in
theorem bkCut_bad {w : World} (s b n l q : Int) (hs : I64 s) (hb : I64 b) (hn : I64 n) (hl : I64 l) (hq : I64 q) (hk : planC s b n l q ≠ 0) (v : Value) :
    Calls Tryd.prog 15 #[v, plV s b n l q] w fun e w' => ∃ E, e = .returned (.tuple #[nilS, E]) ∧ ErrAns (planC s b n l q) nameBkCut w' E ∧ Below w.heap.size w w' := by
  have HCK : Hid (∀ V : World, Calls Tryd.prog 13 #[.agg #[.int .i64 s, .int .i64 b, .int .i64 n, .int .i64 l, .int .i64 q]] V fun e w' => ∃ E, e = .returned E ∧ ErrAns (planC s b n l q) nameBkCheck w' E ∧ Below V.heap.size V w') := Lib.hid fun V => bkCheck_any s b n l q hs hb hn hl hq
  obtain ⟨W0, hW0, hb0, hbx⟩ := pl_laid w s b n l q
  have HW0 := Lib.hid hW0
  have HB0 := Lib.hid hb0
  generalize planC s b n l q = k at *
  clear hs hb hn hl hq hW0 hb0 hbx
  unfold plV plC
  go_enter Tryd.func15, Tryd.ntmps15
  go_wp2_with fail
  rw [← HW0.out]
  refine (HCK.out W0).mono ?_
  rintro e w1 ⟨E, rfl, he, hb1⟩
  have HB1 := Lib.hid (HB0.out.trans (hb1.mono HB0.out.size))
  have HCH := Lib.hid he
  obtain ⟨u, x, rfl⟩ := he.some hk
  clear he hb1
  go_wp2_with fail
  refine (Wrap_ans nameBkCut _ k _ _ hk HCH.out).mono ?_
  rintro e w2 ⟨E2, rfl, hch, hb2⟩
  have HB2 := Lib.hid (HB1.out.trans (hb2.mono HB1.out.size))
  have HC := Lib.hid hch
  obtain ⟨u2, x2, rfl⟩ := hch.some hk
  clear hch hb2
  go_wp2
  go_ret2
  exact ⟨_, rfl, HC.out, HB2.out⟩

set_option maxRecDepth 1000000 in
set_option maxHeartbeats 4000000 in
theorem bkCut_len {w : World} {s b n l q : Nat} (h : PlanOk s b n l q) (v : Value) (P : List Nat) (hP : ListAt byteV w v P) (hl : P.length ≠ s) :
    Calls Tryd.prog 15 #[v, plV s b n l q] w fun e w' => ∃ E, e = .returned (.tuple #[nilS, E]) ∧ ErrAns 2 nameBkCut w' E ∧ Below w.heap.size w w' := by
  have HCK : Hid (∀ V : World, Calls Tryd.prog 13 #[.agg #[.int .i64 (s : Int), .int .i64 (b : Int), .int .i64 (n : Int), .int .i64 (l : Int), .int .i64 (q : Int)]] V fun e w' => e = .returned .nilIface ∧ Below V.heap.size V w') := Lib.hid fun V => bkCheck_ok h
  obtain ⟨W0, hW0, hb0, hbx⟩ := pl_laid w (s : Int) (b : Int) (n : Int) (l : Int) (q : Int)
  have HW0 := Lib.hid hW0
  have HB0 := Lib.hid hb0
  have HX := Lib.hid hbx
  obtain ⟨av, cv, rfl, -, -, -⟩ := hP
  have d1 : ((P.length : Int) != (s : Int)) = true := by simp; omega
  clear hW0 hb0 hbx hl h
  unfold plV plC
  go_enter Tryd.func15, Tryd.ntmps15
  go_wp2_with fail
  rw [← HW0.out]
  refine (HCK.out W0).mono ?_
  rintro e w1 ⟨rfl, hb1⟩
  have HB1 := Lib.hid (HB0.out.trans (hb1.mono HB0.out.size))
  obtain ⟨c0, c1, c2, c3, c4⟩ := (HX.out.mono hb1).cells
  clear hb1
  go_wp2_with fail
  refine (New_ans nameBkCut 2 (by decide) _).mono ?_
  rintro e w3 ⟨E, rfl, hc, hb3⟩
  have HCE := Lib.hid hc
  have HB3 := Lib.hid (HB1.out.trans (hb3.mono HB1.out.size))
  clear hc hb3
  go_wp2
  go_ret2
  exact ⟨_, rfl, HCE.out, HB3.out⟩

/-- The symbols of an object; its blocks. -/
def symL (s b : Nat) (P : List Nat) : List (List Nat) := splitTo P b (symT s b)
def cutF (s b l q : Nat) (P : List Nat) (i : Nat) : List (List Nat) := ((symL s b P).drop (offP l q i)).take (cntP l q i)
def cutL (s b n l q : Nat) (P : List Nat) : List (List (List Nat)) := (List.range n).map (cutF s b l q P)
theorem padRow_getD (P : List Nat) (N j : Nat) (h : P.length ≤ N) : (padRow P N).getD j 0 = P.getD j 0 := by
  unfold padRow
  rw [List.take_of_length_le h, List.getD_eq_getElem?_getD, List.getD_eq_getElem?_getD]
  by_cases hj : j < P.length
  · rw [List.getElem?_append_left hj]
  · rw [List.getElem?_append_right (by omega), List.getElem?_eq_none (show P.length ≤ j by omega), List.getElem?_replicate]
    split <;> rfl
theorem pieces_pad {s b : Nat} (hb : 1 ≤ b) (P : List Nat) (hP : P.length = s) : splitTo (padRow P (symT s b * b)) b (pieces (padRow P (symT s b * b)) b) = symL s b P := by
  have h1 : pieces (padRow P (symT s b * b)) b = symT s b := by
    unfold pieces
    rw [padRow_length]
    have e : symT s b * b + b - 1 = (b - 1) + b * symT s b := by rw [Nat.mul_comm b]; omega
    rw [e, Nat.add_mul_div_left _ _ (by omega), Nat.div_eq_of_lt (by omega)]
    omega
  rw [h1]
  unfold symL splitTo
  refine List.map_congr_left fun i hi => ?_
  unfold pieceAt
  refine List.map_congr_left fun j hj => ?_
  exact padRow_getD P _ _ (by rw [hP]; exact (symT_mul hb).1)
theorem symL_length (s b : Nat) (P : List Nat) : (symL s b P).length = symT s b := splitTo_length _ _ _
theorem fresh_far {α : Type} {f : α → Value} {w w' : World} {te : TypeId} {base : Nat} {vs : List Value} {L : List (List α)} (hl : vs.length = L.length) (h2 : ∀ i, ElAt f te base w (vs.getD i nilS) (L.getD i [])) (h3 : ∀ x ∈ vs, ∀ b, x.ownBlock = some b → base ≤ b)
    (hs : ∀ g, base ≤ g → g < w.heap.size → w'.heap[g]? = w.heap[g]?) (i : Nat) : ListAt f w' (vs.getD i nilS) (L.getD i []) := by
  obtain ⟨⟨a, cap, ev, k1, k2, k3⟩, k4⟩ := h2 i
  by_cases hp : 0 < (L.getD i []).length
  · obtain ⟨b, off, rfl, hc⟩ := k3 hp
    have hob : (vs.getD i nilS).ownBlock = some b := by rw [ev]; rfl
    have hlt : base ≤ b := by
      by_cases hi : i < vs.length
      · have e1 : vs.getD i nilS = vs[i] := by simp [List.getD_eq_getElem?_getD, hi]
        exact h3 _ (List.getElem_mem hi) b (by rw [← e1]; exact hob)
      · rw [List.getD_eq_getElem?_getD, List.getElem?_eq_none (by omega)] at hob
        cases hob
    have hb := hs b hlt (World.block_lt_of_cell? w _ (hc 0 hp))
    exact ⟨_, cap, ev, k1, k2, fun _ => ⟨b, off, rfl, fun j hj => by rw [World.cell?_of_block (w := w) (a := ⟨b, off + j, none⟩) hb]; exact hc j hj⟩⟩
  · exact ⟨a, cap, ev, k1, k2, fun h => absurd h hp⟩

/-- The symbols' values that the blocks have got, k blocks done; and x symbols of the next one. -/
def cutV (vs : List Value) (l q k d : Nat) : List Value := if d < k then (vs.drop (offP l q d)).take (cntP l q d) else []
def cutE (vs : List Value) (l q k x d : Nat) : List Value := if d = k then (vs.drop (offP l q k)).take x else cutV vs l q k d
theorem cutE_zero (vs : List Value) (l q k d : Nat) : cutV vs l q k d = cutE vs l q k 0 d := by
  unfold cutE
  by_cases e : d = k
  · subst e; rw [if_pos rfl]; unfold cutV; rw [if_neg (by omega)]; simp
  · rw [if_neg e]
theorem cutE_all (vs : List Value) (l q k d : Nat) : cutE vs l q k (cntP l q k) d = cutV vs l q (k + 1) d := by
  unfold cutE
  by_cases e : d = k
  · subst e; rw [if_pos rfl]; unfold cutV; rw [if_pos (by omega)]
  · rw [if_neg e]; unfold cutV
    by_cases h : d < k
    · rw [if_pos h, if_pos (by omega)]
    · rw [if_neg h, if_neg (by omega)]
theorem cutE_here {vs : List Value} {l q k x : Nat} : cutE vs l q k x k = (vs.drop (offP l q k)).take x := by unfold cutE; rw [if_pos rfl]
theorem cutE_succ {vs : List Value} {l q k x : Nat} (h : offP l q k + x < vs.length) (d : Nat) : (if d = k then cutE vs l q k x k ++ [vs.getD (offP l q k + x) nilS] else cutE vs l q k x d) = cutE vs l q k (x + 1) d := by
  by_cases e : d = k
  · subst e
    rw [if_pos rfl, cutE_here, cutE_here, List.take_add_one]
    congr 1
    rw [List.getElem?_drop, List.getElem?_eq_getElem h, List.getD_eq_getElem?_getD, List.getElem?_eq_getElem h]
    rfl
  · rw [if_neg e]; unfold cutE; rw [if_neg e, if_neg e]
theorem cutE_len {vs : List Value} {l q k x : Nat} (h : offP l q k + x ≤ vs.length) : (cutE vs l q k x k).length = x := by rw [cutE_here, List.length_take, List.length_drop]; omega

set_option maxRecDepth 1000000 in
set_option maxHeartbeats 4000000 in
theorem bkCut_ok {w : World} {s b n l q : Nat} (h : PlanOk s b n l q) (v : Value) (P : List Nat) (hP : ListAt byteV w v P) (hl : P.length = s) :
    Calls Tryd.prog 15 #[v, plV s b n l q] w fun e w' => ∃ g, e = .returned (.tuple #[.slice (some ⟨g, 0, none⟩) n n, .nilIface]) ∧ CubeNew w.heap.size w' (.slice (some ⟨g, 0, none⟩) n n) (cutL s b n l q P) ∧ Below w.heap.size w w' := by
  obtain ⟨j0, hj0, jz0, jz1, jz2⟩ := info_parts info_u8
  obtain ⟨m0, hm0, mz0, mz1, mz2⟩ := info_parts info_mat
  obtain ⟨i0, hi0, hz0, hz1, hz2⟩ := info_parts info_sym
  have HCK : Hid (∀ V : World, Calls Tryd.prog 13 #[.agg #[.int .i64 (s : Int), .int .i64 (b : Int), .int .i64 (n : Int), .int .i64 (l : Int), .int .i64 (q : Int)]] V fun e w' => e = .returned .nilIface ∧ Below V.heap.size V w') := Lib.hid fun V => bkCheck_ok h
  have hsl := h.size_le
  have HSY : Hid (∀ V : World, Calls Tryd.prog 22 #[.int .i64 (s : Int), .int .i64 (b : Int)] V fun e w' => e = .returned (.int .i64 ((symT s b : Nat) : Int)) ∧ Below V.heap.size V w') := Lib.hid fun V => bkSymbols_any s b h.b1 (by omega)
  have HCN : Hid (∀ (i : Nat) (V : World), Calls Tryd.prog 27 #[.agg #[.int .i64 (s : Int), .int .i64 (b : Int), .int .i64 (n : Int), .int .i64 (l : Int), .int .i64 (q : Int)], .int .i64 (i : Int)] V fun e w' => e = .returned (.int .i64 ((cntP l q i : Nat) : Int)) ∧ Below V.heap.size V w') := Lib.hid fun i V => bkCount_ok h i
  have HH := Lib.hid h
  have hb1 := h.b1
  have hb2 := h.b64
  have hn1 := h.n1
  have hn := h.n16
  have hTl := h.symT_le
  have hT1 := symT_pos s b
  have hsN := (symT_mul (s := s) h.b1).1
  have HPAD : Hid (splitTo (padRow P (symT s b * b)) b (pieces (padRow P (symT s b * b)) b) = symL s b P) := Lib.hid (pieces_pad h.b1 P hl)
  have hpl : (padRow P (symT s b * b)).length = symT s b * b := padRow_length _ _
  have HPL := Lib.hid hpl
  have HPS := Lib.hid (padRow_splice P (symT s b * b))
  have HTK : Hid (P.take (symT s b * b) = P) := Lib.hid (List.take_of_length_le (by omega))
  rw [HTK.out] at HPS
  have hN2 := hsl.2
  obtain ⟨N, hN⟩ : ∃ N, N = symT s b * b := ⟨_, rfl⟩
  rw [← hN] at HPAD HPL HPS hsN hN2
  have hTb : ((symT s b : Nat) : Int) * (b : Int) = (N : Int) := by rw [hN, Int.natCast_mul]
  have hw1 : IntKind.i64.wrap (N : Int) = (N : Int) := by rw [IntWalk.i64_in _ (by omega)]
  have hTL : (symL s b P).length = symT s b := symL_length s b P
  have HOFF : Hid (∀ i, i ≤ n → offP l q i ≤ symT s b) := Lib.hid fun i hi => by rw [← h.off]; exact offP_le hi
  have HOFS : Hid (∀ i, offP l q (i + 1) = offP l q i + cntP l q i) := Lib.hid (offP_succ l q)
  have HCNB : Hid (∀ i, 1 ≤ cntP l q i ∧ cntP l q i ≤ 128) := Lib.hid h.cnt
  obtain ⟨W0, hW0, hb0, hbx⟩ := pl_laid w (s : Int) (b : Int) (n : Int) (l : Int) (q : Int)
  have HW0 := Lib.hid hW0
  have HB0 := Lib.hid hb0
  have HX := Lib.hid hbx
  have HP := Lib.hid hP
  obtain ⟨av, cv, rfl, hcv1, hcv2, hcell⟩ := hP
  have hl2 : ((P.length : Int) != (s : Int)) = false := by simp; omega
  have HL := Lib.hid hl
  rw [hl] at HP hcv1 hl2 ⊢
  have HNT := Lib.hid hN
  have HTL := Lib.hid hTL
  clear hW0 hb0 hbx hl h hN hpl hTL hcell hsl
  unfold plV plC
  generalize symT s b = T at *
  have d1 : ((s : Int) != (s : Int)) = false := by simp
  go_enter Tryd.func15, Tryd.ntmps15
  go_wp2_with fail
  rw [← HW0.out]
  refine (HCK.out W0).mono ?_
  rintro e w1 ⟨rfl, hb1'⟩
  have HB1 := Lib.hid (HB0.out.trans (hb1'.mono HB0.out.size))
  have HX1 := Lib.hid (HX.out.mono hb1')
  obtain ⟨c0, c1, c2, c3, c4⟩ := HX1.out.cells
  clear hb1'
  have hbd : Below w1.heap.size w1 w1.drew := (Below.refl _ _).drew
  have HBD := Lib.hid hbd
  have HSAT : Hid (∀ V, Below w1.heap.size w1 V → V.cell? ⟨w.heap.size, 0, none⟩ = some (.int .i64 (s : Int)) ∧ V.cell? ⟨w.heap.size, 1, none⟩ = some (.int .i64 (b : Int))) := Lib.hid fun V hV => ⟨(HX1.out.mono hV).cells.1, (HX1.out.mono hV).cells.2.1⟩
  have HSD := Lib.hid (HSAT.out _ hbd)
  clear hbd
  go_upto_region 6 with fail
  go_region_held3 (fun w' => w'.cell? ⟨w.heap.size, 0, none⟩ = some (.int .i64 (s : Int)) ∧ w'.cell? ⟨w.heap.size, 1, none⟩ = some (.int .i64 (b : Int)))
    (first | exact HSD.out | exact HSAT.out _ HB3.out | exact HSAT.out _ HBM.out | go_keep)
    (first
    | (go_at_call 22; (with_reducible refine (HSY.out _).mono ?_); rintro e w3 ⟨rfl, hb3⟩; have HB3 := Lib.hid (HBD.out.trans (hb3.mono HBD.out.size)); clear hb3)
    | (refine upon_make_all 39 w1.heap.size 5 j0 (.int .u8 0) 1 Tryd.underlying39 hj0 jz0 jz1 .i64 .i64 N (by rw [jz2]; omega) (by unfold maxLen; omega) HB3.out.size ?_; intro wM hoM hgM; have HBM := Lib.hid (HB3.out.grown hgM HB3.out.size (fun k hk => by cases hk)); have HZM : Hid (wM.ownsRow w1.heap.size 5 1 (.slice (some ⟨w3.heap.size, 0, none⟩) N N) N (List.replicate N (byteV 0))) := Lib.hid (by rw [Nat.mul_one] at hoM; exact toList_madeCells_one (.int .u8 0) N ▸ hoM); clear hoM hgM))
  clear c0 c1 c2 c3 c4
  obtain ⟨c0, c1, c2, c3, c4⟩ := (HX1.out.mono HBM.out).cells
  have hgw : w1.heap.size ≤ w3.heap.size := HB3.out.size
  have hBwM := HB1.out.trans (HBM.out.mono HB1.out.size)
  have HCS : Hid (0 < (P.map byteV).length → (some (⟨w3.heap.size, 0, none⟩ : Addr)) = some ⟨w3.heap.size, 0, none⟩ ∧ ∃ ad, av = some ad ∧ ∀ j u, (P.map byteV)[j]? = some u → wM.cell? (ad.add j) = some u) := Lib.hid fun hp => by
    obtain ⟨a', cap', he, -, -, hc⟩ := HP.out.mono hBwM
    simp only [Value.slice.injEq] at he
    obtain ⟨rfl, -, rfl⟩ := he
    obtain ⟨b', off', rfl, hcc⟩ := hc (by simpa using hp)
    refine ⟨rfl, _, rfl, fun j u hu => ?_⟩
    have hj : j < P.length := by have := (List.getElem?_eq_some_iff.1 hu).1; simpa using this
    rw [Go.WideShapes.add_plain, hcc j hj]
    simp [hj] at hu
    rw [hu]
  have HCL : Hid ((P.map byteV).length = Nat.min s N) := Lib.hid (by rw [List.length_map, HL.out]; exact (Nat.min_eq_left hsN).symm)
  have HC1 : Hid (∀ u ∈ P.map byteV, u.oneCell' = true) := Lib.hid fun u hu => by obtain ⟨y, _, rfl⟩ := List.mem_map.1 hu; rfl
  have HFIT : Hid (0 + (P.map byteV).length ≤ (List.replicate N (byteV 0)).length) := Lib.hid (by rw [List.length_map, HL.out, List.length_replicate]; omega)
  clear hBwM
  go_wp2_with (first
    | ((with_reducible show wpList _ _ _ (⟨some 36, _, _, _, _, _⟩ :: _) _ _); refine wpList_copy_splice rfl (.tmp 34) (.tmp 35) 39 39 rfl 5 Tryd.underlying39 (by rw [hj0]; exact congrArg some jz1) (some ⟨w3.heap.size, 0, none⟩) av N N s cv rfl rfl w3.heap.size 0 (List.replicate N (byteV 0)) 5 (own_full HZM.out).2.2 (P.map byteV) HCL.out HCS.out HFIT.out HC1.out w1.heap.size w1 HBM.out hgw ?_; intro w4 hg4 hb4; have HG4 := hg4; have HB4 := Lib.hid hb4; clear c0 c1 c2 c3 c4; obtain ⟨c0, c1, c2, c3, c4⟩ := (HX1.out.mono hb4).cells; clear hg4 hb4))
  have HL4 : Hid (ListAt byteV w4 (.slice (some ⟨w3.heap.size, 0, none⟩) N N) (padRow P N)) := Lib.hid (by
    have h4 := HG4.out
    have hps := HPS.out
    rw [List.map_replicate] at hps
    rw [hps] at h4
    have := ListAt.of_owns (f := byteV) (own_of_heap (base := w1.heap.size) hgw (by rw [List.length_map]) (by rw [HPL.out]; unfold maxLen; omega) h4)
    rwa [HPL.out] at this)
  refine (Split_new _ (padRow P N) b HL4.out hb1 hb2 (by rw [HPL.out]; omega)).mono ?_
  rintro e w5 ⟨v5, rfl, hfr, hb5⟩
  rw [HPAD.out] at hfr
  obtain ⟨vs, ho5, hel5, hfr5⟩ := hfr
  rw [HTL.out] at ho5
  have hvl : vs.length = T := by have := ho5.1; omega
  have hsz5 := hb5.size
  have HB5 := Lib.hid (HB1.out.trans ((HB4.out.trans (hb5.mono HB4.out.size)).mono HB1.out.size))
  have HX5 := Lib.hid (HX1.out.mono (HB4.out.trans (hb5.mono HB4.out.size)))
  have HFAR : Hid (∀ w' : World, (∀ g, w4.heap.size ≤ g → g < w5.heap.size → w'.heap[g]? = w5.heap[g]?) → ∀ i, ListAt byteV w' (vs.getD i nilS) ((symL s b P).getD i [])) := Lib.hid fun w' hs i => fresh_far (by rw [hvl, HTL.out]) hel5 hfr5 hs i
  obtain ⟨a5, cp5, rfl, hcp5, hg5⟩ := own_open ho5
  obtain ⟨g5, rfl⟩ := hg5 (by omega)
  have HO5 := Lib.hid ho5
  have HVL := Lib.hid hvl
  have h4w : w.heap.size ≤ w4.heap.size := Nat.le_trans HB1.out.size HB4.out.size
  clear c0 c1 c2 c3 c4 hfr5 hel5 ho5 hb5 hg5
  obtain ⟨c0, c1, c2, c3, c4⟩ := HX5.out.cells
  have hn2 : (n : Int) ≤ 9223372036854775807 := by omega
  go_wp2_with (at_make; refine wpList_make_full _ rfl _ _ 40 rfl w5.heap.size 46 m0 (.slice none 0 0) 1 Tryd.underlying40 hm0 mz0 mz1 .i64 .i64 _ _ n rfl rfl rfl rfl (by rw [mz2]; omega) (by unfold maxLen; omega) (Nat.le_refl _) ?_; intro w6 ho6 hg6; have HB6 := Lib.hid ((Below.refl w5.heap.size w5).grown hg6 (Nat.le_refl _) (fun k hk => by cases hk)); have HO6 : Hid (w6.ownsRow w5.heap.size 46 1 (.slice (some ⟨w5.heap.size, 0, none⟩) n n) n (List.replicate n nilS)) := Lib.hid (by rw [Nat.mul_one] at ho6; exact toList_madeCells_one (.slice none 0 0) n ▸ ho6); clear ho6 hg6; clear c0 c1 c2 c3 c4; obtain ⟨c0, c1, c2, c3, c4⟩ := (HX5.out.mono HB6.out).cells)
  have HR0 : Hid (RowsV w6 w5.heap.size w5.heap.size n (fun _ => nilS) (cutV vs l q 0)) := Lib.hid ⟨by
      have e : (List.range n).map (fun _ => nilS) = List.replicate n nilS := by
        apply List.ext_getElem
        · simp
        · intro i h1 h2; simp
      rw [e]; exact HO6.out, fun r hr => by
      have e : cutV vs l q 0 r = [] := by unfold cutV; rw [if_neg (by omega)]
      rw [e]; exact World.ownsRow_nil _ _ _ _, fun r s _ _ _ => .inl rfl⟩
  have HALL : Hid (∀ V, Below w5.heap.size w5 V → ∀ j, j < T → V.cell? ⟨g5, j, none⟩ = some (vs.getD j nilS)) := Lib.hid fun V hV j hj => by
    have h1 := HO5.out.cellAt j (by omega)
    rw [(hV.cell (p := ⟨g5, j, none⟩) (HO5.out.lt g5 rfl).2), h1]
    have hj' : j < vs.length := by rw [HVL.out]; exact hj
    simp [List.getD_eq_getElem?_getD, hj']
  have HONE : Hid (∀ j, ∃ a m c, vs.getD j nilS = .slice a m c) := Lib.hid fun j => by
    obtain ⟨a, cap, e, -⟩ := HFAR.out w5 (fun _ _ _ => rfl) j
    exact ⟨_, _, _, e⟩
  have HSUM : Hid (offP l q n = T) := Lib.hid (by rw [← HTL.out, symL_length]; exact HH.out.off)
  clear c0 c1 c2 c3 c4
  go_loopw [53, 11] (fun i t wr => ∃ (k : Nat) (hv : Nat → Value), k ≤ n ∧ i = .int .i64 (k : Int) ∧ t = .int .i64 ((offP l q k : Nat) : Int) ∧ RowsV wr w5.heap.size w5.heap.size n hv (cutV vs l q k) ∧ Below w5.heap.size w5 wr) (fun i _ _ => n - (intOf i).toNat)
  case atStart => exact ⟨0, _, by omega, rfl, by rw [offP_zero]; rfl, HR0.out, HB6.out⟩
  case round =>
    obtain ⟨k, hv, hk, rfl, rfl, hrv, hbel⟩ := hrel
    have HRV := Lib.hid hrv
    have HB := Lib.hid hbel
    clear hrv
    by_cases hlt : k < n
    · have d2 : decide ((k : Int) < (n : Int)) = true := decide_eq_true (by omega)
      obtain ⟨c0, c1, c2, c3, c4⟩ := (HX5.out.mono hbel).cells
      have HCNk := Lib.hid (HCN.out k)
      have hcb := (HCNB.out k).2
      have hoc := HOFF.out (k + 1) hlt
      rw [HOFS.out k] at hoc
      have HNX := Lib.hid (HOFS.out k)
      have HEA : Hid (∀ d, cutE vs l q k (cntP l q k) d = cutV vs l q (k + 1) d) := Lib.hid (cutE_all vs l q k)
      have HE0 : Hid (∀ d, cutV vs l q k d = cutE vs l q k 0 d) := Lib.hid (cutE_zero vs l q k)
      have HES : Hid (∀ x, offP l q k + x < vs.length → ∀ d, (if d = k then cutE vs l q k x k ++ [vs.getD (offP l q k + x) nilS] else cutE vs l q k x d) = cutE vs l q k (x + 1) d) := Lib.hid fun x hx => cutE_succ hx
      have HEL : Hid (∀ x, offP l q k + x ≤ vs.length → (cutE vs l q k x k).length = x) := Lib.hid fun x hx => cutE_len hx
      clear hbel
      generalize cntP l q k = c at *
      generalize offP l q k = o at *
      go_wp2_with fail
      refine (HCNk.out _).mono ?_
      rintro e w7 ⟨rfl, hb7⟩
      have HB7 := Lib.hid (HB.out.trans (hb7.mono HB.out.size))
      have HRV7 := Lib.hid (HRV.out.mono hb7)
      clear hb7 c0 c1 c2 c3 c4
      go_wp2_with fail
      go_loopw [59, 11] (fun r t wr => ∃ (x : Nat) (hv : Nat → Value), x ≤ c ∧ r = .int .i64 (x : Int) ∧ t = .int .i64 ((o + x : Nat) : Int) ∧ RowsV wr w5.heap.size w5.heap.size n hv (cutE vs l q k x) ∧ Below w5.heap.size w5 wr) (fun r _ _ => c - (intOf r).toNat)
      case atStart => exact ⟨0, hv, by omega, rfl, rfl, HRV7.out.congr fun d _ => HE0.out d, HB7.out⟩
      case round =>
        obtain ⟨x, hv2, hx, rfl, rfl, hrv2, hbel2⟩ := hrel
        by_cases hxl : x < c
        · have d3 : decide ((x : Int) < (c : Int)) = true := decide_eq_true (by omega)
          have hot : o + x < T := by omega
          have hE := HES.out x (by rw [HVL.out]; exact hot)
          have hlen := HEL.out x (by rw [HVL.out]; omega)
          have hsz2 := hbel2.size
          have hsl := hrv2.slice hlt
          have hhead := hrv2.head hlt
          have hrow2 := hrv2.row k hlt
          rw [hlen] at hsl hrow2
          obtain ⟨a, cap, hva⟩ := hsl
          have hfr : wr.frozen? ⟨w5.heap.size, k, none⟩ = false := hrv2.own.frozenAt k
          have hall := HALL.out wr hbel2 (o + x) hot
          have hx1 := HONE.out (o + x)
          generalize vs.getD (o + x) nilS = xv at *
          have hba : Below wr.heap.size wr (wr.alloc (.cells #[xv] 39)) := (Below.refl _ _).alloc (Nat.le_refl _) _
          have hbad : Below wr.heap.size wr (wr.alloc (.cells #[xv] 39)).drew := hba.drew
          have hrowa := (hrv2.mono hba).head hlt
          have hfra : (wr.alloc (.cells #[xv] 39)).frozen? ⟨w5.heap.size, k, none⟩ = false := (hrv2.mono hba).own.frozenAt k
          have halla : (wr.alloc (.cells #[xv] 39)).cell? ⟨g5, o + x, none⟩ = some xv := (hba.cell (p := ⟨g5, o + x, none⟩) (World.block_lt_of_cell? wr ⟨g5, o + x, none⟩ hall)).trans hall
          have HO2 : Hid (((wr.alloc (.cells #[xv] 39)).drew).ownsRow w5.heap.size 39 1 (hv2 k) x (cutE vs l q k x k)) := Lib.hid (owns_kept hrow2 hbad)
          have HEND : Hid (∀ (g c2 : Nat) (w2 : World), w2.ownsRow w5.heap.size 39 1 (.slice (some ⟨g, 0, none⟩) (x + 1) c2) (x + 1) (cutE vs l q k x k ++ [xv]) → ((wr.alloc (.cells #[xv] 39)).drew).grownBy w2 (hv2 k).ownBlock → ((hv2 k).ownBlock = some g ∨ g = wr.heap.size + 1) →
              ((∃ hv' : Nat → Value, RowsV (w2.setCell ⟨w5.heap.size, k, none⟩ (.slice (some ⟨g, 0, none⟩) (x + 1) c2)) w5.heap.size w5.heap.size n hv' (cutE vs l q k (x + 1))) ∧ Below w5.heap.size w5 (w2.setCell ⟨w5.heap.size, k, none⟩ (.slice (some ⟨g, 0, none⟩) (x + 1) c2))) ∧
              w2.cell? ⟨w5.heap.size, k, none⟩ = some (hv2 k) ∧ w2.frozen? ⟨w5.heap.size, k, none⟩ = false ∧ w2.cell? ⟨g5, o + x, none⟩ = some xv) :=
            Lib.hid fun g c2 w2 h1 h2 h3 => by
              have h' := hrv2.mono hbad
              have hsz' : wr.heap.size + 1 = (wr.alloc (.cells #[xv] 39)).drew.heap.size := by simp
              have hadd := h'.add (r := k) (g := g) (cap := c2) (x := xv) (W' := w2) hlt (by rw [hlen]; exact h1) h2 (h3.imp id (fun e => by omega))
              rw [hlen] at hadd
              have hhl : w5.heap.size < (wr.alloc (.cells #[xv] 39)).drew.heap.size := (h'.own.lt w5.heap.size rfl).2
              have hkeepH := h2.block w5.heap.size hhl (fun e => h'.ne_heads hlt e.symm)
              refine ⟨⟨⟨_, hadd.congr fun d _ => hE d⟩, ((hbel2.trans (hbad.mono hsz2)).grown h2 (by omega) (fun j hj => ((h'.row k hlt).lt j hj).1)).setCell (p := ⟨w5.heap.size, k, none⟩) (Nat.le_refl _) _⟩, ?_, ?_, ?_⟩
              · rw [World.cell?_of_block (w := (wr.alloc (.cells #[xv] 39)).drew) (a := ⟨w5.heap.size, k, none⟩) hkeepH, h'.head hlt]
              · rw [World.frozen?_of_block (w := (wr.alloc (.cells #[xv] 39)).drew) (a := ⟨w5.heap.size, k, none⟩) hkeepH]
                exact h'.own.frozenAt k
              · have hg5 := (HO5.out.lt g5 rfl).2
                have h5 : w2.heap[g5]? = (wr.alloc (.cells #[xv] 39)).drew.heap[g5]? := h2.block g5 (by omega) (fun e => by
                  have := ((h'.row k hlt).lt g5 e.symm).1
                  omega)
                rw [World.cell?_of_block (w := (wr.alloc (.cells #[xv] 39)).drew) (a := ⟨g5, o + x, none⟩) h5]
                exact halla
          rw [hva] at hhead hrowa HO2 HEND
          obtain ⟨ax, mx, cx, rfl⟩ := hx1
          clear hrv2 hbel2 hE hlen hrow2 hva hba hbad
          generalize cutE vs l q k x k = Q at *
          have HTX : Hid (o + (x + 1) = o + x + 1) := Lib.hid (by omega)
          generalize o + x = t at *
          go_upto_region 18 with fail
          go_region_law (first
            | (refine step_append_lies _ rfl (.tmp 66) (.tmp 71) 46 rfl w5.heap.size 39 i0 (.slice none 0 0) 1 24 Tryd.underlying46 hi0 hz0 hz1 hz2 rfl (by decide) (.slice a x cap) x Q (by simp [Act.eval]) HO2.out ⟨wr.heap.size, 0, none⟩ 1 1 [.slice ax mx cx] (by simp [Act.eval]) rfl (fun j u hu => cell_one_new wr _ _ j u hu) (fun y hy => by simp at hy; subst hy; rfl) (by decide) (by unfold maxLen; omega) (by omega) (by simp; omega) (wr.heap.size + 1) (by simp) ?_; intro g2 c2 w2 hown1 hgrow1 hat1 _; obtain ⟨⟨hE1, hE2⟩, hc1, hc2, hc3⟩ := HEND.out g2 c2 w2 hown1 hgrow1 hat1; have HE1 := Lib.hid hE1; have HE2 := Lib.hid hE2; clear hown1 hgrow1 hat1 hE1 hE2))
          all_goals
            obtain ⟨hv3, HR3⟩ : ∃ hv3, Hid (RowsV _ _ _ _ hv3 _) := ⟨_, Lib.hid HE1.out.choose_spec⟩
            go_wp2
            go_roundw
            case rel => exact ⟨x + 1, hv3, hxl, by go_num, by rw [HTX.out]; go_num, HR3.out, HE2.out⟩
            case measure => simp [intOf]; omega
        · obtain rfl : x = c := by omega
          have d3 : decide ((x : Int) < (x : Int)) = false := decide_eq_false (by omega)
          have HRX := Lib.hid (hrv2.congr fun d _ => HEA.out d)
          have HBX := Lib.hid hbel2
          clear hrv2 hbel2
          go_wp2
          go_roundw
          case rel => exact ⟨k + 1, hv2, hlt, by go_num, by rw [HNX.out], HRX.out, HBX.out⟩
          case measure => simp [intOf]; omega
    · obtain rfl : k = n := by omega
      have d2 : decide ((k : Int) < (k : Int)) = false := decide_eq_false (by omega)
      clear hbel
      go_wp2
      go_ret2
      refine ⟨w5.heap.size, rfl, fun w' hs => ?_, HB5.out.trans (HB.out.mono HB5.out.size)⟩
      have hsz := HB5.out.size
      refine (HRV.out.far fun g h1 h2 => hs g (by omega) h2).cube fun r hr => ?_
      have hvr : cutV vs l q k r = (vs.drop (offP l q r)).take (cntP l q r) := by unfold cutV; rw [if_pos hr]
      rw [hvr]
      unfold cutF
      refine ⟨by rw [List.length_take, List.length_drop, List.length_take, List.length_drop, HVL.out, HTL.out], fun j => ?_⟩
      have hfar := HFAR.out w' (fun g h1 h2 => by rw [hs g (by omega) (by have := HB.out.size; omega)]; exact HB.out.block g h2)
      by_cases hj : j < cntP l q r
      · have := hfar (offP l q r + j)
        simpa only [List.getD_eq_getElem?_getD, List.getElem?_take, if_pos hj, List.getElem?_drop] using this
      · rw [List.getD_eq_getElem?_getD, List.getD_eq_getElem?_getD, List.getElem?_take, List.getElem?_take, if_neg hj, if_neg hj]
        exact ListAt.nil _ _
end Go.Proofs.YteilneoamhnndaaDoor
