/- The walks of the third layer's laws MatrixChecks, MatrixRanks, MatrixSpans. -/
import Derived.Test.YtlbeobocppmifaaDoorLaw03
namespace Go.Proofs.YtlbeobocppmifaaDoor
open Go.RowKit Go.Extern.Stop Go.Stop Go.Extern

set_option maxRecDepth 1000000 in
set_option maxHeartbeats 1000000 in
theorem checks3 {w : World} (v : Value) (L : List (List Nat)) (n : Int) (h : MatAt wordV w v L) (hw : ∀ r ∈ L, Word r) (hn : I64 n) (hT : Tab w) (hg : Laid w) :
    Calls Tryd.prog 3 #[v, .int .i64 n] w fun e w' => e = .returned (.bool true) ∧ Below w.heap.size w w' := by
  have HM := Lib.hid h
  have HW := Lib.hid hw
  have HN := Lib.hid hn
  have HT := Lib.hid hT
  have HG := Lib.hid hg
  obtain ⟨a, cap, rfl, -, -, -⟩ := h.opens
  clear h hw hn hT hg
  cases hb : bigB L n with
  | true =>
    have HBG := Lib.hid hb
    clear hb
    go_enter Tryd.func3, Tryd.ntmps3
    go_wp2_with fail
    refine (big_any _ L n HM.out).mono ?_
    rintro e w1 ⟨rfl, rfl⟩
    rw [HBG.out]
    go_wp2_with fail
    refine (awake3 HT.out).mono ?_
    rintro e wz ⟨rfl, hbz⟩
    have HBZ := Lib.hid hbz
    clear hbz
    go_wp2
    go_ret
    exact ⟨rfl, HBZ.out⟩
  | false =>
    have HBG := Lib.hid hb
    clear hb
    generalize hk : checkM L n = k
    have HK := Lib.hid hk
    clear hk
    go_enter Tryd.func3, Tryd.ntmps3
    go_wp2_with fail
    refine (big_any _ L n HM.out).mono ?_
    rintro e w1 ⟨rfl, rfl⟩
    rw [HBG.out]
    go_wp2_with fail
    refine (MCheck_any _ L n HM.out HW.out HN.out).mono ?_
    rintro e w1 ⟨E1, rfl, hE1, hb1⟩
    rw [HK.out] at hE1
    have HE1 := Lib.hid hE1
    have HB1 := Lib.hid hb1
    have hsz1 := hb1.size
    clear hE1 hb1
    go_wp2_with fail
    refine (refCheck_any _ L n (HM.out.mono HB1.out) HW.out).mono ?_
    rintro e w2 ⟨rfl, rfl⟩
    rw [HK.out]
    go_wp2_with fail
    refine (tells_ans k nameCheck _ HE1.out (HG.out.mono HB1.out)).mono ?_
    rintro e w3 ⟨rfl, hb3⟩
    have HB3 := Lib.hid (HB1.out.trans (hb3.mono hsz1))
    clear hb3
    go_wp2_with fail
    refine (awake3 (HT.out.mono HB3.out)).mono ?_
    rintro e wz ⟨rfl, hbz⟩
    have HBZ := Lib.hid (HB3.out.trans (hbz.mono HB3.out.size))
    clear hbz
    go_wp2
    go_ret
    exact ⟨rfl, HBZ.out⟩

theorem ne_bool {k : Int} (h : k ≠ 0) : (k != 0) = true := by simpa using h

set_option maxRecDepth 1000000 in
set_option maxHeartbeats 2000000 in
theorem ranks3 {w : World} (v : Value) (L : List (List Nat)) (n : Int) (h : MatAt wordV w v L) (hw : ∀ r ∈ L, Word r) (hn : I64 n) (hT : Tab w) (hg : Laid w) :
    Calls Tryd.prog 4 #[v, .int .i64 n] w fun e w' => e = .returned (.bool true) ∧ Below w.heap.size w w' := by
  have HM := Lib.hid h
  have HW := Lib.hid hw
  have HN := Lib.hid hn
  have HT := Lib.hid hT
  have HG := Lib.hid hg
  obtain ⟨a, cap, rfl, -, -, -⟩ := h.opens
  clear h hw hn hT hg
  cases hb : bigB L n with
  | true =>
    have HBG := Lib.hid hb
    clear hb
    go_enter Tryd.func4, Tryd.ntmps4
    go_wp2_with fail
    refine (big_any _ L n HM.out).mono ?_
    rintro e w1 ⟨rfl, rfl⟩
    rw [HBG.out]
    go_wp2_with fail
    refine (awake3 HT.out).mono ?_
    rintro e wz ⟨rfl, hbz⟩
    have HBZ := Lib.hid hbz
    clear hbz
    go_wp2
    go_ret
    exact ⟨rfl, HBZ.out⟩
  | false =>
    have HBG := Lib.hid hb
    by_cases hk : checkM L n = 0
    · obtain ⟨m, rfl, hok⟩ := checkM_zero HW.out hk
      have HOK := Lib.hid hok
      have HK := Lib.hid hk
      clear hb hk hok
      generalize hr : rk (vecs L) = R
      generalize hp : picksTo (vecs L) L.length = P
      have HR := Lib.hid hr
      have HP := Lib.hid hp
      clear hr hp
      go_enter Tryd.func4, Tryd.ntmps4
      go_wp2_with fail
      refine (big_any _ L (m : Int) HM.out).mono ?_
      rintro e w1 ⟨rfl, rfl⟩
      rw [HBG.out]
      go_wp2_with fail
      refine (Rank_ok _ L m HM.out HOK.out HT.out).mono ?_
      rintro e w1 ⟨rfl, hb1⟩
      rw [HR.out]
      have HB1 := Lib.hid hb1
      clear hb1
      go_wp2_with fail
      refine (Picks_ok _ L m (HM.out.mono HB1.out) HOK.out (HT.out.mono HB1.out)).mono ?_
      rintro e w2 ⟨pv, rfl, hp2, hb2⟩
      rw [HP.out] at hp2
      have HP2 := Lib.hid hp2
      have HB2 := Lib.hid (HB1.out.trans (hb2.mono HB1.out.size))
      obtain ⟨pa, pc, rfl, -, -, -⟩ := hp2
      clear hb2
      go_wp2_with fail
      refine (refCheck_any _ L (m : Int) (HM.out.mono HB2.out) HW.out).mono ?_
      rintro e w3 ⟨rfl, rfl⟩
      rw [HK.out]
      go_wp2_with fail
      refine (tells_nil _).mono ?_
      rintro e w3 ⟨rfl, rfl⟩
      go_wp2_with fail
      refine (tells_nil _).mono ?_
      rintro e w3 ⟨rfl, rfl⟩
      go_wp2_with fail
      refine (refRank_any _ L m (HM.out.mono HB2.out) HOK.out).mono ?_
      rintro e w3 ⟨rfl, hb3⟩
      rw [HR.out]
      have HB3 := Lib.hid (HB2.out.trans (hb3.mono HB2.out.size))
      have HP3 := Lib.hid (HP2.out.mono hb3)
      have hRR : ((R : Int) == (R : Int)) = true := by simp
      clear hb3
      go_wp2_with fail
      refine (refPicks_any _ L m (HM.out.mono HB3.out) HOK.out).mono ?_
      rintro e w4 ⟨qv, rfl, hq4, hb4⟩
      rw [HP.out] at hq4
      have HQ4 := Lib.hid hq4.cols
      have HP4 := Lib.hid (HP3.out.mono hb4).cols
      have HB4 := Lib.hid (HB3.out.trans (hb4.mono HB3.out.size))
      obtain ⟨qa, qc, rfl, -, -, -⟩ := hq4
      clear hb4
      go_wp2_with fail
      refine (SameI_any _ _ (P.map Int.ofNat) HP4.out HQ4.out).mono ?_
      rintro e w5 ⟨rfl, hb5⟩
      have HB5 := Lib.hid (HB4.out.trans (hb5.mono HB4.out.size))
      clear hb5
      go_wp2_with fail
      refine (awake3 (HT.out.mono HB5.out)).mono ?_
      rintro e wz ⟨rfl, hbz⟩
      have HBZ := Lib.hid (HB5.out.trans (hbz.mono HB5.out.size))
      clear hbz
      go_wp2
      go_ret
      exact ⟨rfl, HBZ.out⟩
    · have HK0 := Lib.hid hk
      have hkb := ne_bool hk
      generalize hkk : checkM L n = k at *
      have HK := Lib.hid hkk
      clear hb hk hkk
      go_enter Tryd.func4, Tryd.ntmps4
      go_wp2_with fail
      refine (big_any _ L n HM.out).mono ?_
      rintro e w1 ⟨rfl, rfl⟩
      rw [HBG.out]
      go_wp2_with fail
      refine (Rank_bad _ L n HM.out HW.out HN.out (by rw [HK.out]; exact HK0.out)).mono ?_
      rintro e w1 ⟨E1, rfl, hE1, hb1⟩
      rw [HK.out] at hE1
      have HE1 := Lib.hid hE1
      have HB1 := Lib.hid hb1
      clear hE1 hb1
      go_wp2_with fail
      refine (Picks_bad _ L n (HM.out.mono HB1.out) HW.out HN.out (by rw [HK.out]; exact HK0.out)).mono ?_
      rintro e w2 ⟨E2, rfl, hE2, hb2⟩
      rw [HK.out] at hE2
      have HE2 := Lib.hid hE2
      have HE1' := Lib.hid (HE1.out.mono hb2)
      have HB2 := Lib.hid (HB1.out.trans (hb2.mono HB1.out.size))
      clear hE2 hb2
      go_wp2_with fail
      refine (refCheck_any _ L n (HM.out.mono HB2.out) HW.out).mono ?_
      rintro e w3 ⟨rfl, rfl⟩
      rw [HK.out]
      go_wp2_with fail
      refine (tells_ans k nameRank _ HE1'.out (HG.out.mono HB2.out)).mono ?_
      rintro e w3 ⟨rfl, hb3⟩
      have HE2' := Lib.hid (HE2.out.mono hb3)
      have HB3 := Lib.hid (HB2.out.trans (hb3.mono HB2.out.size))
      clear hb3
      go_wp2_with fail
      refine (tells_ans k namePicks _ HE2'.out (HG.out.mono HB3.out)).mono ?_
      rintro e w4 ⟨rfl, hb4⟩
      have HB4 := Lib.hid (HB3.out.trans (hb4.mono HB3.out.size))
      clear hb4
      go_wp2_with fail
      refine (awake3 (HT.out.mono HB4.out)).mono ?_
      rintro e wz ⟨rfl, hbz⟩
      have HBZ := Lib.hid (HB4.out.trans (hbz.mono HB4.out.size))
      clear hbz
      go_wp2
      go_ret
      exact ⟨rfl, HBZ.out⟩

/-- What the document says of rows and a row. -/
theorem spansK_cases (L : List (List Nat)) (n : Int) (r : List Nat) (hw : ∀ s ∈ L, Word s) (hr : Word r) :
    (checkM L n ≠ 0 ∧ spansK L n r = checkM L n) ∨ (∃ m : Nat, n = (m : Int) ∧ MatOk L m ∧ checkM L n = 0 ∧ ((wholeB m r = false ∧ spansK L n r = 2) ∨ (wholeB m r = true ∧ spansK L n r = 0 ∧ MatOk [r] m))) := by
  by_cases hk : checkM L n = 0
  · right
    obtain ⟨m, rfl, hok⟩ := checkM_zero hw hk
    refine ⟨m, rfl, hok, hk, ?_⟩
    have e : spansK L (m : Int) r = checkM [r] (m : Int) := by unfold spansK; rw [if_neg (by rw [hk]; simp)]
    have e2 : checkM [r] (m : Int) = if wholeB m r then 0 else 2 := by
      unfold checkM
      have := hok.cols
      rw [if_neg (by omega), if_neg (by simp)]
      simp
    cases hb : wholeB m r with
    | false => exact .inl ⟨rfl, by rw [e, e2, hb]; rfl⟩
    | true => exact .inr ⟨rfl, by rw [e, e2, hb]; rfl, ⟨hok.cols, by simp, fun s hs => by simp at hs; subst hs; exact hr, fun s hs => by simp at hs; subst hs; exact wholeB_iff.1 hb⟩⟩
  · exact .inl ⟨hk, by unfold spansK; rw [if_pos hk]⟩

set_option maxRecDepth 1000000 in
set_option maxHeartbeats 4000000 in
theorem spans3 {w : World} (v x : Value) (L : List (List Nat)) (r : List Nat) (n : Int) (h : MatAt wordV w v L) (hw : ∀ r ∈ L, Word r) (hx : ListAt wordV w x r) (hr : Word r) (hn : I64 n) (hT : Tab w) (hg : Laid w) :
    Calls Tryd.prog 5 #[v, .int .i64 n, x] w fun e w' => e = .returned (.bool true) ∧ Below w.heap.size w w' := by
  have hxl := hx.len
  have HM := Lib.hid h
  have HW := Lib.hid hw
  have HN := Lib.hid hn
  have HT := Lib.hid hT
  have HG := Lib.hid hg
  have HX := Lib.hid hx
  have HR := Lib.hid hr
  have hcase := spansK_cases L n r hw hr
  obtain ⟨a, cap, rfl, -, -, -⟩ := h.opens
  obtain ⟨ax, cx, rfl, -, -, -⟩ := hx
  clear h hw hn hT hg hr
  cases hb : bigB L n with
  | true =>
    have HBG := Lib.hid hb
    clear hb hcase
    go_enter Tryd.func5, Tryd.ntmps5
    go_wp2_with fail
    refine (big_any _ L n HM.out).mono ?_
    rintro e w1 ⟨rfl, rfl⟩
    rw [HBG.out]
    go_wp2_with fail
    refine (awake3 HT.out).mono ?_
    rintro e wz ⟨rfl, hbz⟩
    have HBZ := Lib.hid hbz
    clear hbz
    go_wp2
    go_ret
    exact ⟨rfl, HBZ.out⟩
  | false =>
    have HBG := Lib.hid hb
    by_cases h100 : 100 < r.length
    · have h100' : (100 : Int) < (r.length : Int) := by omega
      clear hb hcase
      go_enter Tryd.func5, Tryd.ntmps5
      go_wp2_with fail
      refine (big_any _ L n HM.out).mono ?_
      rintro e w1 ⟨rfl, rfl⟩
      rw [HBG.out]
      go_wp2_with fail
      refine (awake3 HT.out).mono ?_
      rintro e wz ⟨rfl, hbz⟩
      have HBZ := Lib.hid hbz
      clear hbz
      go_wp2
      go_ret
      exact ⟨rfl, HBZ.out⟩
    have h100' : (r.length : Int) ≤ 100 := by omega
    rcases hcase with ⟨hk, hsk⟩ | ⟨m, rfl, hok, hk, ⟨hwb, hsk⟩ | ⟨hwb, hsk, hok1⟩⟩
    · have HK0 := Lib.hid hk
      have hkb := ne_bool hk
      have hkb2 : (checkM L n == 0) = false := by simpa using hk
      have HSK := Lib.hid hsk
      generalize hkk : checkM L n = k at *
      have HK := Lib.hid hkk
      clear hb hk hkk hsk
      go_enter Tryd.func5, Tryd.ntmps5
      go_wp2_with fail
      refine (big_any _ L n HM.out).mono ?_
      rintro e w1 ⟨rfl, rfl⟩
      rw [HBG.out]
      go_wp2_with fail
      refine (Spans_bad _ _ L r n HM.out HW.out HX.out HR.out HN.out (by rw [HSK.out]; exact HK0.out)).mono ?_
      rintro e w1 ⟨E1, rfl, hE1, hb1⟩
      rw [HSK.out] at hE1
      have HE1 := Lib.hid hE1
      have HB1 := Lib.hid hb1
      clear hE1 hb1
      go_wp2_with fail
      refine (refCheck_any _ L n (HM.out.mono HB1.out) HW.out).mono ?_
      rintro e w2 ⟨rfl, rfl⟩
      rw [HK.out]
      go_wp2_with fail
      refine (tells_ans k nameSpans _ HE1.out (HG.out.mono HB1.out)).mono ?_
      rintro e w3 ⟨rfl, hb3⟩
      have HB3 := Lib.hid (HB1.out.trans (hb3.mono HB1.out.size))
      clear hb3
      go_wp2_with fail
      refine (awake3 (HT.out.mono HB3.out)).mono ?_
      rintro e wz ⟨rfl, hbz⟩
      have HBZ := Lib.hid (HB3.out.trans (hbz.mono HB3.out.size))
      clear hbz
      go_wp2
      go_ret
      exact ⟨rfl, HBZ.out⟩
    · have HK := Lib.hid hk
      have HSK := Lib.hid hsk
      have HWB := Lib.hid hwb
      have hm := hok.cols
      clear hb hk hsk hwb hok
      go_enter Tryd.func5, Tryd.ntmps5
      go_wp2_with fail
      refine (big_any _ L (m : Int) HM.out).mono ?_
      rintro e w1 ⟨rfl, rfl⟩
      rw [HBG.out]
      go_wp2_with fail
      refine (Spans_bad _ _ L r (m : Int) HM.out HW.out HX.out HR.out HN.out (by rw [HSK.out]; decide)).mono ?_
      rintro e w1 ⟨E1, rfl, hE1, hb1⟩
      rw [HSK.out] at hE1
      have HE1 := Lib.hid hE1
      have HB1 := Lib.hid hb1
      clear hE1 hb1
      go_wp2_with fail
      refine (refCheck_any _ L (m : Int) (HM.out.mono HB1.out) HW.out).mono ?_
      rintro e w2 ⟨rfl, rfl⟩
      rw [HK.out]
      go_wp2_with fail
      refine (Whole_any _ r m (HX.out.mono HB1.out) HR.out hm).mono ?_
      rintro e w2 ⟨rfl, rfl⟩
      rw [HWB.out]
      go_wp2_with fail
      refine (tells_ans 2 nameSpans _ HE1.out (HG.out.mono HB1.out)).mono ?_
      rintro e w3 ⟨rfl, hb3⟩
      have HB3 := Lib.hid (HB1.out.trans (hb3.mono HB1.out.size))
      clear hb3
      go_wp2_with fail
      refine (awake3 (HT.out.mono HB3.out)).mono ?_
      rintro e wz ⟨rfl, hbz⟩
      have HBZ := Lib.hid (HB3.out.trans (hbz.mono HB3.out.size))
      clear hbz
      go_wp2
      go_ret
      exact ⟨rfl, HBZ.out⟩
    · have HK := Lib.hid hk
      have HOK := Lib.hid hok
      have HOK1 := Lib.hid hok1
      have HWB := Lib.hid hwb
      have hm := hok.cols
      have HOK2 : Hid (MatOk (L ++ [r]) m) := Lib.hid (by
        have hsm := small_of hb hok
        refine ⟨hm, by rw [List.length_append]; simp; omega, fun s hs => ?_, fun s hs => ?_⟩
        · rcases List.mem_append.1 hs with hs | hs
          · exact hok.words s hs
          · exact hok1.words s hs
        · rcases List.mem_append.1 hs with hs | hs
          · exact hok.whole s hs
          · exact hok1.whole s hs)
      clear hb hk hsk hwb hok hok1
      go_enter Tryd.func5, Tryd.ntmps5
      go_wp2_with fail
      refine (big_any _ L (m : Int) HM.out).mono ?_
      rintro e w1 ⟨rfl, rfl⟩
      rw [HBG.out]
      go_wp2_with fail
      refine (Spans_ok _ _ L r m HM.out HOK.out HX.out HOK1.out HT.out).mono ?_
      rintro e w1 ⟨b1, rfl, hbt1, hb1⟩
      have HBT1 := Lib.hid hbt1
      have HB1 := Lib.hid hb1
      clear hbt1 hb1
      go_wp2_with fail
      refine (refCheck_any _ L (m : Int) (HM.out.mono HB1.out) HW.out).mono ?_
      rintro e w2 ⟨rfl, rfl⟩
      rw [HK.out]
      go_wp2_with fail
      refine (Whole_any _ r m (HX.out.mono HB1.out) HR.out hm).mono ?_
      rintro e w2 ⟨rfl, rfl⟩
      rw [HWB.out]
      go_wp2_with fail
      refine (tells_nil _).mono ?_
      rintro e w2 ⟨rfl, rfl⟩
      go_wp2_with fail
      refine (refSpans_any _ _ L r m (HM.out.mono HB1.out) (HX.out.mono HB1.out) HOK.out HOK2.out).mono ?_
      rintro e w3 ⟨b2, rfl, hbt2, hb3⟩
      have hbb : b1 = b2 := by
        have := HBT1.out.trans hbt2.symm
        cases b1 <;> cases b2 <;> simp_all
      subst hbb
      have HB3 := Lib.hid (HB1.out.trans (hb3.mono HB1.out.size))
      have heq : (binOp .eql 4 (.bool b1) (.bool b1)).run Tryd.prog w3 = .ok (.bool true) w3 := by cases b1 <;> kernel_rfl
      clear hb3 hbt2
      go_wp2_with fail
      refine (awake3 (HT.out.mono HB3.out)).mono ?_
      rintro e wz ⟨rfl, hbz⟩
      have HBZ := Lib.hid (HB3.out.trans (hbz.mono HB3.out.size))
      clear hbz
      go_wp2
      go_ret
      exact ⟨rfl, HBZ.out⟩
end Go.Proofs.YtlbeobocppmifaaDoor
