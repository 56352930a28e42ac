/- Package blocking: Check, Source, Of. -/
import Derived.Test.YteilneoamhnndaaDoorBkA
import Derived.Test.YteilneoamhnndaaDoorErrWrap
namespace Go.Proofs.YteilneoamhnndaaDoor
open Go.RowKit Go.Extern.Stop Go.Stop Go.Extern

def nameBkOf : ByteArray := ⟨#[98, 108, 111, 99, 107, 105, 110, 103, 46, 79, 102]⟩
def nameBkCheck : ByteArray := ⟨#[98, 108, 111, 99, 107, 105, 110, 103, 46, 67, 104, 101, 99, 107]⟩
def nameBkSource : ByteArray := ⟨#[98, 108, 111, 99, 107, 105, 110, 103, 46, 83, 111, 117, 114, 99, 101]⟩
def nameBkCut : ByteArray := ⟨#[98, 108, 111, 99, 107, 105, 110, 103, 46, 67, 117, 116]⟩
def nameBkJoin : ByteArray := ⟨#[98, 108, 111, 99, 107, 105, 110, 103, 46, 74, 111, 105, 110]⟩

set_option maxRecDepth 1000000 in
set_option maxHeartbeats 4000000 in
theorem bkCheck_any {w : World} (s b n l q : Int) (hs : I64 s) (hb : I64 b) (hn : I64 n) (hl : I64 l) (hq : I64 q) :
    Calls Tryd.prog 13 #[plV s b n l q] w fun e w' => ∃ E, e = .returned E ∧ ErrAns (planC s b n l q) nameBkCheck w' E ∧ Below w.heap.size w w' := by
  have HWR : Hid (∀ V : World, Calls Tryd.prog 28 #[.agg #[.int .i64 s, .int .i64 b, .int .i64 n, .int .i64 l, .int .i64 q]] V fun e w' => e = .returned (.int .i64 (planC s b n l q)) ∧ Below V.heap.size V w') := Lib.hid fun V => bkWrong_any s b n l q hs hb hn hl hq
  generalize planC s b n l q = k at *
  unfold plV plC
  obtain ⟨W0, hW0, hb0, hbx⟩ := pl_laid w s b n l q
  have HW0 := Lib.hid hW0
  have HB0 := Lib.hid hb0
  clear hs hb hn hl hq hW0 hb0 hbx
  go_enter Tryd.func13, Tryd.ntmps13
  go_wp2_with fail
  rw [← HW0.out]
  refine (HWR.out W0).mono ?_
  rintro e w1 ⟨rfl, hb1⟩
  have HB1 := Lib.hid (HB0.out.trans (hb1.mono HB0.out.size))
  clear hb1
  go_wp2_with fail
  refine (New_both nameBkCheck k _).mono ?_
  rintro e w2 ⟨E, rfl, hc, hb2⟩
  have HC := Lib.hid hc
  have HB2 := Lib.hid (HB1.out.trans (hb2.mono HB1.out.size))
  clear hc hb2
  go_wp2
  go_ret
  exact ⟨_, rfl, HC.out, HB2.out⟩

def srcC (s b n l q i : Int) : Int := if planC s b n l q = 0 then (if i < 0 ∨ n ≤ i then 1 else 0) else planC s b n l q

set_option maxRecDepth 1000000 in
set_option maxHeartbeats 4000000 in
theorem bkSource_any {w : World} (s b n l q i : Int) (hs : I64 s) (hb : I64 b) (hn : I64 n) (hl : I64 l) (hq : I64 q) :
    Calls Tryd.prog 12 #[plV s b n l q, .int .i64 i] w fun e w' => ∃ E, e = .returned (.tuple #[.int .i64 (if srcC s b n l q i = 0 then (if i < l then q + 1 else q) else 0), E]) ∧ ErrAns (srcC s b n l q i) nameBkSource w' E ∧ Below w.heap.size w w' := by
  have HCK : Hid (∀ V : World, Calls Tryd.prog 13 #[.agg #[.int .i64 s, .int .i64 b, .int .i64 n, .int .i64 l, .int .i64 q]] V fun e w' => ∃ E, e = .returned E ∧ ErrAns (planC s b n l q) nameBkCheck w' E ∧ Below V.heap.size V w') := Lib.hid fun V => bkCheck_any s b n l q hs hb hn hl hq
  obtain ⟨W0, hW0, hb0, hbx⟩ := pl_laid w s b n l q
  have HW0 := Lib.hid hW0
  have HB0 := Lib.hid hb0
  have HX := Lib.hid hbx
  by_cases hk : planC s b n l q = 0
  · have HCN : Hid (∀ V : World, Calls Tryd.prog 27 #[.agg #[.int .i64 s, .int .i64 b, .int .i64 n, .int .i64 l, .int .i64 q], .int .i64 i] V fun e w' => e = .returned (.int .i64 (if i < l then q + 1 else q)) ∧ Below V.heap.size V w') := Lib.hid fun V => by
      obtain ⟨s', b', n', l', q', rfl, rfl, rfl, rfl, rfl, h⟩ := planC_zero hk
      exact bkCount_any _ _ _ _ _ i (by omega) (by have := h.q128; omega)
    have hS : srcC s b n l q i = if i < 0 ∨ n ≤ i then 1 else 0 := by unfold srcC; rw [if_pos hk]
    rw [hS]
    rw [hk] at HCK
    clear hs hb hn hl hq hW0 hb0 hbx hS hk
    unfold plV plC
    by_cases hi : i < 0 ∨ n ≤ i
    · rw [if_pos hi]
      have HBAD : decide (i < 0) = true ∨ decide (i < 0) = false ∧ decide (n ≤ i) = true := by
        by_cases h : i < 0
        · exact .inl (decide_eq_true h)
        · exact .inr ⟨decide_eq_false h, decide_eq_true (by omega)⟩
      clear hi
      rcases HBAD with d1 | ⟨d1, d2⟩
      all_goals
        go_enter Tryd.func12, Tryd.ntmps12
        go_wp2_with fail
        rw [← HW0.out]
        refine (HCK.out W0).mono ?_
        rintro e w1 ⟨E, rfl, he, hb1⟩
        obtain rfl : E = .nilIface := by
          rcases he with ⟨-, h⟩ | ⟨h, -⟩
          · exact h
          · exact absurd rfl h
        have HB1 := Lib.hid (HB0.out.trans (hb1.mono HB0.out.size))
        obtain ⟨c0, c1, c2, c3, c4⟩ := (HX.out.mono hb1).cells
        clear he hb1
        go_wp2_with fail
        refine (New_ans nameBkSource 1 (by decide) _).mono ?_
        rintro e w2 ⟨E, rfl, hc, hb2⟩
        have HC := Lib.hid hc
        have HB2 := Lib.hid (HB1.out.trans (hb2.mono HB1.out.size))
        clear hc hb2
        go_wp2
        go_ret2
        exact ⟨_, rfl, HC.out, HB2.out⟩
    · rw [if_neg hi]
      have d1 : decide (i < 0) = false := decide_eq_false (by omega)
      have d2 : decide (n ≤ i) = false := decide_eq_false (by omega)
      clear hi
      generalize (if i < l then q + 1 else q) = x at *
      go_enter Tryd.func12, Tryd.ntmps12
      go_wp2_with fail
      rw [← HW0.out]
      refine (HCK.out W0).mono ?_
      rintro e w1 ⟨E, rfl, he, hb1⟩
      obtain rfl : E = .nilIface := by
        rcases he with ⟨-, h⟩ | ⟨h, -⟩
        · exact h
        · exact absurd rfl h
      have HB1 := Lib.hid (HB0.out.trans (hb1.mono HB0.out.size))
      obtain ⟨c0, c1, c2, c3, c4⟩ := (HX.out.mono hb1).cells
      clear he hb1
      go_wp2_with fail
      refine (HCN.out w1).mono ?_
      rintro e w2 ⟨rfl, hb2⟩
      have HB2 := Lib.hid (HB1.out.trans (hb2.mono HB1.out.size))
      clear hb2
      go_wp2
      go_ret2
      exact ⟨_, rfl, ErrAns.none _ _, HB2.out⟩
  · have hS : srcC s b n l q i = planC s b n l q := by unfold srcC; rw [if_neg hk]
    rw [hS, if_neg hk]
    generalize planC s b n l q = k at *
    clear hs hb hn hl hq hW0 hb0 hbx hS
    unfold plV plC
    go_enter Tryd.func12, Tryd.ntmps12
    go_wp2_with fail
    rw [← HW0.out]
    refine (HCK.out W0).mono ?_
    rintro e w1 ⟨E, rfl, he, hb1⟩
    have HB1 := Lib.hid (HB0.out.trans (hb1.mono HB0.out.size))
    have HCH := Lib.hid he
    obtain ⟨u, x, rfl⟩ := he.some hk
    clear he hb1
    go_wp2_with fail
    refine (Wrap_ans nameBkSource _ k _ _ hk HCH.out).mono ?_
    rintro e w2 ⟨E2, rfl, hch, hb2⟩
    have HB2 := Lib.hid (HB1.out.trans (hb2.mono HB1.out.size))
    have HC := Lib.hid hch
    obtain ⟨u2, x2, rfl⟩ := hch.some hk
    clear hch hb2
    go_wp2
    go_ret2
    exact ⟨_, rfl, HC.out, HB2.out⟩
end Go.Proofs.YteilneoamhnndaaDoor
