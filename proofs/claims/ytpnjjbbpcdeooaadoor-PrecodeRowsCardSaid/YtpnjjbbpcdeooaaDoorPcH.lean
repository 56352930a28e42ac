/- Package precode: what is refused; the document's Right, In. -/
import Derived.Test.YtpnjjbbpcdeooaaDoorPcG
import Derived.Test.YtpnjjbbpcdeooaaDoorSyErr
import Derived.Deep.RegionHeld3
namespace Go.Proofs.YtpnjjbbpcdeooaaDoor
open Go.RowKit Go.Extern.Stop Go.Stop Go.Extern

/-- Numbers that are those of their K. -/
def Good (K S H L P : Int) : Prop := ∃ k s h l p : Nat, K = k ∧ S = s ∧ H = h ∧ L = l ∧ P = p ∧ 1 ≤ k ∧ k ≤ 128 ∧ OfP k s h l p

set_option maxRecDepth 1000000 in
set_option maxHeartbeats 1000000 in
theorem right_bad {w : World} (K S H L P : Int) (hb : ¬ Good K S H L P) (hK : I64 K) :
    Calls Tryd.prog 18 #[parV K S H L P] w fun e w' => ∃ E ls, e = .returned E ∧ Chain w' 1 ls E ∧ Below w.heap.size w w' := by
  obtain ⟨w0, hw0, hb0, hbx⟩ := par_laid w K S H L P
  have HW0 := Lib.hid hw0
  have HB0 := Lib.hid hb0
  have HBX := Lib.hid hbx
  obtain ⟨c0, c1, c2, c3, c4⟩ := hbx.cells
  have HBAD := Lib.hid hb
  clear hw0 hb0 hbx hb
  unfold parV parC
  by_cases hr : K < 1 ∨ 128 < K
  · go_enter Tryd.func18, Tryd.ntmps18
    go_upto_region 1 with fail
    rw [← HW0.out]
    go_wp2_with fail
    refine (Of_out K hr).mono ?_
    rintro e w1 ⟨E, rfl, hc, hb1⟩
    have HB1 := Lib.hid (HB0.out.trans (hb1.mono HB0.out.size))
    have hs1 := hb1.size
    obtain ⟨_, ls, hch⟩ := hc.resolve_left (by rintro ⟨h, -⟩; cases h)
    have HCH := Lib.hid hch
    obtain ⟨u, x, rfl⟩ := hch.iface
    clear hb1 hc hch c0 c1 c2 c3 c4
    unfold parV parC
    go_wp2
    go_ret
    exact ⟨_, _, rfl, HCH.out.mono ((Below.refl _ _).alloc (Nat.le_refl _) _), HB1.out.alloc (Nat.le_trans HB0.out.size hs1) _⟩
  · obtain ⟨k, rfl⟩ : ∃ k : Nat, K = k := ⟨K.toNat, by omega⟩
    go_enter Tryd.func18, Tryd.ntmps18
    go_upto_region 1 with fail
    rw [← HW0.out]
    go_wp2_with fail
    refine (Of_in k (by omega) (by omega)).mono ?_
    rintro e w1 ⟨s', h', l', p', rfl, hof, hb1⟩
    obtain ⟨W, hW, hbW, hby⟩ := par_laid w1 k s' h' l' p'
    have HW := Lib.hid hW
    have HB1 := Lib.hid (hb1.trans (hbW.mono hb1.size))
    have hbx2 := HBX.out.mono HB1.out
    clear c0 c1 c2 c3 c4
    obtain ⟨c0, c1, c2, c3, c4⟩ := hbx2.cells
    obtain ⟨d0, d1, d2, d3, d4⟩ := hby.cells
    have HNE : Hid (¬ (S = s' ∧ H = h' ∧ L = l' ∧ P = p')) := Lib.hid fun ⟨e1, e2, e3, e4⟩ => HBAD.out ⟨k, s', h', l', p', rfl, e1, e2, e3, e4, by omega, by omega, hof⟩
    clear hb1 hof hW hbW hby hbx2
    unfold parV parC
    go_upto_region 2 with fail
    rw [← HW.out]
    generalize w1.heap.size = g1 at *
    go_wp2
    all_goals first
      | exact (HNE.out ⟨by assumption, by assumption, by assumption, by assumption⟩).elim
      | (go_ret; exact ⟨_, [], rfl, .leaf, HB0.out.trans (HB1.out.mono HB0.out.size)⟩)

def nameRow : ByteArray := ⟨#[112, 114, 101, 99, 111, 100, 101, 46, 82, 111, 119]⟩
def nameAll : ByteArray := ⟨#[112, 114, 101, 99, 111, 100, 101, 46, 65, 108, 108]⟩
def nameIn : ByteArray := ⟨#[112, 114, 101, 99, 111, 100, 101, 46, 73, 110]⟩

set_option maxRecDepth 1000000 in
set_option maxHeartbeats 1000000 in
theorem All_bad {w : World} (K S H L P : Int) (hb : ¬ Good K S H L P) (hK : I64 K) :
    Calls Tryd.prog 13 #[parV K S H L P] w (NoSays 1 nameAll nilS w) := by
  obtain ⟨w0, hw0, hb0, hbx⟩ := par_laid w K S H L P
  have HW0 := Lib.hid hw0
  have HB0 := Lib.hid hb0
  obtain ⟨c0, c1, c2, c3, c4⟩ := hbx.cells
  have HR : Hid (∀ w, Calls Tryd.prog 18 #[.agg #[.int .i64 K, .int .i64 S, .int .i64 H, .int .i64 L, .int .i64 P]] w fun e w' => ∃ E ls, e = .returned E ∧ Chain w' 1 ls E ∧ Below w.heap.size w w') := Lib.hid fun w => right_bad K S H L P hb hK
  clear hw0 hb0 hbx hb hK
  unfold parV parC
  go_enter Tryd.func13, Tryd.ntmps13
  go_upto_region 1 with fail
  rw [← HW0.out]
  go_wp2_with fail
  refine (HR.out _).mono ?_
  rintro e w1 ⟨E, ls, rfl, hch, hb1⟩
  have HB1 := Lib.hid (HB0.out.trans (hb1.mono HB0.out.size))
  have HCH := Lib.hid hch
  obtain ⟨u, x, rfl⟩ := hch.iface
  clear hch hb1 c0 c1 c2 c3 c4
  go_wp2_with fail
  refine (Wrap_chain nameAll 1 ls _ _ HCH.out).mono ?_
  rintro e w2 ⟨E2, rfl, hch, hb2⟩
  have HB2 := Lib.hid (HB1.out.trans (hb2.mono HB1.out.size))
  have HCH2 := Lib.hid hch
  obtain ⟨u2, x2, rfl⟩ := hch.iface
  clear hch hb2
  go_wp2
  go_ret2
  exact ⟨_, rfl, .inr ⟨by decide, ls, HCH2.out⟩, HB2.out⟩

set_option maxRecDepth 1000000 in
set_option maxHeartbeats 1000000 in
theorem Row_bad {w : World} (K S H L P i : Int) (hb : ¬ Good K S H L P) (hK : I64 K) :
    Calls Tryd.prog 7 #[parV K S H L P, .int .i64 i] w (NoSays 1 nameRow nilS w) := by
  obtain ⟨w0, hw0, hb0, hbx⟩ := par_laid w K S H L P
  have HW0 := Lib.hid hw0
  have HB0 := Lib.hid hb0
  obtain ⟨c0, c1, c2, c3, c4⟩ := hbx.cells
  have HR : Hid (∀ w, Calls Tryd.prog 18 #[.agg #[.int .i64 K, .int .i64 S, .int .i64 H, .int .i64 L, .int .i64 P]] w fun e w' => ∃ E ls, e = .returned E ∧ Chain w' 1 ls E ∧ Below w.heap.size w w') := Lib.hid fun w => right_bad K S H L P hb hK
  clear hw0 hb0 hbx hb hK
  unfold parV parC
  go_enter Tryd.func7, Tryd.ntmps7
  go_upto_region 1 with fail
  rw [← HW0.out]
  go_wp2_with fail
  refine (HR.out _).mono ?_
  rintro e w1 ⟨E, ls, rfl, hch, hb1⟩
  have HB1 := Lib.hid (HB0.out.trans (hb1.mono HB0.out.size))
  have HCH := Lib.hid hch
  obtain ⟨u, x, rfl⟩ := hch.iface
  clear hch hb1 c0 c1 c2 c3 c4
  go_wp2_with fail
  refine (Wrap_chain nameRow 1 ls _ _ HCH.out).mono ?_
  rintro e w2 ⟨E2, rfl, hch, hb2⟩
  have HB2 := Lib.hid (HB1.out.trans (hb2.mono HB1.out.size))
  have HCH2 := Lib.hid hch
  obtain ⟨u2, x2, rfl⟩ := hch.iface
  clear hch hb2
  go_wp2
  go_ret2
  exact ⟨_, rfl, .inr ⟨by decide, ls, HCH2.out⟩, HB2.out⟩

set_option maxRecDepth 1000000 in
set_option maxHeartbeats 1000000 in
theorem In_bad {w : World} (K S H L P i : Int) (hb : ¬ Good K S H L P) (hK : I64 K) :
    Calls Tryd.prog 16 #[parV K S H L P, .int .i64 i] w (NoSays 1 nameIn nilS w) := by
  obtain ⟨w0, hw0, hb0, hbx⟩ := par_laid w K S H L P
  have HW0 := Lib.hid hw0
  have HB0 := Lib.hid hb0
  obtain ⟨c0, c1, c2, c3, c4⟩ := hbx.cells
  have HR : Hid (∀ w, Calls Tryd.prog 18 #[.agg #[.int .i64 K, .int .i64 S, .int .i64 H, .int .i64 L, .int .i64 P]] w fun e w' => ∃ E ls, e = .returned E ∧ Chain w' 1 ls E ∧ Below w.heap.size w w') := Lib.hid fun w => right_bad K S H L P hb hK
  clear hw0 hb0 hbx hb hK
  unfold parV parC
  go_enter Tryd.func16, Tryd.ntmps16
  go_upto_region 1 with fail
  rw [← HW0.out]
  go_wp2_with fail
  refine (HR.out _).mono ?_
  rintro e w1 ⟨E, ls, rfl, hch, hb1⟩
  have HB1 := Lib.hid (HB0.out.trans (hb1.mono HB0.out.size))
  have HCH := Lib.hid hch
  obtain ⟨u, x, rfl⟩ := hch.iface
  clear hch hb1 c0 c1 c2 c3 c4
  go_wp2_with fail
  refine (Wrap_chain nameIn 1 ls _ _ HCH.out).mono ?_
  rintro e w2 ⟨E2, rfl, hch, hb2⟩
  have HB2 := Lib.hid (HB1.out.trans (hb2.mono HB1.out.size))
  have HCH2 := Lib.hid hch
  obtain ⟨u2, x2, rfl⟩ := hch.iface
  clear hch hb2
  go_wp2
  go_ret2
  exact ⟨_, rfl, .inr ⟨by decide, ls, HCH2.out⟩, HB2.out⟩

set_option maxRecDepth 1000000 in
set_option maxHeartbeats 1000000 in
theorem Row_none {w : World} (k s h l p : Nat) (i : Int) (H : OfP k s h l p) (hk1 : 1 ≤ k) (hk2 : k ≤ 128) (hi : i < 0 ∨ (s : Int) + h ≤ i) :
    Calls Tryd.prog 7 #[parV k s h l p, .int .i64 i] w (NoSays 4 nameRow nilS w) := by
  obtain ⟨w0, hw0, hb0, hbx⟩ := par_laid w k s h l p
  have HW0 := Lib.hid hw0
  have HB0 := Lib.hid hb0
  have HBX := Lib.hid hbx
  obtain ⟨c0, c1, c2, c3, c4⟩ := hbx.cells
  obtain ⟨b1, b2, b3, b4, -⟩ := H.bounds hk1 hk2
  have HR : Hid (∀ w, Calls Tryd.prog 18 #[.agg #[.int .i64 (k : Int), .int .i64 (s : Int), .int .i64 (h : Int), .int .i64 (l : Int), .int .i64 (p : Int)]] w fun e w' => e = .returned .nilIface ∧ Below w.heap.size w w') := Lib.hid fun w => right_ok k s h l p H hk1 hk2
  have HD : Hid (decide (i < 0) = true ∨ decide (i < 0) = false ∧ decide ((s : Int) + (h : Int) ≤ i) = true) := Lib.hid (by
    by_cases h' : i < 0
    · exact .inl (decide_eq_true h')
    · exact .inr ⟨decide_eq_false h', decide_eq_true (by omega)⟩)
  clear hw0 hb0 hbx H hi
  unfold parV parC
  rcases HD.out with d1 | ⟨d1, d2⟩
  all_goals
    go_enter Tryd.func7, Tryd.ntmps7
    go_upto_region 1 with fail
    rw [← HW0.out]
    go_wp2_with fail
    refine (HR.out _).mono ?_
    rintro e w1 ⟨rfl, hb1⟩
    have HB1 := Lib.hid (HB0.out.trans (hb1.mono HB0.out.size))
    have hbx2 := HBX.out.mono hb1
    clear c0 c1 c2 c3 c4
    obtain ⟨c0, c1, c2, c3, c4⟩ := hbx2.cells
    clear hb1 hbx2
    go_wp2_with fail
    refine (New_ans _ 4 (by decide) _).mono ?_
    rintro e w2 ⟨E1, rfl, hc1, hb2⟩
    have HC1 := Lib.hid hc1
    have HB2 := Lib.hid (HB1.out.trans (hb2.mono HB1.out.size))
    obtain ⟨u, x, rfl⟩ := hc1.some (by decide)
    clear hc1 hb2 c0 c1 c2 c3 c4
    go_wp2
    go_ret2
    exact ⟨_, rfl, HC1.out, HB2.out⟩

set_option maxRecDepth 1000000 in
set_option maxHeartbeats 1000000 in
theorem In_none {w : World} (k s h l p : Nat) (i : Int) (H : OfP k s h l p) (hk1 : 1 ≤ k) (hk2 : k ≤ 128) (hi : i < 0 ∨ (l : Int) ≤ i) :
    Calls Tryd.prog 16 #[parV k s h l p, .int .i64 i] w (NoSays 4 nameIn nilS w) := by
  obtain ⟨w0, hw0, hb0, hbx⟩ := par_laid w k s h l p
  have HW0 := Lib.hid hw0
  have HB0 := Lib.hid hb0
  have HBX := Lib.hid hbx
  obtain ⟨c0, c1, c2, c3, c4⟩ := hbx.cells
  obtain ⟨b1, b2, b3, b4, b5, -⟩ := H.bounds hk1 hk2
  have HR : Hid (∀ w, Calls Tryd.prog 18 #[.agg #[.int .i64 (k : Int), .int .i64 (s : Int), .int .i64 (h : Int), .int .i64 (l : Int), .int .i64 (p : Int)]] w fun e w' => e = .returned .nilIface ∧ Below w.heap.size w w') := Lib.hid fun w => right_ok k s h l p H hk1 hk2
  have HD : Hid (decide (i < 0) = true ∨ decide (i < 0) = false ∧ decide ((l : Int) ≤ i) = true) := Lib.hid (by
    by_cases h' : i < 0
    · exact .inl (decide_eq_true h')
    · exact .inr ⟨decide_eq_false h', decide_eq_true (by omega)⟩)
  clear hw0 hb0 hbx H hi
  unfold parV parC
  rcases HD.out with d1 | ⟨d1, d2⟩
  all_goals
    go_enter Tryd.func16, Tryd.ntmps16
    go_upto_region 1 with fail
    rw [← HW0.out]
    go_wp2_with fail
    refine (HR.out _).mono ?_
    rintro e w1 ⟨rfl, hb1⟩
    have HB1 := Lib.hid (HB0.out.trans (hb1.mono HB0.out.size))
    have hbx2 := HBX.out.mono hb1
    clear c0 c1 c2 c3 c4
    obtain ⟨c0, c1, c2, c3, c4⟩ := hbx2.cells
    clear hb1 hbx2
    go_wp2_with fail
    refine (New_ans _ 4 (by decide) _).mono ?_
    rintro e w2 ⟨E1, rfl, hc1, hb2⟩
    have HC1 := Lib.hid hc1
    have HB2 := Lib.hid (HB1.out.trans (hb2.mono HB1.out.size))
    obtain ⟨u, x, rfl⟩ := hc1.some (by decide)
    clear hc1 hb2 c0 c1 c2 c3 c4
    go_wp2
    go_ret2
    exact ⟨_, rfl, HC1.out, HB2.out⟩

set_option maxRecDepth 1000000 in
set_option maxHeartbeats 1000000 in
theorem Gray_out {w : World} (wt n : Int) (h : wt < 1 ∨ 16 < wt ∨ n < 0 ∨ 4096 < n) :
    Calls Tryd.prog 14 #[.int .i64 wt, .int .i64 n] w (NoSays 1 nameGray nilS w) := by
  have HD : Hid (decide (wt < 1) = true ∨ decide (wt < 1) = false ∧ (decide ((16 : Int) < wt) = true ∨ decide ((16 : Int) < wt) = false ∧ (decide (n < 0) = true ∨ decide (n < 0) = false ∧ decide ((4096 : Int) < n) = true))) := Lib.hid (by
    by_cases h1 : wt < 1
    · exact .inl (decide_eq_true h1)
    · by_cases h2 : 16 < wt
      · exact .inr ⟨decide_eq_false h1, .inl (decide_eq_true h2)⟩
      · by_cases h3 : n < 0
        · exact .inr ⟨decide_eq_false h1, .inr ⟨decide_eq_false h2, .inl (decide_eq_true h3)⟩⟩
        · exact .inr ⟨decide_eq_false h1, .inr ⟨decide_eq_false h2, .inr ⟨decide_eq_false h3, decide_eq_true (by omega)⟩⟩⟩)
  clear h
  rcases HD.out with d1 | ⟨d1, d2 | ⟨d2, d3 | ⟨d3, d4⟩⟩⟩
  all_goals
    go_enter Tryd.func14, Tryd.ntmps14
    go_wp2_with fail
    refine (New_ans _ 1 (by decide) _).mono ?_
    rintro e w2 ⟨E1, rfl, hc1, hb2⟩
    have HC1 := Lib.hid hc1
    have HB2 := Lib.hid hb2
    obtain ⟨u, x, rfl⟩ := hc1.some (by decide)
    clear hc1 hb2
    go_wp2
    go_ret2
    exact ⟨_, rfl, HC1.out, HB2.out⟩
end Go.Proofs.YtpnjjbbpcdeooaaDoor
