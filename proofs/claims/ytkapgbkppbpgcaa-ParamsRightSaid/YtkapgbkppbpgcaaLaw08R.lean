/- The eighth layer's law ParamsRight: the walk. -/
import Derived.Test.YtkapgbkppbpgcaaLaw08L
import Derived.Deep.Cut
namespace Go.Proofs.Ytkapgbkppbpgcaa
open Go.RowKit Go.Extern.Stop Go.Stop Go.Extern

set_option maxRecDepth 1000000 in
set_option maxHeartbeats 4000000 in
theorem right8 {w : World} (k : Int) : Calls Try.prog 5 #[.int .i64 k] w fun e w' => e = .returned (.bool true) ∧ Below w.heap.size w w' := by
  obtain ⟨a, ha, ha1⟩ : ∃ a : Nat, (IntKind.u64.wrap k).tmod 127 = (a : Int) ∧ a ≤ 126 := by
    have h0 := wrapU_nonneg k
    have := Int.tmod_nonneg 127 h0
    have := Int.tmod_lt_of_pos (IntKind.u64.wrap k) (b := 127) (by decide)
    exact ⟨((IntKind.u64.wrap k).tmod 127).toNat, by omega, by omega⟩
  obtain ⟨K, hK⟩ : ∃ K : Nat, 1 + (a : Int) = (K : Int) := ⟨a + 1, by omega⟩
  have hK1 : 1 ≤ K := by omega
  have hK2 : K ≤ 127 := by omega
  have hK3 : (K : Int) + 1 = ((K + 1 : Nat) : Int) := by omega
  have HK := Lib.hid hK
  have HK3 := Lib.hid hK3
  clear hK hK3
  go_enter Try.func5, Try.ntmps5
  go_wp2_with fail
  clear ha
  rw [HK.out]
  refine (Of_in K hK1 (by omega)).mono ?_
  rintro e w1 ⟨s, h, l, p, rfl, hof, hb1⟩
  obtain ⟨W, hW, hbW, hbx⟩ := par_laid w1 K s h l p
  have HOF := Lib.hid hof
  have HW := Lib.hid hW
  have HB1 := Lib.hid (hb1.trans (hbW.mono hb1.size))
  have HBX := Lib.hid hbx
  clear hb1 hof hW hbW hbx
  unfold parV parC
  go_wp2_with fail
  rw [← HW.out, HK3.out]
  clear HW
  obtain ⟨g, hg⟩ : ∃ g, w1.heap.size = g := ⟨_, rfl⟩
  rw [hg] at HBX ⊢
  clear hg
  refine (Of_in (K + 1) (by omega) (by omega)).mono ?_
  rintro e w2 ⟨s', h', l', p', rfl, hof', hb2⟩
  obtain ⟨W', hW', hbW', hbx'⟩ := par_laid w2 ((K : Int) + 1) s' h' l' p'
  have HOF' := Lib.hid hof'
  have HW' := Lib.hid hW'
  have HB2 := Lib.hid ((HB1.out.trans (hb2.mono HB1.out.size)).trans (hbW'.mono (Nat.le_trans HB1.out.size hb2.size)))
  have HBX2 := Lib.hid (HBX.out.mono (hb2.trans (hbW'.mono hb2.size)))
  have HBX' := Lib.hid hbx'
  obtain ⟨c0, c1, c2, c3, c4⟩ := HBX2.out.cells
  obtain ⟨b1, b2, b3, b4, b5, b6, b7⟩ := HOF.out.bounds hK1 (by omega)
  clear hb2 hof' hW' hbW' hbx' HBX
  have d1 : decide ((s : Int) < 3) = false := decide_eq_false (by omega)
  have d2 : decide (s < 3) = false := decide_eq_false (by omega)
  have hl : (l : Int) = (K : Int) + (s : Int) + (h : Int) := by have := HOF.out.2.2.1; omega
  have d3 : ((l : Int) != (K : Int) + (s : Int) + (h : Int)) = false := by simpa using hl
  have d4 : decide ((p : Int) < (l : Int)) = false := decide_eq_false (by omega)
  have d5 : decide (p < l) = false := decide_eq_false (by omega)
  have P1 : Hid (isPI (s : Int) = true) := Lib.hid (by
    obtain ⟨x, -, hs⟩ := HOF.out.1
    exact isPI_true (by omega) (by omega) (by simpa using hs.1))
  have P2 : Hid (isPI (p : Int) = true) := Lib.hid (isPI_true (by omega) (by omega) (by simpa using HOF.out.2.2.2.1))
  clear hl
  unfold parV parC
  rw [← HK3.out]
  go_upto_region 4 with fail
  rw [← HW'.out]
  obtain ⟨g', hg'⟩ : ∃ g', w2.heap.size = g' := ⟨_, rfl⟩
  rw [hg'] at HBX' ⊢
  clear hg' HW'
  go_wp2_with fail
  refine (IsPrime_any (s : Int) ⟨by omega, by omega⟩).mono ?_
  rintro e w3 ⟨rfl, rfl⟩
  rw [P1.out]
  go_wp2_with fail
  refine (IsPrime_any (p : Int) ⟨by omega, by omega⟩).mono ?_
  rintro e w3 ⟨rfl, rfl⟩
  rw [P2.out]
  obtain ⟨j, hj⟩ : ∃ j : Nat, (h : Int) - 1 = (j : Int) := ⟨h - 1, by omega⟩
  have hjh : h = j + 1 := by omega
  obtain ⟨X, Y, HX, HY, hX, hY⟩ : ∃ X Y : Nat, Hid (chI h (((h : Int) + 1) / 2) = X) ∧ Hid (chI j ((h : Int) / 2) = Y) ∧ K + s ≤ X ∧ Y < K + s := by
    obtain ⟨h1, h2⟩ := HOF.out.2.1
    refine ⟨_, _, Lib.hid rfl, Lib.hid rfl, ?_, ?_⟩
    · rw [show ((h : Int) + 1) / 2 = (((h + 1) / 2 : Nat) : Int) by omega, chI_nat]; exact h1
    · rw [show (h : Int) / 2 = (((j + 1) / 2 : Nat) : Int) by omega, chI_nat]; exact h2 j (by omega)
  have HJ := Lib.hid hj
  clear hj hjh
  go_wp2_with fail
  refine (Choose_in h (((h : Int) + 1) / 2) (by omega) ⟨by omega, by omega⟩).mono ?_
  rintro e w3 ⟨rfl, hb3⟩
  rw [HX.out]
  have HB3 := Lib.hid (HB2.out.trans (hb3.mono HB2.out.size))
  have HBX3 := Lib.hid (HBX2.out.mono hb3)
  have HBX3' := Lib.hid (HBX'.out.mono hb3)
  clear c0 c1 c2 c3 c4 hb3 HBX2 HBX'
  obtain ⟨c0, c1, c2, c3, c4⟩ := HBX3.out.cells
  go_wp2_with fail
  rw [HJ.out]
  refine (Choose_in j ((h : Int) / 2) (by have := HJ.out; omega) ⟨by omega, by omega⟩).mono ?_
  rintro e w4 ⟨rfl, hb4⟩
  rw [HY.out]
  have HB4 := Lib.hid (HB3.out.trans (hb4.mono HB3.out.size))
  obtain ⟨m1, m2, m3, m4⟩ := HOF.out.mono HOF'.out
  have q0 := (HBX3.out.mono hb4).cells
  have q1 := (HBX3'.out.mono hb4).cells
  clear c0 c1 c2 c3 c4 hb4 HBX3 HBX3'
  obtain ⟨c0, c1, c2, c3, c4⟩ := q0
  obtain ⟨z0, z1, z2, z3, z4⟩ := q1
  have t1 : decide ((K : Int) + (s : Int) ≤ (X : Int)) = true := decide_eq_true (by omega)
  have t2 : decide ((Y : Int) < (K : Int) + (s : Int)) = true := decide_eq_true (by omega)
  have t3 : decide ((s : Int) ≤ (s' : Int)) = true := decide_eq_true (by omega)
  have t3' : decide (s ≤ s') = true := decide_eq_true (by omega)
  have t4 : decide ((h : Int) ≤ (h' : Int)) = true := decide_eq_true (by omega)
  have t4' : decide (h ≤ h') = true := decide_eq_true (by omega)
  have t5 : decide ((l : Int) < (l' : Int)) = true := decide_eq_true (by omega)
  have t5' : decide (l < l') = true := decide_eq_true (by omega)
  have t6 : decide ((p : Int) ≤ (p' : Int)) = true := decide_eq_true (by omega)
  have t6' : decide (p ≤ p') = true := decide_eq_true (by omega)
  go_wp2_with fail
  refine (awake8 _).mono ?_
  rintro e w5 ⟨rfl, hb5⟩
  have HB5 := Lib.hid (HB4.out.trans (hb5.mono HB4.out.size))
  clear hb5
  go_wp2
  go_ret
  exact ⟨rfl, HB5.out⟩
end Go.Proofs.Ytkapgbkppbpgcaa
