/- The eighteenth layer's law CalendarNexts. (Made by gen18.py.) -/
import Derived.Test.YtgbogglalnafeaaDoorLaw18
import Derived.Test.YtgbogglalnafeaaDoorLaw18T
namespace Go.Proofs.YtgbogglalnafeaaDoor
open Go.RowKit Go.Extern.Stop Go.Stop Go.Extern

set_option linter.unusedSimpArgs false in
set_option linter.unusedVariables false in
set_option maxRecDepth 1000000 in
set_option maxHeartbeats 4000000 in
theorem nexts18 (hR : CaRowC) (hS : CaSyncC) (hN : CaNextC) {w : World} (b l t : Int) (ib : I64 b) (ip : I64 l) (it : I64 t) (hg : Laid w) :
    Calls Tryd.prog 5 #[.int .i64 b, .int .i64 l, .int .i64 t] w fun e w' => e = .returned (.bool true) ∧ Below w.heap.size w w' := by
  have HBC := Lib.hid (hN w b l t ib ip it)
  have HK1 := Lib.hid fun V => caCheck_any (w := V) b 1 t ib ⟨by decide, by decide⟩ it
  have HAW : Hid (∀ V : World, Calls Tryd.prog 11 #[] V fun e w' => e = .returned (.bool true) ∧ Below V.heap.size V w') := Lib.hid fun V => awake18 hR hS
  have HG := Lib.hid hg
  have HRF : Hid (CaOk b 1 t ∧ 0 ≤ l ∧ l ≤ 7 → ∀ V : World, Calls Tryd.prog 16 #[.int .i64 b, .int .i64 l, .int .i64 t] V fun e w' => e = .returned (.int .i64 ((nextZ b.toNat l.toNat t.toNat : Nat) : Int)) ∧ V = w') := Lib.hid fun h V => by
    obtain ⟨b', u', t', rfl, -, rfl, h1, h2, h3, h4, h5⟩ := h.1.nat
    obtain ⟨l', rfl⟩ : ∃ l' : Nat, l = (l' : Int) := ⟨l.toNat, by omega⟩
    simp only [Int.toNat_natCast]
    exact caNext_any b' l' t' h1 h2 (by omega) h5
  have HRS : Hid (CaOk b 1 t ∧ 0 ≤ l ∧ l ≤ 7 → ∀ V : World, Calls Tryd.prog 14 #[.int .i64 b, .int .i64 (l + 1), .int .i64 ((nextZ b.toNat l.toNat t.toNat : Nat) : Int)] V fun e w' => e = .returned (.int .i64 l) ∧ V = w') := Lib.hid fun h V => by
    obtain ⟨b', u', t', rfl, -, rfl, h1, h2, h3, h4, h5⟩ := h.1.nat
    obtain ⟨l', rfl⟩ : ∃ l' : Nat, l = (l' : Int) := ⟨l.toNat, by omega⟩
    simp only [Int.toNat_natCast]
    have hp : (2 : Nat) ^ l' ≤ 2 ^ 7 := Nat.pow_le_pow_right (by decide) (by omega)
    have hE : b' * 2 ^ l' ≤ 524288 := Nat.le_trans (Nat.mul_le_mul h2 hp) (by decide)
    have hn : nextZ b' l' t' < 2199023255552 := by unfold nextZ; omega
    have h := caSync_any (w := V) b' (l' + 1) (nextZ b' l' t') h1 h2 (by omega) hn
    rw [sync_next (by omega)] at h
    exact h
  have HGT : Hid (CaOk b 1 t ∧ 0 ≤ l ∧ l ≤ 7 → t < ((nextZ b.toNat l.toNat t.toNat : Nat) : Int) ∧ ((nextZ b.toNat l.toNat t.toNat : Nat) : Int) < 2199023255552) := Lib.hid fun h => by
    obtain ⟨b', u', t', rfl, -, rfl, h1, h2, h3, h4, h5⟩ := h.1.nat
    simp only [Int.toNat_natCast]
    have hp : (2 : Nat) ^ l.toNat ≤ 2 ^ 7 := Nat.pow_le_pow_right (by decide) (by omega)
    have hE : b' * 2 ^ l.toNat ≤ 524288 := Nat.le_trans (Nat.mul_le_mul h2 hp) (by decide)
    have hn : nextZ b' l.toNat t' < 2199023255552 := by unfold nextZ; omega
    have := nextZ_gt (b := b') (l := l.toNat) (t := t') (by omega)
    omega
  clear hR hS hN hg ib ip it
  go_enter Tryd.func5, Tryd.ntmps5
  go_wp2_with fail
  refine HBC.out.mono ?_
  rintro e w1 ⟨hb1, ⟨hno, E, rfl, hE⟩ | ⟨hok, rfl⟩⟩
  · have HB1 := Lib.hid hb1
    have HTL := Lib.hid (tells_ans 1 nameCaNext E hE (HG.out.mono hb1))
    clear hb1 hE
    by_cases h0 : CaOk b 1 t
    · have HK := HK1
      rw [caN_zero.2 h0] at HK
      by_cases c1 : l < 0
      · have d1 : decide (l < 0) = true := decide_eq_true c1
        clear h0 hno c1 HBC HRF
        go_wp2_with fail
        refine (HK.out _).mono ?_
        rintro e w2 ⟨rfl, rfl⟩
        go_wp2_with fail
        refine (HTL.out).mono ?_
        rintro e w3 ⟨rfl, hb3⟩
        have HB3 := Lib.hid (HB1.out.trans (hb3.mono HB1.out.size))
        clear hb3
        go_wp2_with fail
        refine (HAW.out _).mono ?_
        rintro e w9 ⟨rfl, hb9⟩
        have HB9 := Lib.hid (HB3.out.trans (hb9.mono HB3.out.size))
        clear hb9
        go_wp2
        go_ret
        exact ⟨rfl, HB9.out⟩
      · have d1 : decide (l < 0) = false := decide_eq_false c1
        have c2 : 7 < l := by
          rcases Int.lt_or_le 7 l with h | h
          · exact h
          · exact absurd ⟨h0, by omega, h⟩ hno
        have d2 : decide (7 < l) = true := decide_eq_true c2
        clear h0 hno c1 c2 HBC HRF
        go_wp2_with fail
        refine (HK.out _).mono ?_
        rintro e w2 ⟨rfl, rfl⟩
        go_wp2_with fail
        refine (HTL.out).mono ?_
        rintro e w3 ⟨rfl, hb3⟩
        have HB3 := Lib.hid (HB1.out.trans (hb3.mono HB1.out.size))
        clear hb3
        go_wp2_with fail
        refine (HAW.out _).mono ?_
        rintro e w9 ⟨rfl, hb9⟩
        have HB9 := Lib.hid (HB3.out.trans (hb9.mono HB3.out.size))
        clear hb9
        go_wp2
        go_ret
        exact ⟨rfl, HB9.out⟩
    · have HK := HK1
      rw [caN_one h0] at HK
      clear h0 hno HBC HRF
      go_wp2_with fail
      refine (HK.out _).mono ?_
      rintro e w2 ⟨rfl, rfl⟩
      go_wp2_with fail
      refine (HTL.out).mono ?_
      rintro e w3 ⟨rfl, hb3⟩
      have HB3 := Lib.hid (HB1.out.trans (hb3.mono HB1.out.size))
      clear hb3
      go_wp2_with fail
      refine (HAW.out _).mono ?_
      rintro e w9 ⟨rfl, hb9⟩
      have HB9 := Lib.hid (HB3.out.trans (hb9.mono HB3.out.size))
      clear hb9
      go_wp2
      go_ret
      exact ⟨rfl, HB9.out⟩
  · have HB1 := Lib.hid hb1
    have HK := HK1
    rw [caN_zero.2 hok.1] at HK
    have HRF1 := Lib.hid (HRF.out hok)
    have HRS1 := Lib.hid (HRS.out hok)
    obtain ⟨hgt, hlt⟩ := HGT.out hok
    have lw : IntKind.i64.wrap (l + 1) = l + 1 := IntWalk.i64_in _ (by have := hok.2; omega)
    have lb1 : 0 ≤ l := hok.2.1
    have lb2 : l ≤ 7 := hok.2.2
    have dl : (l == l) = true := by simp
    have d1 : decide (l < 0) = false := decide_eq_false (by have := hok.2; omega)
    have d2 : decide (7 < l) = false := decide_eq_false (by have := hok.2; omega)
    generalize ((nextZ b.toNat l.toNat t.toNat : Nat) : Int) = z at *
    have dz : (z == z) = true := by simp
    have dg : decide (t < z) = true := decide_eq_true hgt
    clear HRS HGT
    clear hb1 hok HBC HRF
    go_wp2_with fail
    refine (HK.out _).mono ?_
    rintro e w2 ⟨rfl, rfl⟩
    go_wp2_with fail
    refine (HRF1.out _).mono ?_
    rintro e w3 ⟨rfl, rfl⟩
    go_wp2_with fail
    refine (HRS1.out _).mono ?_
    rintro e w4 ⟨rfl, rfl⟩
    go_wp2_with fail
    refine (HAW.out _).mono ?_
    rintro e w9 ⟨rfl, hb9⟩
    have HB9 := Lib.hid (HB1.out.trans (hb9.mono HB1.out.size))
    clear hb9
    go_wp2
    go_ret
    exact ⟨rfl, HB9.out⟩
end Go.Proofs.YtgbogglalnafeaaDoor
