/- The eighteenth layer's law CalendarSyncs. (Made by gen18.py.) -/
import Derived.Test.YtgbogglalnafeaaDoorLaw18
import Derived.Test.YtgbogglalnafeaaDoorLaw18T
namespace Go.Proofs.YtgbogglalnafeaaDoor
open Go.RowKit Go.Extern.Stop Go.Stop Go.Extern

set_option linter.unusedSimpArgs false in
set_option linter.unusedVariables false in
set_option maxRecDepth 1000000 in
set_option maxHeartbeats 4000000 in
theorem syncs18 (hR : CaRowC) (hS : CaSyncC) {w : World} (b g t : Int) (ib : I64 b) (ip : I64 g) (it : I64 t) (hg : Laid w) :
    Calls Tryd.prog 4 #[.int .i64 b, .int .i64 g, .int .i64 t] w fun e w' => e = .returned (.bool true) ∧ Below w.heap.size w w' := by
  have HBC := Lib.hid (hS w b g t ib ip it)
  have HK1 := Lib.hid fun V => caCheck_any (w := V) b 1 t ib ⟨by decide, by decide⟩ it
  have HAW : Hid (∀ V : World, Calls Tryd.prog 11 #[] V fun e w' => e = .returned (.bool true) ∧ Below V.heap.size V w') := Lib.hid fun V => awake18 hR hS
  have HG := Lib.hid hg
  have HRF : Hid (CaOk b 1 t ∧ 1 ≤ g ∧ g ≤ 8 → ∀ V : World, Calls Tryd.prog 14 #[.int .i64 b, .int .i64 g, .int .i64 t] V fun e w' => e = .returned (.int .i64 (syncZ b.toNat t.toNat g.toNat)) ∧ V = w') := Lib.hid fun h V => by
    obtain ⟨b', u', t', rfl, -, rfl, h1, h2, h3, h4, h5⟩ := h.1.nat
    obtain ⟨g', rfl⟩ : ∃ g' : Nat, g = (g' : Int) := ⟨g.toNat, by omega⟩
    simp only [Int.toNat_natCast]
    exact caSync_any b' g' t' h1 h2 (by omega) (by omega)
  clear hR hS hg ib ip it
  go_enter Tryd.func4, Tryd.ntmps4
  go_wp2_with fail
  refine HBC.out.mono ?_
  rintro e w1 ⟨hb1, ⟨hno, E, rfl, hE⟩ | ⟨hok, rfl⟩⟩
  · have HB1 := Lib.hid hb1
    have HTL := Lib.hid (tells_ans 1 nameCaSync E hE (HG.out.mono hb1))
    clear hb1 hE
    by_cases h0 : CaOk b 1 t
    · have HK := HK1
      rw [caN_zero.2 h0] at HK
      by_cases c1 : g < 1
      · have d1 : decide (g < 1) = true := decide_eq_true c1
        clear h0 hno c1 HBC HRF
        go_wp2_with fail
        refine (HK.out _).mono ?_
        rintro e w2 ⟨rfl, rfl⟩
        go_wp2_with fail
        refine (HTL.out).mono ?_
        rintro e w3 ⟨rfl, hb3⟩
        have HB3 := Lib.hid (HB1.out.trans (hb3.mono HB1.out.size))
        clear hb3
        go_wp2_with fail
        refine (HAW.out _).mono ?_
        rintro e w9 ⟨rfl, hb9⟩
        have HB9 := Lib.hid (HB3.out.trans (hb9.mono HB3.out.size))
        clear hb9
        go_wp2
        go_ret
        exact ⟨rfl, HB9.out⟩
      · have d1 : decide (g < 1) = false := decide_eq_false c1
        have c2 : 8 < g := by
          rcases Int.lt_or_le 8 g with h | h
          · exact h
          · exact absurd ⟨h0, by omega, h⟩ hno
        have d2 : decide (8 < g) = true := decide_eq_true c2
        clear h0 hno c1 c2 HBC HRF
        go_wp2_with fail
        refine (HK.out _).mono ?_
        rintro e w2 ⟨rfl, rfl⟩
        go_wp2_with fail
        refine (HTL.out).mono ?_
        rintro e w3 ⟨rfl, hb3⟩
        have HB3 := Lib.hid (HB1.out.trans (hb3.mono HB1.out.size))
        clear hb3
        go_wp2_with fail
        refine (HAW.out _).mono ?_
        rintro e w9 ⟨rfl, hb9⟩
        have HB9 := Lib.hid (HB3.out.trans (hb9.mono HB3.out.size))
        clear hb9
        go_wp2
        go_ret
        exact ⟨rfl, HB9.out⟩
    · have HK := HK1
      rw [caN_one h0] at HK
      clear h0 hno HBC HRF
      go_wp2_with fail
      refine (HK.out _).mono ?_
      rintro e w2 ⟨rfl, rfl⟩
      go_wp2_with fail
      refine (HTL.out).mono ?_
      rintro e w3 ⟨rfl, hb3⟩
      have HB3 := Lib.hid (HB1.out.trans (hb3.mono HB1.out.size))
      clear hb3
      go_wp2_with fail
      refine (HAW.out _).mono ?_
      rintro e w9 ⟨rfl, hb9⟩
      have HB9 := Lib.hid (HB3.out.trans (hb9.mono HB3.out.size))
      clear hb9
      go_wp2
      go_ret
      exact ⟨rfl, HB9.out⟩
  · have HB1 := Lib.hid hb1
    have HK := HK1
    rw [caN_zero.2 hok.1] at HK
    have HRF1 := Lib.hid (HRF.out hok)
    have d1 : decide (g < 1) = false := decide_eq_false (by have := hok.2; omega)
    have d2 : decide (8 < g) = false := decide_eq_false (by have := hok.2; omega)
    generalize (syncZ b.toNat t.toNat g.toNat) = z at *
    have dz : (z == z) = true := by simp
    clear hb1 hok HBC HRF
    go_wp2_with fail
    refine (HK.out _).mono ?_
    rintro e w2 ⟨rfl, rfl⟩
    go_wp2_with fail
    refine (HRF1.out _).mono ?_
    rintro e w3 ⟨rfl, rfl⟩
    go_wp2_with fail
    refine (HAW.out _).mono ?_
    rintro e w9 ⟨rfl, hb9⟩
    have HB9 := Lib.hid (HB1.out.trans (hb9.mono HB1.out.size))
    clear hb9
    go_wp2
    go_ret
    exact ⟨rfl, HB9.out⟩
end Go.Proofs.YtgbogglalnafeaaDoor
