/- The eighteenth layer's law CalendarRows. (Made by gen18.py.) -/
import Derived.Test.YtgbogglalnafeaaDoorLaw18
import Derived.Test.YtgbogglalnafeaaDoorLaw18T
namespace Go.Proofs.YtgbogglalnafeaaDoor
open Go.RowKit Go.Extern.Stop Go.Stop Go.Extern

set_option linter.unusedSimpArgs false in
set_option linter.unusedVariables false in
set_option maxRecDepth 1000000 in
set_option maxHeartbeats 4000000 in
theorem rows18 (hR : CaRowC) (hS : CaSyncC) (hT : CaStepsC) {w : World} (b u t : Int) (ib : I64 b) (iu : I64 u) (it : I64 t) (hg : Laid w) :
    Calls Tryd.prog 6 #[.int .i64 b, .int .i64 u, .int .i64 t] w fun e w' => e = .returned (.bool true) ∧ Below w.heap.size w w' := by
  have HTC := Lib.hid (hT w b u t ib iu it)
  have HRC := Lib.hid fun V => hR V b u t ib iu it
  have HK1 := Lib.hid fun V => caCheck_any (w := V) b u t ib iu it
  have HAW : Hid (∀ V : World, Calls Tryd.prog 11 #[] V fun e w' => e = .returned (.bool true) ∧ Below V.heap.size V w') := Lib.hid fun V => awake18 hR hS
  have HG := Lib.hid hg
  have HRS : Hid (CaOk b u t → ∀ V : World, Calls Tryd.prog 19 #[.int .i64 b, .int .i64 u, .int .i64 t] V fun e w' => e = .returned (.int .i64 ((stepsZ b.toNat u.toNat t.toNat : Nat) : Int)) ∧ V = w') := Lib.hid fun h V => by
    obtain ⟨b', u', t', rfl, rfl, rfl, h1, h2, h3, h4, h5⟩ := h.nat
    simp only [Int.toNat_natCast]
    exact caSteps_any b' u' t' h1 h2 h4 (by omega)
  have HRR : Hid (CaOk b u t → ∀ V : World, Calls Tryd.prog 21 #[.int .i64 b, .int .i64 u, .int .i64 t] V fun e w' => ∃ v', e = .returned v' ∧ w'.ownsRow V.heap.size 48 1 v' (rowZ b.toNat u.toNat t.toNat).length ((rowZ b.toNat u.toNat t.toNat).map stV) ∧ Below V.heap.size V w') := Lib.hid fun h V => by
    obtain ⟨b', u', t', rfl, rfl, rfl, h1, h2, h3, h4, h5⟩ := h.nat
    simp only [Int.toNat_natCast]
    exact caRow_any b' u' t' h1 h2 h4 (by omega)
  clear hR hS hT hg ib iu it
  go_enter Tryd.func6, Tryd.ntmps6
  go_wp2_with fail
  refine HTC.out.mono ?_
  rintro e w1 ⟨hb1, ⟨hno, E, rfl, hE⟩ | ⟨hok, rfl⟩⟩
  · have HB1 := Lib.hid hb1
    have HE := Lib.hid hE
    have HK := HK1
    rw [caN_one hno] at HK
    clear hb1 hE
    go_wp2_with fail
    refine (HRC.out _).mono ?_
    rintro e w2 ⟨hb2, ⟨-, E2, rfl, hE2⟩ | ⟨h, -⟩⟩
    · have HB2 := Lib.hid (HB1.out.trans (hb2.mono HB1.out.size))
      have HTL := Lib.hid (tells_ans 1 nameCaSteps E (HE.out.mono hb2) (HG.out.mono HB2.out))
      have HE2 := Lib.hid hE2
      clear hb2 hE2
      go_wp2_with fail
      refine (HK.out _).mono ?_
      rintro e w3 ⟨rfl, rfl⟩
      go_wp2_with fail
      refine HTL.out.mono ?_
      rintro e w4 ⟨rfl, hb4⟩
      have HB4 := Lib.hid (HB2.out.trans (hb4.mono HB2.out.size))
      have HT2 := Lib.hid (tells_ans 1 nameCaRow E2 (HE2.out.mono hb4) (HG.out.mono HB4.out))
      clear hb4
      go_wp2_with fail
      refine (HT2.out).mono ?_
      rintro e w5 ⟨rfl, hb5⟩
      have HB5 := Lib.hid (HB4.out.trans (hb5.mono HB4.out.size))
      clear hb5
      go_wp2_with fail
      refine (HAW.out _).mono ?_
      rintro e w9 ⟨rfl, hb9⟩
      have HB9 := Lib.hid (HB5.out.trans (hb9.mono HB5.out.size))
      clear hb9
      go_wp2
      go_ret
      exact ⟨rfl, HB9.out⟩
    · exact absurd h hno
  · have HB1 := Lib.hid hb1
    have HK := HK1
    rw [caN_zero.2 hok] at HK
    have HRS1 := Lib.hid (HRS.out hok)
    have HRR1 := Lib.hid (HRR.out hok)
    generalize ((stepsZ b.toNat u.toNat t.toNat : Nat) : Int) = S at *
    generalize rowZ b.toNat u.toNat t.toNat = L at *
    have dS : (S == S) = true := by simp
    clear hb1
    go_wp2_with fail
    refine (HRC.out _).mono ?_
    rintro e w2 ⟨hb2, ⟨h, -⟩ | ⟨-, v2, rfl, ho2⟩⟩
    · exact absurd hok h
    · have HB2 := Lib.hid (HB1.out.trans (hb2.mono HB1.out.size))
      have HL2 : Hid (ListAt stV w2 v2 L) := Lib.hid (ListAt.of_owns (f := stV) (l := L) ho2)
      obtain ⟨a2, c2, hv2, -, -⟩ := own_open ho2
      subst hv2
      have HT1 := Lib.hid (tells_nil (w := w2) nameCaSteps)
      have HT2 := Lib.hid (tells_nil (w := w2) nameCaRow)
      clear hb2 ho2 hok HTC HRC HRS HRR
      go_wp2_with fail
      refine (HK.out _).mono ?_
      rintro e w3 ⟨rfl, rfl⟩
      go_wp2_with fail
      refine (HT1.out).mono ?_
      rintro e w4 ⟨rfl, rfl⟩
      go_wp2_with fail
      refine (HT2.out).mono ?_
      rintro e w4 ⟨rfl, rfl⟩
      go_wp2_with fail
      refine (HRS1.out _).mono ?_
      rintro e w4 ⟨rfl, rfl⟩
      go_wp2_with fail
      refine (HRR1.out _).mono ?_
      rintro e w5 ⟨v5, rfl, ho5, hb5⟩
      have HB5 := Lib.hid (HB2.out.trans (hb5.mono HB2.out.size))
      have HSM := Lib.hid (caSame_any _ v5 L (HL2.out.mono hb5) (ListAt.of_owns (f := stV) (l := L) ho5))
      clear hb5 ho5
      go_wp2_with fail
      refine (HSM.out).mono ?_
      rintro e w6 ⟨rfl, hb6⟩
      have HB6 := Lib.hid (HB5.out.trans (hb6.mono HB5.out.size))
      clear hb6
      go_wp2_with fail
      refine (HAW.out _).mono ?_
      rintro e w9 ⟨rfl, hb9⟩
      have HB9 := Lib.hid (HB6.out.trans (hb9.mono HB6.out.size))
      clear hb9
      go_wp2
      go_ret
      exact ⟨rfl, HB9.out⟩
end Go.Proofs.YtgbogglalnafeaaDoor
