/- The eighteenth layer's law CalendarBursts. (Made by gen18.py.) -/
import Derived.Test.YtgbogglalnafeaaDoorLaw18
import Derived.Test.YtgbogglalnafeaaDoorLaw18T
namespace Go.Proofs.YtgbogglalnafeaaDoor
open Go.RowKit Go.Extern.Stop Go.Stop Go.Extern

set_option linter.unusedSimpArgs false in
set_option linter.unusedVariables false in
set_option maxRecDepth 1000000 in
set_option maxHeartbeats 4000000 in
theorem bursts18 (hR : CaRowC) (hS : CaSyncC) (hC : CaCheckC) (hB : CaBurstC) {w : World} (b u t : Int) (ib : I64 b) (iu : I64 u) (it : I64 t) (hg : Laid w) :
    Calls Tryd.prog 3 #[.int .i64 b, .int .i64 u, .int .i64 t] w fun e w' => e = .returned (.bool true) ∧ Below w.heap.size w w' := by
  have HBC := Lib.hid (hB w b u t ib iu it)
  have HCC := Lib.hid fun V => hC V b u ib iu
  have HK1 := Lib.hid fun V => caCheck_any (w := V) b u t ib iu it
  have HK0 := Lib.hid fun V => caCheck_any (w := V) b u 0 ib iu ⟨by decide, by decide⟩
  have HAW : Hid (∀ V : World, Calls Tryd.prog 11 #[] V fun e w' => e = .returned (.bool true) ∧ Below V.heap.size V w') := Lib.hid fun V => awake18 hR hS
  have HG := Lib.hid hg
  have HBU : Hid (CaOk b u t → ∀ V : World, Calls Tryd.prog 12 #[.int .i64 b, .int .i64 u, .int .i64 t] V fun e w' => e = .returned (.bool (burstB b.toNat u.toNat t.toNat)) ∧ V = w') := Lib.hid fun h V => by
    obtain ⟨b', u', t', rfl, rfl, rfl, h1, h2, h3, h4, h5⟩ := h.nat
    simp only [Int.toNat_natCast]
    exact caBurst_any b' u' t' h1 h2 h4 (by omega)
  clear hR hS hC hB hg ib iu it
  go_enter Tryd.func3, Tryd.ntmps3
  go_wp2_with fail
  refine HBC.out.mono ?_
  rintro e w1 ⟨hb1, ⟨hno, E, rfl, hE⟩ | ⟨hok, rfl⟩⟩
  · have HB1 := Lib.hid hb1
    have HK := HK1
    rw [caN_one hno] at HK
    have HTL := Lib.hid (tells_ans 1 nameCaBurst E hE (HG.out.mono hb1))
    clear hb1 hE
    go_wp2_with fail
    refine (HK.out _).mono ?_
    rintro e w2 ⟨rfl, rfl⟩
    go_wp2_with fail
    refine (HTL.out).mono ?_
    rintro e w3 ⟨rfl, hb3⟩
    have HB3 := Lib.hid (HB1.out.trans (hb3.mono HB1.out.size))
    clear hb3
    go_wp2_with fail
    refine (HCC.out _).mono ?_
    rintro e w4 ⟨E4, rfl, hE4, hb4⟩
    have HB4 := Lib.hid (HB3.out.trans (hb4.mono HB3.out.size))
    have HT4 := Lib.hid (tells_ans (caN b u 0) nameCaCheck E4 hE4 (HG.out.mono HB4.out))
    clear hb4 hE4
    go_wp2_with fail
    refine (HK0.out _).mono ?_
    rintro e w5 ⟨rfl, rfl⟩
    go_wp2_with fail
    refine (HT4.out).mono ?_
    rintro e w6 ⟨rfl, hb6⟩
    have HB6 := Lib.hid (HB4.out.trans (hb6.mono HB4.out.size))
    clear hb6
    go_wp2_with fail
    refine (HAW.out _).mono ?_
    rintro e w9 ⟨rfl, hb9⟩
    have HB9 := Lib.hid (HB6.out.trans (hb9.mono HB6.out.size))
    clear hb9
    go_wp2
    go_ret
    exact ⟨rfl, HB9.out⟩
  · have HB1 := Lib.hid hb1
    have HK := HK1
    rw [caN_zero.2 hok] at HK
    have HBU1 := Lib.hid (HBU.out hok)
    have HTL := Lib.hid (tells_nil (w := w1) nameCaBurst)
    generalize burstB b.toNat u.toNat t.toNat = B at *
    have dB : (B == B) = true := by simp
    clear hb1 hok HBC HBU
    go_wp2_with fail
    refine (HK.out _).mono ?_
    rintro e w2 ⟨rfl, rfl⟩
    go_wp2_with fail
    refine (HTL.out).mono ?_
    rintro e w3 ⟨rfl, rfl⟩
    go_wp2_with fail
    refine (HCC.out _).mono ?_
    rintro e w4 ⟨E4, rfl, hE4, hb4⟩
    have HB4 := Lib.hid (HB1.out.trans (hb4.mono HB1.out.size))
    have HT4 := Lib.hid (tells_ans (caN b u 0) nameCaCheck E4 hE4 (HG.out.mono HB4.out))
    clear hb4 hE4
    go_wp2_with fail
    refine (HK0.out _).mono ?_
    rintro e w5 ⟨rfl, rfl⟩
    go_wp2_with fail
    refine (HT4.out).mono ?_
    rintro e w6 ⟨rfl, hb6⟩
    have HB6 := Lib.hid (HB4.out.trans (hb6.mono HB4.out.size))
    clear hb6
    go_wp2_with fail
    refine (HBU1.out _).mono ?_
    rintro e w7 ⟨rfl, rfl⟩
    go_wp2_with fail
    refine (HAW.out _).mono ?_
    rintro e w9 ⟨rfl, hb9⟩
    have HB9 := Lib.hid (HB6.out.trans (hb9.mono HB6.out.size))
    clear hb9
    go_wp2
    go_ret
    exact ⟨rfl, HB9.out⟩
end Go.Proofs.YtgbogglalnafeaaDoor
