/- The seventeenth layer's law StripeChunks. -/
import Derived.Test.YtlhpkfonffijfaaDoorLaw17
import Derived.Test.YtlhpkfonffijfaaDoorLaw17T
namespace Go.Proofs.YtlhpkfonffijfaaDoor
open Go.RowKit Go.Extern.Stop Go.Stop Go.Extern

set_option linter.unusedSimpArgs false in
set_option linter.unusedVariables false in
set_option maxRecDepth 1000000 in
set_option maxHeartbeats 4000000 in
theorem chunks17 (hR : StRateC) (hC : StChunksC) {w : World} (g l : Int) (s : Nat) (ig : I64 g) (il : I64 l) (hs : s < 4294967296) (hg : Laid w) :
    Calls Tryd.prog 4 #[.int .i64 g, .int .i64 l, .int .u32 (s : Int)] w fun e w' => e = .returned (.bool true) ∧ Below w.heap.size w w' := by
  have HC := Lib.hid (hC w g l s ig il hs)
  have HRT := Lib.hid fun V => hR V g l ig il
  have HMY := Lib.hid fun V => stMay_any (w := V) g l ig il
  have HAW : Hid (∀ V : World, Calls Tryd.prog 10 #[] V fun e w' => e = .returned (.bool true) ∧ Below V.heap.size V w') := Lib.hid fun V => awake17 hR hC
  have HG := Lib.hid hg
  clear hR hC hg
  cases hm : mayB g l with
  | false =>
    rw [hm] at HC HMY HRT
    go_enter Tryd.func4, Tryd.ntmps4
    go_wp2_with fail
    refine HC.out.mono ?_
    rintro e w1 ⟨hb1, ⟨-, E, rfl, hE⟩ | ⟨h, -⟩⟩
    · have HB1 := Lib.hid hb1
      have HTL := Lib.hid (tells_ans 1 nameStChunks E hE (HG.out.mono hb1))
      clear hb1 hE
      go_wp2_with fail
      refine (HMY.out _).mono ?_
      rintro e w2 ⟨rfl, rfl⟩
      go_wp2_with fail
      refine HTL.out.mono ?_
      rintro e w2 ⟨rfl, hb2⟩
      have HB2 := Lib.hid (HB1.out.trans (hb2.mono HB1.out.size))
      clear hb2
      go_wp2_with fail
      refine (HRT.out _).mono ?_
      rintro e w3 ⟨rfl, hb3⟩
      have HB3 := Lib.hid (HB2.out.trans (hb3.mono HB2.out.size))
      clear hb3
      go_wp2_with fail
      refine (HAW.out _).mono ?_
      rintro e w4 ⟨rfl, hb4⟩
      have HB4 := Lib.hid (HB3.out.trans (hb4.mono HB3.out.size))
      clear hb4
      go_wp2
      go_ret
      exact ⟨rfl, HB4.out⟩
    · cases h
  | true =>
    obtain ⟨g', l', m, rfl, rfl, hgm, hg8⟩ := mayB_nat hm
    have hmm : ((g' : Int) - 1 - (l' : Int)).toNat = m := by omega
    have HRC := Lib.hid fun V => stChunks_any (w := V) g' m l' s hgm hg8 hs
    have hlen := layL_length m s l'
    have hrl := rateN_le (l := l') (by omega)
    rw [hm] at HC HMY HRT
    rw [hmm, Int.toNat_natCast] at HC
    rw [if_pos rfl, Int.toNat_natCast, ← hlen] at HRT
    rw [← hlen] at hrl
    clear hlen hmm hgm
    generalize layL m s l' = L at *
    have d1 : ((L.length : Int) == (L.length : Int)) = true := by simp
    go_enter Tryd.func4, Tryd.ntmps4
    go_wp2_with fail
    refine HC.out.mono ?_
    rintro e w1 ⟨hb1, ⟨h, -⟩ | ⟨-, v1, rfl, ho1⟩⟩
    · cases h
    · have HB1 := Lib.hid hb1
      have HL1 := Lib.hid (cut_ints (ListAt.of_owns (f := cutV) (l := L) ho1))
      obtain ⟨a1, c1, hv1, -, -⟩ := own_open ho1
      subst hv1
      clear hb1 ho1
      go_wp2_with fail
      refine (HMY.out _).mono ?_
      rintro e w2 ⟨rfl, rfl⟩
      go_wp2_with fail
      refine (HRC.out _).mono ?_
      rintro e w2 ⟨v2, rfl, ho2, hb2⟩
      have HB2 := Lib.hid (HB1.out.trans (hb2.mono HB1.out.size))
      have HL2 := Lib.hid (cut_ints (ListAt.of_owns (f := cutV) (l := L) ho2))
      have HSM := Lib.hid (SameI_any _ v2 _ (HL1.out.mono hb2) HL2.out)
      clear hb2 ho2
      go_wp2_with fail
      refine HSM.out.mono ?_
      rintro e w3 ⟨rfl, hb3⟩
      have HB3 := Lib.hid (HB2.out.trans (hb3.mono HB2.out.size))
      clear hb3
      go_wp2_with fail
      refine (HRT.out _).mono ?_
      rintro e w4 ⟨rfl, hb4⟩
      have HB4 := Lib.hid (HB3.out.trans (hb4.mono HB3.out.size))
      clear hb4
      go_wp2_with fail
      refine (HAW.out _).mono ?_
      rintro e w5 ⟨rfl, hb5⟩
      have HB5 := Lib.hid (HB4.out.trans (hb5.mono HB4.out.size))
      clear hb5
      go_wp2
      go_ret
      exact ⟨rfl, HB5.out⟩
end Go.Proofs.YtlhpkfonffijfaaDoor
