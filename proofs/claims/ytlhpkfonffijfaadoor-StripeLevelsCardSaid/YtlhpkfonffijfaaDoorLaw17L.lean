/- The seventeenth layer's law StripeLevels. -/
import Derived.Test.YtlhpkfonffijfaaDoorLaw17
import Derived.Test.YtlhpkfonffijfaaDoorLaw17T
namespace Go.Proofs.YtlhpkfonffijfaaDoor
open Go.RowKit Go.Extern.Stop Go.Stop Go.Extern

theorem levF_le {m l s : Nat} (h : m + l ≤ 7) : levF m s * 2 ^ l + 2 ^ l ≤ 128 := by
  have h1 := levL_end m l s
  have h2 : (2 : Nat) ^ (m + l) ≤ 2 ^ 7 := st_pow_le h
  omega

set_option linter.unusedSimpArgs false in
set_option linter.unusedVariables false in
set_option maxRecDepth 1000000 in
set_option maxHeartbeats 4000000 in
theorem levels17 (hR : StRateC) (hC : StChunksC) (hL : StLevelC) {w : World} (g l : Int) (s : Nat) (ig : I64 g) (il : I64 l) (hs : s < 4294967296) (hg : Laid w) :
    Calls Tryd.prog 5 #[.int .i64 g, .int .i64 l, .int .u32 (s : Int)] w fun e w' => e = .returned (.bool true) ∧ Below w.heap.size w w' := by
  have HC := Lib.hid (hL w g l s ig il hs)
  have HMY := Lib.hid fun V => stMay_any (w := V) g l ig il
  have HAW : Hid (∀ V : World, Calls Tryd.prog 10 #[] V fun e w' => e = .returned (.bool true) ∧ Below V.heap.size V w') := Lib.hid fun V => awake17 hR hC
  have HG := Lib.hid hg
  clear hR hC hL hg
  cases hm : mayB g l with
  | false =>
    rw [hm] at HC HMY
    go_enter Tryd.func5, Tryd.ntmps5
    go_wp2_with fail
    refine HC.out.mono ?_
    rintro e w1 ⟨hb1, ⟨-, E, rfl, hE⟩ | ⟨h, -⟩⟩
    · have HB1 := Lib.hid hb1
      have HTL := Lib.hid (tells_ans 1 nameStLevel E hE (HG.out.mono hb1))
      clear hb1 hE
      go_wp2_with fail
      refine (HMY.out _).mono ?_
      rintro e w2 ⟨rfl, rfl⟩
      go_wp2_with fail
      refine HTL.out.mono ?_
      rintro e w2 ⟨rfl, hb2⟩
      have HB2 := Lib.hid (HB1.out.trans (hb2.mono HB1.out.size))
      clear hb2
      go_wp2_with fail
      refine (HAW.out _).mono ?_
      rintro e w4 ⟨rfl, hb4⟩
      have HB4 := Lib.hid (HB2.out.trans (hb4.mono HB2.out.size))
      clear hb4
      go_wp2
      go_ret
      exact ⟨rfl, HB4.out⟩
    · cases h
  | true =>
    obtain ⟨g', l', m, rfl, rfl, hgm, hg8⟩ := mayB_nat hm
    have hmm : ((g' : Int) - 1 - (l' : Int)).toNat = m := by omega
    have HRL := Lib.hid fun V => stLevel_any (w := V) g' m l' s hgm hg8 hs
    have hle := levF_le (m := m) (l := l') (s := s) (by omega)
    have HGE : Hid (∀ j, j < 2 ^ l' → (levL m l' s)[j]? = some (levF m s * 2 ^ l' + j)) := Lib.hid fun j hj => by
      unfold levL
      rw [List.getElem?_range' hj]
      simp
    rw [hm] at HC HMY
    rw [hmm, Int.toNat_natCast] at HC
    rw [levL_length] at HRL
    have hlen := levL_length m l' s
    clear hmm hgm
    generalize levL m l' s = L at *
    generalize levF m s * 2 ^ l' = F at *
    generalize 2 ^ l' = P at *
    have d1 : ((P : Int) != (P : Int)) = false := by simp
    have HLN := Lib.hid hlen
    clear hlen
    go_enter Tryd.func5, Tryd.ntmps5
    go_wp2_with fail
    refine HC.out.mono ?_
    rintro e w1 ⟨hb1, ⟨h, -⟩ | ⟨-, rfl⟩⟩
    · cases h
    · have HB1 := Lib.hid hb1
      clear hb1
      go_wp2_with fail
      refine (HMY.out _).mono ?_
      rintro e w2 ⟨rfl, rfl⟩
      go_wp2_with fail
      refine (HRL.out _).mono ?_
      rintro e w2 ⟨v2, rfl, ho2, hb2⟩
      have HB2 := Lib.hid (HB1.out.trans (hb2.mono HB1.out.size))
      have HO2 := Lib.hid ho2
      obtain ⟨a2, c2, hv2, -, hg2⟩ := own_open ho2
      subst hv2
      have HG2 := Lib.hid hg2
      clear hb2 ho2 hg2
      go_wp2_with fail
      go_loopw [11] (fun i wr => ∃ j : Nat, j ≤ P ∧ i = .int .i64 (j : Int) ∧ wr = w2) (fun i _ => P - (intOf i).toNat)
      case atStart => exact ⟨0, Nat.zero_le _, rfl, rfl⟩
      case round =>
        obtain ⟨j, hj, rfl, rfl⟩ := hrel
        by_cases hlt : j < P
        · have d2 : decide ((j : Int) < (P : Int)) = true := decide_eq_true (by omega)
          obtain ⟨g2, rfl⟩ := HG2.out (by omega)
          have hx : wr.cell? ⟨g2, j, none⟩ = some (.int .i64 (((F + j : Nat)) : Int)) := by
            rw [HO2.out.cellAt j (by omega), List.getElem?_map, HGE.out j hlt]
            rfl
          have hfj : IntKind.i64.wrap ((F : Int) + (j : Int)) = ((F + j : Nat) : Int) := by rw [IntWalk.i64_in _ (by omega)]; omega
          have hfj2 : (F : Int) + (j : Int) = ((F + j : Nat) : Int) := by omega
          obtain ⟨y, hy⟩ : ∃ y, y = F + j := ⟨_, rfl⟩
          rw [← hy] at hx hfj hfj2
          have hyb : y ≤ 128 := by omega
          have d3 : ((y : Int) != (y : Int)) = false := by simp
          clear hy
          go_wp2_with fail
          go_roundw
          case rel => exact ⟨j + 1, by omega, by go_num, trivial⟩
          case measure => simp [intOf]; omega
        · obtain rfl : j = P := by omega
          have d2 : decide ((j : Int) < (j : Int)) = false := decide_eq_false (by omega)
          go_wp2_with fail
          refine (HAW.out _).mono ?_
          rintro e w4 ⟨rfl, hb4⟩
          have HB4 := Lib.hid (HB2.out.trans (hb4.mono HB2.out.size))
          clear hb4
          go_wp2
          go_ret
          exact ⟨rfl, HB4.out⟩
end Go.Proofs.YtlhpkfonffijfaaDoor
