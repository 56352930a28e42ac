/- The seventeenth layer's law StripeEsis. -/
import Derived.Test.YtlhpkfonffijfaaDoorLaw17
import Derived.Test.YtlhpkfonffijfaaDoorLaw17T
namespace Go.Proofs.YtlhpkfonffijfaaDoor
open Go.RowKit Go.Extern.Stop Go.Stop Go.Extern

set_option linter.unusedSimpArgs false in
set_option linter.unusedVariables false in
set_option maxRecDepth 1000000 in
set_option maxHeartbeats 4000000 in
theorem esis17 (hR : StRateC) (hC : StChunksC) (hE : StEsisC) {w : World} (g n a0 a1 : Int) (ig : I64 g) (jn : I64 n) (i0 : I64 a0) (hg : Laid w) :
    Calls Tryd.prog 6 #[.int .i64 g, .int .i64 n, .agg #[.int .i64 a0, .int .i64 a1]] w fun e w' => e = .returned (.bool true) ∧ Below w.heap.size w w' := by
  obtain ⟨W1, hW1⟩ : ∃ W, W = w.alloc (.cells #[.int .i64 a0, .int .i64 a1] 40) := ⟨_, rfl⟩
  have HW := Lib.hid hW1
  have hb1 : Below w.heap.size w W1 := by rw [hW1]; exact (Below.refl _ _).alloc (Nat.le_refl _) _
  have HB1 := Lib.hid hb1
  have hh : W1.heap[w.heap.size]? = some (.cells #[.int .i64 a0, .int .i64 a1] 40 (0, 0)) := by rw [hW1]; exact heap_alloc_new w _
  have c0 : W1.cell? ⟨w.heap.size, 0, none⟩ = some (.int .i64 a0) := cell_of_heap hh rfl
  have c1 : W1.cell? ⟨w.heap.size, 1, none⟩ = some (.int .i64 a1) := cell_of_heap hh rfl
  have HCV : Hid (∀ V, Below W1.heap.size W1 V → V.cell? ⟨w.heap.size, 0, none⟩ = some (.int .i64 a0)) := Lib.hid fun V hV => (hV.cell (p := ⟨w.heap.size, 0, none⟩) (World.block_lt_of_cell? W1 _ c0)).trans c0
  obtain ⟨s, hs⟩ : ∃ s : Nat, IntKind.u32.wrap a1 = (s : Int) := ⟨(IntKind.u32.wrap a1).toNat, by rw [IntKind.wrap_u32]; omega⟩
  have hsb : s < 4294967296 := by rw [IntKind.wrap_u32] at hs; omega
  have hsm : a1 % 4294967296 = (s : Int) := by rw [← hs, IntKind.wrap_u32]
  have HES := Lib.hid fun V => hE V g n a0 s ig jn i0 hsb
  have HCK := Lib.hid fun V => stCheck_any (w := V) g n a0 ig jn i0
  have HAW : Hid (∀ V : World, Calls Tryd.prog 10 #[] V fun e w' => e = .returned (.bool true) ∧ Below V.heap.size V w') := Lib.hid fun V => awake17 hR hC
  have HG := Lib.hid hg
  have HRE : Hid (stEsiN g n a0 = 0 → ∃ (g' m l' y : Nat), g = g' ∧ n = y ∧ a0 = l' ∧ g' = m + l' + 1 ∧ g' ≤ 8 ∧ y ≤ 65536) := Lib.hid fun h => by
    unfold stEsiN at h
    split at h
    · rename_i hh
      obtain ⟨g', l', m, h1, h2, h3, h4⟩ := mayB_nat hh.1
      exact ⟨g', m, l', n.toNat, h1, by omega, h2, h3, h4, by omega⟩
    · cases h
  clear hR hC hE hg hW1 hh hb1
  by_cases k1 : 4096 < n
  · by_cases k2 : n ≤ 65536
    · have d1 : decide (4096 < n) = true := decide_eq_true k1
      have d2 : decide (n ≤ 65536) = true := decide_eq_true k2
      clear k1 k2 ig jn i0 hsb hs hsm
      go_enter Tryd.func6, Tryd.ntmps6
      go_upto_region 1 with fail
      rw [← HW.out]
      go_wp2_with fail
      refine (HAW.out _).mono ?_
      rintro e w4 ⟨rfl, hb4⟩
      have HB4 := Lib.hid (HB1.out.trans (hb4.mono HB1.out.size))
      clear hb4
      go_wp2
      go_ret
      exact ⟨rfl, HB4.out⟩
    · have d1 : decide (4096 < n) = true := decide_eq_true k1
      have d2 : decide (n ≤ 65536) = false := decide_eq_false k2
      have HN : Hid (stEsiN g n a0 = 1) := Lib.hid (by unfold stEsiN; rw [if_neg (by omega)])
      clear k1 k2 ig jn i0 hsb
      rw [HN.out] at HES HCK
      go_enter Tryd.func6, Tryd.ntmps6
      go_upto_region 1 with fail
      rw [← HW.out]
      go_wp2_with fail
      refine (HES.out _).mono ?_
      rintro e w2 ⟨hb2, ⟨-, E, rfl, hE⟩ | ⟨h, -⟩⟩
      · have HB2 := Lib.hid (HB1.out.trans (hb2.mono HB1.out.size))
        have p0 := HCV.out w2 hb2
        have HTL := Lib.hid (tells_ans 1 nameStEsis E hE (HG.out.mono HB2.out))
        clear hb2 hE c0
        go_wp2_with fail
        refine (HCK.out _).mono ?_
        rintro e w3 ⟨rfl, rfl⟩
        go_wp2_with fail
        refine HTL.out.mono ?_
        rintro e w3 ⟨rfl, hb3⟩
        have HB3 := Lib.hid (HB2.out.trans (hb3.mono HB2.out.size))
        clear hb3
        go_wp2_with fail
        refine (HAW.out _).mono ?_
        rintro e w4 ⟨rfl, hb4⟩
        have HB4 := Lib.hid (HB3.out.trans (hb4.mono HB3.out.size))
        clear hb4
        go_wp2
        go_ret
        exact ⟨rfl, HB4.out⟩
      · cases h
  · have d1 : decide (4096 < n) = false := decide_eq_false k1
    go_enter Tryd.func6, Tryd.ntmps6
    go_upto_region 1 with fail
    rw [← HW.out]
    go_wp2_with fail
    refine (HES.out _).mono ?_
    rintro e w2 ⟨hb2, ⟨hne, E, rfl, hE⟩ | ⟨h0, v2, rfl, ho2⟩⟩
    · have HB2 := Lib.hid (HB1.out.trans (hb2.mono HB1.out.size))
      have p0 := HCV.out w2 hb2
      have HTL := Lib.hid (tells_ans (stEsiN g n a0) nameStEsis E hE (HG.out.mono HB2.out))
      clear hb2 hE c0
      generalize stEsiN g n a0 = k at *
      have dk : (k != 0) = true := by simpa using hne
      go_wp2_with fail
      refine (HCK.out _).mono ?_
      rintro e w3 ⟨rfl, rfl⟩
      go_wp2_with fail
      refine HTL.out.mono ?_
      rintro e w3 ⟨rfl, hb3⟩
      have HB3 := Lib.hid (HB2.out.trans (hb3.mono HB2.out.size))
      clear hb3
      go_wp2_with fail
      refine (HAW.out _).mono ?_
      rintro e w4 ⟨rfl, hb4⟩
      have HB4 := Lib.hid (HB3.out.trans (hb4.mono HB3.out.size))
      clear hb4
      go_wp2
      go_ret
      exact ⟨rfl, HB4.out⟩
    · have HB2 := Lib.hid (HB1.out.trans (hb2.mono HB1.out.size))
      have p0 := HCV.out w2 hb2
      obtain ⟨g', m, l', y, rfl, rfl, rfl, hgm, hg8, hy⟩ := HRE.out h0
      have hm1 : ((g' : Int) - 1 - (l' : Int)).toNat = m := by omega
      have hm2 : ((g' : Int) - 1).toNat = m + l' := by omega
      rw [hm1, hm2, Int.toNat_natCast, Int.toNat_natCast] at ho2
      obtain ⟨z, hz⟩ : ∃ z, y / 2 ^ (m + l') = z := ⟨_, rfl⟩
      rw [hz] at ho2
      have HREs := Lib.hid fun V => stEsis_any (w := V) g' m l' s y z hgm hg8 hsb hy hz
      have HTL := Lib.hid (tells_nil (w := w2) nameStEsis)
      rw [h0] at HCK
      generalize stEsiL m l' s z = L at *
      have HL2 := Lib.hid (cut_ints (ListAt.of_owns (f := cutV) (l := L) ho2))
      obtain ⟨a2, c2, hv2, -, -⟩ := own_open ho2
      subst hv2
      clear hb2 ho2 h0 c0 hm1 hm2 hz HES HRE hgm
      go_wp2_with fail
      refine (HCK.out _).mono ?_
      rintro e w3 ⟨rfl, rfl⟩
      go_wp2_with fail
      refine HTL.out.mono ?_
      rintro e w3 ⟨rfl, rfl⟩
      go_wp2_with fail
      refine (HREs.out _).mono ?_
      rintro e w3 ⟨v3, rfl, ho3, hb3⟩
      have HB3 := Lib.hid (HB2.out.trans (hb3.mono HB2.out.size))
      have HL3 := Lib.hid (cut_ints (ListAt.of_owns (f := cutV) (l := L) ho3))
      have HSM := Lib.hid (SameI_any _ v3 _ (HL2.out.mono hb3) HL3.out)
      clear hb3 ho3
      go_wp2_with fail
      refine HSM.out.mono ?_
      rintro e w4 ⟨rfl, hb4⟩
      have HB4 := Lib.hid (HB3.out.trans (hb4.mono HB3.out.size))
      clear hb4
      go_wp2_with fail
      refine (HAW.out _).mono ?_
      rintro e w5 ⟨rfl, hb5⟩
      have HB5 := Lib.hid (HB4.out.trans (hb5.mono HB4.out.size))
      clear hb5
      go_wp2
      go_ret
      exact ⟨rfl, HB5.out⟩
end Go.Proofs.YtlhpkfonffijfaaDoor
