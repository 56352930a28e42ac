import Derived.Test.YtfibolkgpffjkaaGreatDoorG32
import Derived.Test.YtfibolkgpffjkaaGreatDoorG49
import Derived.Test.YtfibolkgpffjkaaGreatDoorG37

section
/- The twelfth layer's laws: EncodeRefuses. -/
namespace Go.Proofs.YtfibolkgpffjkaaGreatDoor
open Go.RowKit Go.Extern.Stop Go.Stop Go.Extern

theorem checkS_one {L : List (List Nat)} {n : Int} (h : n < 1 ∨ 64 < n) : checkS L n = 1 := by
  unfold checkS
  rw [if_pos h]
theorem checkS_form {L : List (List Nat)} {m : Nat} (h1 : 1 ≤ m) (h2 : m ≤ 64) (h : checkS L (m : Int) ≠ 0) : checkS L (m : Int) = 2 ∧ formedB L L.length m = false := by
  unfold checkS at h ⊢
  rw [if_neg (by omega)] at h ⊢
  split at h
  · exact absurd rfl h
  · rename_i hf
    refine ⟨if_neg hf, ?_⟩
    unfold formedB
    rw [decide_eq_true rfl, Bool.true_and]
    simpa using hf

/-- What New says of source symbols that may not be. -/
theorem EnNew_bad {w : World} (v : Value) (M : List (List Nat)) (size : Int) (hv : MatAt byteV w v M) (ho : ∀ r ∈ M, Octets r) (hk1 : 1 ≤ M.length) (hk2 : M.length ≤ 128) (hT : DgTab w) (hB : Tab w) (hc : checkS M size ≠ 0) :
    Calls Tryz.prog 11 #[v, .int .i64 size] w (NoSays (checkS M size) nameEnNew (.pointer none) w) := by
  by_cases hz : size < 1 ∨ 64 < size
  · rw [checkS_one hz]
    exact EnNew_form M.length v M size 1 (by decide) hv rfl hk1 hk2 hT hB fun V s h l p sd hof hsd hV => Middle_size M.length s h l p sd v M size hof hk1 hk2 hsd (hv.mono hV) (PairsAt.mono hT hV) hz
  · obtain ⟨m, rfl⟩ : ∃ m : Nat, size = (m : Int) := ⟨size.toNat, by omega⟩
    obtain ⟨h2, hf⟩ := checkS_form (L := M) (m := m) (by omega) (by omega) hc
    rw [h2]
    refine EnNew_form M.length v M m 2 (by decide) hv rfl hk1 hk2 hT hB fun V s h l p sd hof hsd hV => ?_
    refine (Middle_ok M.length s h l p sd m v M hof hk1 hk2 hsd (by omega) (by omega) (hv.mono hV) ho (PairsAt.mono hT hV) (hB.mono hV)).mono ?_
    rintro e w' (⟨h1, -⟩ | ⟨h1, -⟩ | ⟨-, h3⟩)
    · rw [hf] at h1; cases h1
    · rw [hf] at h1; cases h1
    · exact h3

set_option maxRecDepth 1000000 in
set_option maxHeartbeats 4000000 in
theorem refuses12 {w : World} (v : Value) (M : List (List Nat)) (size : Int) (hz : I64 size) (hv : MatAt byteV w v M) (ho : ∀ r ∈ M, Octets r) (hT : DgTab w) (hB : Tab w) (hg : Laid w) :
    Calls Tryz.prog 4 #[v, .int .i64 size] w fun e w' => e = .returned (.bool true) ∧ Below w.heap.size w w' := by
  have HAW : Hid (∀ V, Below w.heap.size w V → Calls Tryz.prog 17 #[] V fun e w' => e = .returned (.bool true) ∧ Below V.heap.size V w') := Lib.hid fun V hV => awake12 V (PairsAt.mono hT hV) (hB.mono hV)
  have HG := Lib.hid hg
  have HV := Lib.hid hv
  have hml := hv.len
  obtain ⟨q, hq⟩ : ∃ q, M.length = q := ⟨_, rfl⟩
  by_cases hA : 20 < q ∧ q ≤ 128
  · have d1 : decide (20 < (q : Int)) = true := decide_eq_true (by omega)
    have d2 : decide ((q : Int) ≤ 128) = true := decide_eq_true (by omega)
    obtain ⟨av, cv, rfl, -, -, -⟩ := hv.opens
    rw [hq] at hml HV ⊢
    clear hA hq hv ho hT hB hg
    go_enter Tryz.func4, Tryz.ntmps4
    go_wp2_with fail
    refine (HAW.out _ (Below.refl _ _)).mono ?_
    rintro e w1 ⟨rfl, hb1⟩
    have HB1 := Lib.hid hb1
    clear hb1
    go_wp2
    go_ret
    exact ⟨rfl, HB1.out⟩
  by_cases hB2 : q < 1 ∨ 128 < q
  · have HNW := Lib.hid (EnNew_many v M size hv (by rw [hq]; exact hB2))
    have HCK : Hid (∀ V, Below w.heap.size w V → Calls Tryz.prog 18 #[v, .int .i64 size] V fun e w' => e = .returned (.int .i64 1) ∧ V = w') := Lib.hid fun V hV => rEnCheck_many v M size (hv.mono hV) (by rw [hq]; exact hB2)
    obtain ⟨av, cv, rfl, -, -, -⟩ := hv.opens
    rw [hq] at hml HV HNW HCK ⊢
    clear hv ho hT hB hg hq
    obtain ⟨b1, d1, b2, d2, hbb⟩ : ∃ b1, decide (20 < (q : Int)) = b1 ∧ ∃ b2, decide ((q : Int) ≤ 128) = b2 ∧ (b1 && b2) = false := ⟨_, rfl, _, rfl, by
      rw [Bool.and_eq_false_iff, decide_eq_false_iff_not, decide_eq_false_iff_not]
      omega⟩
    clear hA hB2
    cases b1 with
    | true =>
      obtain rfl : b2 = false := hbb
      go_enter Tryz.func4, Tryz.ntmps4
      go_wp2_with fail
      refine HNW.out.mono ?_
      rintro e w1 ⟨E, rfl, hea, hb1⟩
      have HEA := Lib.hid hea
      have HB1 := Lib.hid hb1
      obtain ⟨u, x, rfl⟩ := hea.some (by decide)
      clear hea hb1
      go_wp2_with fail
      refine (HCK.out _ HB1.out).mono ?_
      rintro e w2 ⟨rfl, rfl⟩
      go_wp2_with fail
      refine (tells_ans 1 nameEnNew _ HEA.out (HG.out.mono HB1.out)).mono ?_
      rintro e w3 ⟨rfl, hb3⟩
      have HB3 := Lib.hid (HB1.out.trans (hb3.mono HB1.out.size))
      clear hb3
      go_wp2_with fail
      refine (HAW.out _ HB3.out).mono ?_
      rintro e w4 ⟨rfl, hb4⟩
      have HB4 := Lib.hid (HB3.out.trans (hb4.mono HB3.out.size))
      clear hb4
      go_wp2
      go_ret
      exact ⟨rfl, HB4.out⟩
    | false =>
      clear hbb d2
      go_enter Tryz.func4, Tryz.ntmps4
      go_wp2_with fail
      refine HNW.out.mono ?_
      rintro e w1 ⟨E, rfl, hea, hb1⟩
      have HEA := Lib.hid hea
      have HB1 := Lib.hid hb1
      obtain ⟨u, x, rfl⟩ := hea.some (by decide)
      clear hea hb1
      go_wp2_with fail
      refine (HCK.out _ HB1.out).mono ?_
      rintro e w2 ⟨rfl, rfl⟩
      go_wp2_with fail
      refine (tells_ans 1 nameEnNew _ HEA.out (HG.out.mono HB1.out)).mono ?_
      rintro e w3 ⟨rfl, hb3⟩
      have HB3 := Lib.hid (HB1.out.trans (hb3.mono HB1.out.size))
      clear hb3
      go_wp2_with fail
      refine (HAW.out _ HB3.out).mono ?_
      rintro e w4 ⟨rfl, hb4⟩
      have HB4 := Lib.hid (HB3.out.trans (hb4.mono HB3.out.size))
      clear hb4
      go_wp2
      go_ret
      exact ⟨rfl, HB4.out⟩
  have hq1 : 1 ≤ q := by omega
  have hq2 : q ≤ 20 := by omega
  clear hA hB2
  have d1 : decide (20 < (q : Int)) = false := decide_eq_false (by omega)
  have HCK : Hid (∀ V, Below w.heap.size w V → Calls Tryz.prog 18 #[v, .int .i64 size] V fun e w' => e = .returned (.int .i64 (checkS M size)) ∧ V = w') := Lib.hid fun V hV => rEnCheck_in v M size hz (hv.mono hV) (by omega) (by omega)
  by_cases hc : checkS M size = 0
  · obtain ⟨m, rfl, hm1, hm2, hml2⟩ := checkS_zero hc
    have HNW := Lib.hid (EnNew_ok q m v M hv hq hq1 (by omega) hm1 hm2 (fun r hr => ⟨hml2 r hr, ho r hr⟩) hT hB)
    rw [hc] at HCK
    obtain ⟨av, cv, rfl, -, -, -⟩ := hv.opens
    rw [hq] at hml HV HNW HCK ⊢
    clear hv ho hT hB hg hq hc hml2
    go_enter Tryz.func4, Tryz.ntmps4
    go_wp2_with fail
    refine HNW.out.mono ?_
    rintro e w1 ⟨g, s, h, l, p, sd, vm, V, rfl, hen, hb1⟩
    have HEN := Lib.hid hen
    have HB1 := Lib.hid hb1
    clear hen hb1
    go_wp2_with fail
    refine (HCK.out _ HB1.out).mono ?_
    rintro e w2 ⟨rfl, rfl⟩
    go_wp2_with fail
    refine (tells_nil nameEnNew).mono ?_
    rintro e w3 ⟨rfl, rfl⟩
    go_wp2_with fail
    refine (EnK_any HEN.out).mono ?_
    rintro e w3 ⟨rfl, rfl⟩
    have hqq : ((q : Int) == (q : Int)) = true := by simp
    go_wp2_with fail
    refine (HAW.out _ HB1.out).mono ?_
    rintro e w4 ⟨rfl, hb4⟩
    have HB4 := Lib.hid (HB1.out.trans (hb4.mono HB1.out.size))
    clear hb4
    go_wp2
    go_ret
    exact ⟨rfl, HB4.out⟩
  · have HNW := Lib.hid (EnNew_bad v M size hv ho (by omega) (by omega) hT hB hc)
    obtain ⟨n, hn⟩ : ∃ n, checkS M size = n := ⟨_, rfl⟩
    rw [hn] at HCK HNW hc
    obtain ⟨av, cv, rfl, -, -, -⟩ := hv.opens
    rw [hq] at hml HV HNW HCK ⊢
    have HNN := Lib.hid hc
    have hnb : (n != 0) = true := by rw [bne_iff_ne]; exact hc
    clear hv ho hT hB hg hq hn hc
    go_enter Tryz.func4, Tryz.ntmps4
    go_wp2_with fail
    refine HNW.out.mono ?_
    rintro e w1 ⟨E, rfl, hea, hb1⟩
    have HEA := Lib.hid hea
    have HB1 := Lib.hid hb1
    obtain ⟨u, x, rfl⟩ := hea.some HNN.out
    clear hea hb1
    go_wp2_with fail
    refine (HCK.out _ HB1.out).mono ?_
    rintro e w2 ⟨rfl, rfl⟩
    go_wp2_with fail
    refine (tells_ans n nameEnNew _ HEA.out (HG.out.mono HB1.out)).mono ?_
    rintro e w3 ⟨rfl, hb3⟩
    have HB3 := Lib.hid (HB1.out.trans (hb3.mono HB1.out.size))
    clear hb3
    go_wp2_with fail
    refine (HAW.out _ HB3.out).mono ?_
    rintro e w4 ⟨rfl, hb4⟩
    have HB4 := Lib.hid (HB3.out.trans (hb4.mono HB3.out.size))
    clear hb4
    go_wp2
    go_ret
    exact ⟨rfl, HB4.out⟩
end Go.Proofs.YtfibolkgpffjkaaGreatDoor
end
