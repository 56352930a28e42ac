/- The landed package check: Spoil (layer 15). -/
import Derived.Test.YtmihpbdgilmdiaaDoorCkLb
import Derived.Test.YtmihpbdgilmdiaaDoorCkLen
namespace Go.Proofs.YtmihpbdgilmdiaaDoor
open Go.RowKit Go.Extern.Stop Go.Stop Go.Extern

theorem spoilN_step (at0 mask : Nat) (l : List Nat) (i : Nat) (h : (at0 + i) / 8 < l.length) : spoilN at0 mask l (i + 1) = (spoilN at0 mask l i).set ((at0 + i) / 8) ((spoilN at0 mask l i).getD ((at0 + i) / 8) 0 ^^^ (mask / 2 ^ i % 2 * 2 ^ ((at0 + i) % 8))) := by
  show spoilS _ _ _ _ = _
  unfold spoilS
  rw [Nat.testBit_eq_decide_div_mod_eq]
  by_cases hb : mask / 2 ^ i % 2 = 1
  · rw [hb, if_pos (by decide), Nat.one_mul]
  · have h0 : mask / 2 ^ i % 2 = 0 := by omega
    rw [h0, if_neg (by decide), Nat.zero_mul, Nat.xor_zero]
    have hl := spoilN_length at0 mask l i
    generalize spoilN at0 mask l i = r at *
    rw [← hl] at h
    apply List.ext_getElem?
    intro k
    rw [List.getElem?_set]
    split
    · rename_i e
      subst e
      simp [h, List.getD_eq_getElem?_getD]
    · rfl

theorem ck_mul_lt (t r : Nat) (ht : t < 2) (hr : r < 8) : t * 2 ^ r < 256 := by
  have h1 : 2 ^ r ≤ 2 ^ 7 := Nat.pow_le_pow_right (by decide) (by omega)
  have h2 : (2 : Nat) ^ 7 = 128 := by decide
  have h3 : t * 2 ^ r ≤ 1 * 2 ^ r := Nat.mul_le_mul_right _ (by omega)
  omega

set_option maxRecDepth 1000000 in
set_option maxHeartbeats 4000000 in
theorem ckSpoilC : CkSpoilC := fun w v l z mask h ho hR hz hm => by
  have hlen := h.len
  have HL := Lib.hid h
  obtain ⟨hz1, hz2⟩ := hz
  have hfit : IntKind.i64.wrap (8 * (l.length : Int)) = 8 * (l.length : Int) := IntWalk.i64_in _ (by omega)
  have HLN : Hid (∀ V : World, Calls Tryd.prog 35 #[.int .u32 (mask : Int)] V fun e w' => e = .returned (.int .i64 (Lib.bitLen mask : Nat)) ∧ w' = V) := Lib.hid fun V => ckLen_any mask hm V
  have HCL := Lib.hid (ckClone_any v l h hR)
  by_cases hin : 0 ≤ z ∧ z < 8 * (l.length : Int) ∧ mask ≠ 0 ∧ z + (Lib.bitLen mask : Int) ≤ 8 * (l.length : Int)
  · obtain ⟨h1, h2, h3, h4⟩ := hin
    obtain ⟨at0, rfl⟩ : ∃ at0 : Nat, z = (at0 : Int) := ⟨z.toNat, by omega⟩
    obtain ⟨k1, k2, k3, k4⟩ := ckLen_pos hm h3
    have HOK : Hid (SpoilOk l (at0 : Int) mask at0) := Lib.hid ⟨rfl, by omega, h3, fun i hi => by
      rcases Nat.lt_or_ge i (Lib.bitLen mask) with h | h
      · omega
      · rw [k4 i h] at hi; exact absurd hi (by decide)⟩
    have HSP := Lib.hid (spoilN_len at0 mask l (Lib.bitLen mask) k4)
    generalize Lib.bitLen mask = n at *
    have HS0 : Hid (spoilN at0 mask l 0 = l) := Lib.hid rfl
    have HSL : Hid (∀ i, (spoilN at0 mask l i).length = l.length) := Lib.hid (spoilN_length at0 mask l)
    have HSO : Hid (∀ i, Octets (spoilN at0 mask l i)) := Lib.hid (spoilN_octets ho)
    have HST : Hid (∀ i, i < n → spoilN at0 mask l (i + 1) = (spoilN at0 mask l i).set ((at0 + i) / 8) ((spoilN at0 mask l i).getD ((at0 + i) / 8) 0 ^^^ (mask / 2 ^ i % 2 * 2 ^ ((at0 + i) % 8)))) := Lib.hid fun i hi => spoilN_step at0 mask l i (by omega)
    generalize hSN : spoilN at0 mask l = SN at *
    have g1 : decide ((at0 : Int) < 0) = false := decide_eq_false (by omega)
    have g2 : decide (8 * (l.length : Int) ≤ (at0 : Int)) = false := decide_eq_false (by omega)
    have g3 : ((n : Int) == 0) = false := by simp; omega
    have g4 : decide (8 * (l.length : Int) < (at0 : Int) + (n : Int)) = false := decide_eq_false (by omega)
    obtain ⟨a, cap, rfl, -, -, -⟩ := h
    clear hSN k3 k4 h3 ho
    go_enter Tryd.func17, Tryd.ntmps17
    go_wp2_with fail
    refine (HLN.out _).mono ?_
    rintro e w0 ⟨rfl, rfl⟩
    go_wp2_with fail
    refine HCL.out.mono ?_
    rintro e w1 ⟨v1, rfl, ho1, hb1⟩
    obtain ⟨g, c3, rfl, hg1, hg2⟩ := ho1.form (by omega)
    have HO1 := Lib.hid ho1
    have HB1 := Lib.hid hb1
    clear ho1 hb1
    go_wp2_with fail
    go_loopw [40] (fun i wr => ∃ j : Nat, j ≤ n ∧ i = .int .i64 (j : Int) ∧ wr.ownsRow w0.heap.size 5 1 (.slice (some ⟨g, 0, none⟩) l.length c3) l.length ((SN j).map byteV) ∧ Below w0.heap.size w0 wr) (fun i _ => n - (intOf i).toNat)
    case atStart => exact ⟨0, by omega, rfl, by rw [HS0.out]; exact HO1.out, HB1.out⟩
    case round =>
      obtain ⟨j, hj, rfl, hown, hbel⟩ := hrel
      have HOW := Lib.hid hown
      have HB := Lib.hid hbel
      have hsz := hbel.size
      clear hown hbel
      by_cases hlt : j < n
      · have d3 : decide ((j : Int) < (n : Int)) = true := decide_eq_true (by omega)
        have HS1 := Lib.hid (HST.out j hlt)
        have hq1 : (mask : Int) / 2 ^ j = ((mask / 2 ^ j : Nat) : Int) := by simp
        have hd : mask / 2 ^ j ≤ mask := Nat.div_le_self _ _
        generalize mask / 2 ^ j = d at *
        have han := ck_and_one d (by omega)
        have ht2 : d % 2 < 2 := by omega
        generalize d % 2 = t at *
        obtain ⟨s, hs⟩ : ∃ s, s = at0 + j := ⟨_, rfl⟩
        have hsI : (at0 : Int) + (j : Int) = (s : Int) := by omega
        have hsl : s < 8 * l.length := by omega
        rw [← hs] at HS1
        have hdI : (s : Int) / 8 = ((s / 8 : Nat) : Int) := by omega
        have hdT : (s : Int).tdiv 8 = ((s / 8 : Nat) : Int) := rfl
        have hrI : (s : Int) % 8 = ((s % 8 : Nat) : Int) := by omega
        have hrT : (s : Int).tmod 8 = ((s % 8 : Nat) : Int) := rfl
        have hql : s / 8 < l.length := by omega
        have hrl : s % 8 < 8 := by omega
        generalize s / 8 = q at *
        generalize s % 8 = r at *
        have hpl := ck_mul_lt t r ht2 hrl
        have hp1 : (t : Int) * 2 ^ r = ((t * 2 ^ r : Nat) : Int) := by push_cast; rfl
        generalize t * 2 ^ r = x at *
        have hy : (SN j).getD q 0 < 256 := (HSO.out j).getD q
        have q1 : wr.cell? ⟨g, q, none⟩ = some (.int .u8 (((SN j).getD q 0 : Nat) : Int)) := by
          rw [HOW.out.cellAt q (by omega)]
          simp [List.getD_eq_getElem?_getD, HSL.out j, hql, byteV]
        have f1 : wr.frozen? ⟨g, q, none⟩ = false := HOW.out.frozenAt q
        have hbx := bits_xor_u8_nat ((SN j).getD q 0) x hy hpl
        have HNX : Hid ((wr.setCell ⟨g, q, none⟩ (.int .u8 (((SN j).getD q 0 ^^^ x : Nat) : Int))).ownsRow w0.heap.size 5 1 (.slice (some ⟨g, 0, none⟩) l.length c3) l.length ((SN (j + 1)).map byteV) ∧ Below w0.heap.size w0 (wr.setCell ⟨g, q, none⟩ (.int .u8 (((SN j).getD q 0 ^^^ x : Nat) : Int)))) := Lib.hid ⟨by rw [HS1.out, List.map_set]; exact (HOW.out.stored q _).1, HB.out.setCell (p := ⟨g, q, none⟩) hg1 _⟩
        generalize (SN j).getD q 0 = y at *
        generalize y ^^^ x = yx at *
        have hcv : IntKind.u8.wrap (t : Int) = (t : Int) := by rw [IntKind.wrap_u8]; omega
        have hcm : (t : Int) % 256 = (t : Int) := by omega
        have hcx : IntKind.u8.wrap (x : Int) = (x : Int) := by rw [IntKind.wrap_u8]; omega
        have hcy : (x : Int) % 256 = (x : Int) := by omega
        have hws : IntKind.i64.wrap (s : Int) = (s : Int) := IntWalk.i64_in _ (by omega)
        have hwq : IntKind.i64.wrap (q : Int) = (q : Int) := IntWalk.i64_in _ (by omega)
        have hwr : IntKind.i64.wrap (r : Int) = (r : Int) := IntWalk.i64_in _ (by omega)
        have hq0 : (0 : Int) ≤ (q : Int) := by omega
        have hqn : (q : Int) < (l.length : Int) := by omega
        have hr0 : ¬ (r : Int) < 0 := by omega
        have hj0 : ¬ (j : Int) < 0 := by omega
        clear hs
        go_upto_region 9 with fail
        go_region
        go_wp2
        go_roundw
        case rel => exact ⟨j + 1, by omega, by go_num, HNX.out.1.drew, HNX.out.2.drew⟩
        case measure => simp [intOf]; omega
      · obtain rfl : j = n := by omega
        have d3 : decide ((j : Int) < (j : Int)) = false := decide_eq_false (by omega)
        go_wp2
        go_ret2
        exact ⟨HB.out, .inr ⟨at0, SN j, HOK.out, HSP.out, HSO.out j, _, rfl, HOW.out⟩⟩
  · have HNO : Hid (∀ at0, ¬ SpoilOk l z mask at0) := Lib.hid fun at0 hs => by
      obtain ⟨s1, s2, s3, s4⟩ := hs
      obtain ⟨k1, k2, k3, -⟩ := ckLen_pos hm s3
      have := s4 _ k3
      apply hin
      exact ⟨by omega, by omega, s3, by omega⟩
    have hlb : (Lib.bitLen mask : Int) ≤ 32 := by
      by_cases h0 : mask = 0
      · rw [h0, ckLen_zero]; decide
      · have := (ckLen_pos hm h0).2.1; omega
    have HZ : Hid (mask = 0 → Lib.bitLen mask = 0) := Lib.hid fun h => by rw [h]; exact ckLen_zero
    have hzz : 0 ≤ z → z < 8 * (l.length : Int) → Lib.bitLen mask ≠ 0 → 8 * (l.length : Int) < z + (Lib.bitLen mask : Int) := fun h1 h2 h3 => by
      rcases Int.lt_or_le (8 * (l.length : Int)) (z + (Lib.bitLen mask : Int)) with h | h
      · exact h
      · exact absurd ⟨h1, h2, fun h0 => h3 (HZ.out h0), h⟩ hin
    obtain ⟨a, cap, rfl, -, -, -⟩ := h
    clear hin HZ
    generalize Lib.bitLen mask = n at *
    have HZZ := Lib.hid hzz
    clear hzz
    by_cases g1 : z < 0
    · have d1 : decide (z < 0) = true := decide_eq_true g1
      go_enter Tryd.func17, Tryd.ntmps17
      go_wp2_with fail
      refine (HLN.out _).mono ?_
      rintro e w0 ⟨rfl, rfl⟩
      go_wp2_with fail
      refine (New_ans nameCkSpoil 2 (by decide) _).mono ?_
      rintro e w4 ⟨E, rfl, hc, hb4⟩
      have HC := Lib.hid hc
      have HB4 := Lib.hid hb4
      clear hc hb4
      go_wp2_with fail
      go_ret2
      exact ⟨HB4.out, .inl ⟨HNO.out, E, rfl, HC.out⟩⟩
    have d1 : decide (z < 0) = false := decide_eq_false g1
    by_cases g2 : 8 * (l.length : Int) ≤ z
    · have d2 : decide (8 * (l.length : Int) ≤ z) = true := decide_eq_true g2
      go_enter Tryd.func17, Tryd.ntmps17
      go_wp2_with fail
      refine (HLN.out _).mono ?_
      rintro e w0 ⟨rfl, rfl⟩
      go_wp2_with fail
      refine (New_ans nameCkSpoil 2 (by decide) _).mono ?_
      rintro e w4 ⟨E, rfl, hc, hb4⟩
      have HC := Lib.hid hc
      have HB4 := Lib.hid hb4
      clear hc hb4
      go_wp2_with fail
      go_ret2
      exact ⟨HB4.out, .inl ⟨HNO.out, E, rfl, HC.out⟩⟩
    have d2 : decide (8 * (l.length : Int) ≤ z) = false := decide_eq_false g2
    by_cases g3 : n = 0
    · subst g3
      go_enter Tryd.func17, Tryd.ntmps17
      go_wp2_with fail
      refine (HLN.out _).mono ?_
      rintro e w0 ⟨rfl, rfl⟩
      go_wp2_with fail
      refine (New_ans nameCkSpoil 2 (by decide) _).mono ?_
      rintro e w4 ⟨E, rfl, hc, hb4⟩
      have HC := Lib.hid hc
      have HB4 := Lib.hid hb4
      clear hc hb4
      go_wp2_with fail
      go_ret2
      exact ⟨HB4.out, .inl ⟨HNO.out, E, rfl, HC.out⟩⟩
    have d3 : ((n : Int) == 0) = false := by simp; omega
    have d4 : decide (8 * (l.length : Int) < z + (n : Int)) = true := decide_eq_true (HZZ.out (by omega) (by omega) g3)
    go_enter Tryd.func17, Tryd.ntmps17
    go_wp2_with fail
    refine (HLN.out _).mono ?_
    rintro e w0 ⟨rfl, rfl⟩
    go_wp2_with fail
    refine (New_ans nameCkSpoil 2 (by decide) _).mono ?_
    rintro e w4 ⟨E, rfl, hc, hb4⟩
    have HC := Lib.hid hc
    have HB4 := Lib.hid hb4
    clear hc hb4
    go_wp2_with fail
    go_ret2
    exact ⟨HB4.out, .inl ⟨HNO.out, E, rfl, HC.out⟩⟩
end Go.Proofs.YtmihpbdgilmdiaaDoor
