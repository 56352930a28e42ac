/- The document's Spoil (layer 15). -/
import Derived.Test.YtccnkfblhkncoaaDoorCkSp
import Derived.Deep.AppendLies
namespace Go.Proofs.YtccnkfblhkncoaaDoor
open Go.RowKit Go.Extern.Stop Go.Stop Go.Extern

theorem two_pow_le31 {j : Nat} (h : j ≤ 31) : 2 ^ j ≤ 2147483648 := show 2 ^ j ≤ 2 ^ 31 from Nat.pow_le_pow_right (by decide) h

set_option maxRecDepth 1000000 in
set_option maxHeartbeats 4000000 in
theorem rSpoil_any {w : World} (v : Value) (l : List Nat) (z : Int) (mask : Nat) (h : ListAt byteV w v l) (ho : Octets l) (hR : l.length ≤ 140737488351232) (hz : I64 z) (hm : mask < 4294967296) :
    Calls Tryd.prog 11 #[v, .int .i64 z, .int .u32 (mask : Int)] w fun e w' => Below w.heap.size w w' ∧
      (((∀ at0, ¬ SpoilOk l z mask at0) ∧ e = .returned (.tuple #[nilS, .int .i64 2])) ∨
      (∃ at0, SpoilOk l z mask at0 ∧ ∃ v', e = .returned (.tuple #[v', .int .i64 0]) ∧ w'.ownsRow w.heap.size 5 1 v' l.length ((spoilN at0 mask l 32).map byteV))) := by
  obtain ⟨j0, hj0, jz0, jz1, jz2⟩ := info_parts info_u8
  have hlen := h.len
  have HL := Lib.hid h
  obtain ⟨a, cap, rfl, -, -, -⟩ := h
  obtain ⟨hz1, hz2⟩ := hz
  by_cases hn : z < 0
  · have d1 : decide (z < 0) = true := decide_eq_true hn
    have HNO : Hid (∀ at0, ¬ SpoilOk l z mask at0) := Lib.hid fun at0 h => by have := h.1; omega
    go_enter Tryd.func11, Tryd.ntmps11
    go_wp2_with fail
    go_ret2
    exact ⟨Below.refl _ _, .inl ⟨HNO.out, rfl⟩⟩
  obtain ⟨at0, rfl⟩ : ∃ at0 : Nat, z = (at0 : Int) := ⟨z.toNat, by omega⟩
  have d1 : decide ((at0 : Int) < 0) = false := decide_eq_false hn
  by_cases hin : at0 < 8 * l.length
  rotate_left
  · have d2 : decide (8 * (l.length : Int) ≤ (at0 : Int)) = true := decide_eq_true (by omega)
    have HNO : Hid (∀ a0, ¬ SpoilOk l (at0 : Int) mask a0) := Lib.hid fun a0 h => by have := h.1; have := h.2.1; omega
    go_enter Tryd.func11, Tryd.ntmps11
    go_wp2_with fail
    go_ret2
    exact ⟨Below.refl _ _, .inl ⟨HNO.out, rfl⟩⟩
  have d2 : decide (8 * (l.length : Int) ≤ (at0 : Int)) = false := decide_eq_false (by omega)
  by_cases hm0 : mask = 0
  · subst hm0
    have HNO : Hid (∀ a0, ¬ SpoilOk l (at0 : Int) 0 a0) := Lib.hid fun a0 h => h.2.2.1 rfl
    go_enter Tryd.func11, Tryd.ntmps11
    go_wp2_with fail
    go_ret2
    exact ⟨Below.refl _ _, .inl ⟨HNO.out, rfl⟩⟩
  have hmb : ((mask : Int) == 0) = false := by simp; omega
  have HOK : Hid ((∀ i, i < 32 → mask.testBit i = true → at0 + i < 8 * l.length) → SpoilOk l (at0 : Int) mask at0) := Lib.hid fun h => ⟨rfl, hin, hm0, fun i hi => by
    rcases Nat.lt_or_ge i 32 with h1 | h1
    · exact h i h1 hi
    · rw [Nat.testBit_lt_two_pow (Nat.lt_of_lt_of_le hm (show 2 ^ 32 ≤ 2 ^ i from Nat.pow_le_pow_right (by decide) h1))] at hi
      exact absurd hi (by decide)⟩
  have HNO : Hid (∀ i, mask.testBit i = true → 8 * l.length ≤ at0 + i → ∀ a0, ¬ SpoilOk l (at0 : Int) mask a0) := Lib.hid fun i h1 h2 a0 h => by
    have := h.1
    have := h.2.2.2 i h1
    omega
  have HS0 : Hid (spoilN at0 mask l 0 = l) := Lib.hid rfl
  have HSL : Hid (∀ i, (spoilN at0 mask l i).length = l.length) := Lib.hid (spoilN_length at0 mask l)
  have HSO : Hid (∀ i, Octets (spoilN at0 mask l i)) := Lib.hid (spoilN_octets ho)
  have HS1 : Hid (∀ i, mask.testBit i = false → spoilN at0 mask l (i + 1) = spoilN at0 mask l i) := Lib.hid fun i h => by
    show spoilS _ _ _ _ = _
    unfold spoilS
    rw [if_neg (by rw [h]; decide)]
  have HS2 : Hid (∀ i, mask.testBit i = true → spoilN at0 mask l (i + 1) = (spoilN at0 mask l i).set ((at0 + i) / 8) ((spoilN at0 mask l i).getD ((at0 + i) / 8) 0 ^^^ 2 ^ ((at0 + i) % 8))) := Lib.hid fun i h => by
    show spoilS _ _ _ _ = _
    unfold spoilS
    rw [if_pos h]
  have HBIT : Hid (∀ i, mask.testBit i = decide (mask / 2 ^ i % 2 = 1)) := Lib.hid fun i => bit_div mask i
  have HP : Hid (∀ (t : Nat), t ≤ 31 → ∀ V : World, Calls Tryd.prog 21 #[.int .i64 (t : Int)] V fun e w' => e = .returned (.int .u32 ((2 ^ t : Nat) : Int)) ∧ w' = V) := Lib.hid fun t ht V => (ckPower_any t ht).mono (by rintro e w' ⟨rfl, rfl⟩; exact ⟨rfl, rfl⟩)
  have HOS := Lib.hid (World.ownsRow_made (base := w.heap.size) (e := 5) (size := 1) w #[] 0 (Nat.le_refl _) (by decide) rfl)
  have HB2 := Lib.hid ((Below.refl w.heap.size w).alloc (Nat.le_refl _) (.cells #[] 5))
  have HL2 := Lib.hid (HL.out.mono HB2.out)
  have hl1 : 1 ≤ l.length := by omega
  generalize hSN : spoilN at0 mask l = SN at *
  have HSN := Lib.hid hSN
  clear ho hm0 hSN
  go_enter Tryd.func11, Tryd.ntmps11
  go_wp2_with (at_builtin; refine wpList_append_of _ rfl (.tmp 23) (.tmp 24) 22 rfl w.heap.size 5 j0 (.int .u8 0) 1 Tryd.underlying22 hj0 jz0 jz1 jz2 rfl (.slice (some ⟨w.heap.size, 0, none⟩) 0 0) 0 [] rfl HOS.out (.slice a l.length cap) l rfl HL2.out (fun y _ => rfl) (by unfold maxLen; omega) (by omega) (by simp) ?_; intro v3 w3 ho3 hg3; have HO3 := Lib.hid (show w3.ownsRow w.heap.size 5 1 v3 l.length (l.map byteV) by simpa using ho3); have HB3 := Lib.hid (HB2.out.grown hg3 (by simp) (fun k hk => (HOS.out.lt k hk).1)); clear ho3 hg3)
  obtain ⟨g, c3, rfl, hg1, hg2⟩ := HO3.out.form (by omega)
  go_loopw [9] (fun i wr => ∃ j : Nat, j ≤ 32 ∧ i = .int .i64 (j : Int) ∧ (∀ t, t < j → mask.testBit t = true → at0 + t < 8 * l.length) ∧ wr.ownsRow w.heap.size 5 1 (.slice (some ⟨g, 0, none⟩) l.length c3) l.length ((SN j).map byteV) ∧ Below w.heap.size w wr) (fun i _ => 32 - (intOf i).toNat)
  case atStart => exact ⟨0, by omega, rfl, fun t ht => by omega, by rw [HS0.out]; exact HO3.out, HB3.out⟩
  case round =>
    obtain ⟨j, hj, rfl, hpr, hown, hbel⟩ := hrel
    have HPR := Lib.hid hpr
    have HOW := Lib.hid hown
    have HB := Lib.hid hbel
    have HO0 := Lib.hid HO3.out
    have hsz := hbel.size
    clear hpr hown hbel HO3 HB3 HOS HB2 HL2
    by_cases hlt : j < 32
    · have d3 : decide ((j : Int) < 32) = true := decide_eq_true (by omega)
      have HPJ := Lib.hid (HP.out j (by omega))
      have HBJ := Lib.hid (HBIT.out j)
      have hx1 : 1 ≤ 2 ^ j := Nat.one_le_two_pow
      have hx2 := two_pow_le31 (show j ≤ 31 by omega)
      have hd : mask / 2 ^ j ≤ mask := Nat.div_le_self _ _
      generalize 2 ^ j = x at *
      have hz : ¬ x = 0 := by omega
      have hz2 : ¬ (x : Int) = 0 := by omega
      have hq1 : (mask : Int) / (x : Int) = ((mask / x : Nat) : Int) := by simp
      have hq2 : (mask : Int).tdiv (x : Int) = ((mask / x : Nat) : Int) := rfl
      generalize mask / x = d at *
      have HBN := HB
      by_cases hb : mask.testBit j = true
      · have e1 : ((d : Int) % 2 == 1) = true := by
          rw [HBJ.out] at hb
          have := of_decide_eq_true hb
          simp; omega
        by_cases hout : 8 * l.length ≤ at0 + j
        · have e2 : decide (8 * (l.length : Int) ≤ (at0 : Int) + (j : Int)) = true := decide_eq_true (by omega)
          have HNO' := Lib.hid (HNO.out j hb hout)
          clear hb
          go_wp2_with (go_at_call 21; refine (HPJ.out _).mono ?_; rintro e _ ⟨rfl, rfl⟩)
          go_ret2
          exact ⟨HBN.out, .inl ⟨HNO'.out, rfl⟩⟩
        · have e2 : decide (8 * (l.length : Int) ≤ (at0 : Int) + (j : Int)) = false := decide_eq_false (by omega)
          have HS2' := Lib.hid (HS2.out j hb)
          have HPR2 : Hid (∀ t, t < j + 1 → mask.testBit t = true → at0 + t < 8 * l.length) := Lib.hid fun t ht hb2 => by
            by_cases e : t = j
            · rw [e]; omega
            · exact HPR.out t (by omega) hb2
          obtain ⟨s, hs⟩ : ∃ s, s = at0 + j := ⟨_, rfl⟩
          have hsI : (at0 : Int) + (j : Int) = (s : Int) := by omega
          have hsl : s < 8 * l.length := by omega
          rw [← hs] at HS2'
          have hdI : (s : Int) / 8 = ((s / 8 : Nat) : Int) := by omega
          have hdT : (s : Int).tdiv 8 = ((s / 8 : Nat) : Int) := rfl
          have hrI : (s : Int) % 8 = ((s % 8 : Nat) : Int) := by omega
          have hrT : (s : Int).tmod 8 = ((s % 8 : Nat) : Int) := rfl
          have HPW := Lib.hid (HP.out (s % 8) (by omega))
          have ht : 2 ^ (s % 8) < 256 := pow_mod8_lt s
          have hql : s / 8 < l.length := by omega
          have hrl : s % 8 < 8 := by omega
          generalize s / 8 = q at *
          generalize s % 8 = r at *
          generalize 2 ^ r = t at *
          have hy : (SN j).getD q 0 < 256 := (HSO.out j).getD q
          have q1 : wr.cell? ⟨g, q, none⟩ = some (.int .u8 (((SN j).getD q 0 : Nat) : Int)) := by
            rw [HOW.out.cellAt q (by omega)]
            simp [List.getD_eq_getElem?_getD, HSL.out j, hql, byteV]
          have f1 : wr.frozen? ⟨g, q, none⟩ = false := HOW.out.frozenAt q
          have hbx := bits_xor_u8_nat ((SN j).getD q 0) t hy ht
          have HNX : Hid (∀ V : World, Below w.heap.size w V → V.ownsRow w.heap.size 5 1 (.slice (some ⟨g, 0, none⟩) l.length c3) l.length ((SN j).map byteV) → (V.setCell ⟨g, q, none⟩ (.int .u8 (((SN j).getD q 0 ^^^ t : Nat) : Int))).ownsRow w.heap.size 5 1 (.slice (some ⟨g, 0, none⟩) l.length c3) l.length ((SN (j + 1)).map byteV) ∧ Below w.heap.size w (V.setCell ⟨g, q, none⟩ (.int .u8 (((SN j).getD q 0 ^^^ t : Nat) : Int)))) := Lib.hid fun V hV ho => ⟨by rw [HS2'.out, List.map_set]; exact (ho.stored q _).1, hV.setCell (p := ⟨g, q, none⟩) hg1 _⟩
          generalize (SN j).getD q 0 = y at *
          generalize y ^^^ t = yx at *
          have hcv : IntKind.u8.wrap (t : Int) = (t : Int) := by rw [IntKind.wrap_u8]; omega
          have hcm : (t : Int) % 256 = (t : Int) := by omega
          have hws : IntKind.i64.wrap (s : Int) = (s : Int) := IntWalk.i64_in _ (by omega)
          have hwq : IntKind.i64.wrap (q : Int) = (q : Int) := IntWalk.i64_in _ (by omega)
          have hwr : IntKind.i64.wrap (r : Int) = (r : Int) := IntWalk.i64_in _ (by omega)
          have e3 : decide (8 * (l.length : Int) ≤ (s : Int)) = false := decide_eq_false (by omega)
          have hq0 : (0 : Int) ≤ (q : Int) := by omega
          have hqn : (q : Int) < (l.length : Int) := by omega
          clear hb hs
          go_upto_region 10 with (go_at_call 21; refine (HPJ.out _).mono ?_; rintro e wr ⟨rfl, rfl⟩)
          go_region_law (go_simp; go_at_call 21; refine (HPW.out _).mono ?_; rintro e w4 ⟨rfl, rfl⟩)
          all_goals
            have HN1 := Lib.hid (HNX.out wr HB.out HOW.out)
            go_wp2
            go_roundw
            case rel => exact ⟨j + 1, by omega, by go_num, HPR2.out, HN1.out.1.drew, HN1.out.2.drew⟩
            case measure => simp [intOf]; omega
      · have e1 : ((d : Int) % 2 == 1) = false := by
          have hb' : mask.testBit j = false := by simpa using hb
          rw [HBJ.out] at hb'
          have := of_decide_eq_false hb'
          simp; omega
        have HS1' := Lib.hid (HS1.out j (by simpa using hb))
        have HPR2 : Hid (∀ t, t < j + 1 → mask.testBit t = true → at0 + t < 8 * l.length) := Lib.hid fun t ht hb2 => by
          by_cases e : t = j
          · exact absurd (e ▸ hb2) hb
          · exact HPR.out t (by omega) hb2
        clear hb
        go_wp2_with (go_at_call 21; refine (HPJ.out _).mono ?_; rintro e _ ⟨rfl, rfl⟩)
        go_roundw
        case rel => exact ⟨j + 1, by omega, by go_num, HPR2.out, by rw [HS1'.out]; exact HOW.out, HBN.out⟩
        case measure => simp [intOf]; omega
    · obtain rfl : j = 32 := by omega
      have d3 : decide ((32 : Int) < 32) = false := decide_eq_false (by omega)
      go_wp2
      go_ret2
      exact ⟨HB.out, .inr ⟨at0, HOK.out HPR.out, _, rfl, by rw [HSN.out]; exact HOW.out⟩⟩
end Go.Proofs.YtccnkfblhkncoaaDoor
