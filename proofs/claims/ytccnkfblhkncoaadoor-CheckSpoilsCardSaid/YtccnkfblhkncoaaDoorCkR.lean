/- The document's power, Sum (layer 15). -/
import Derived.Test.YtccnkfblhkncoaaDoorCkMath
import Derived.Test.YtccnkfblhkncoaaDoorSyMath
import Derived.Test.YtccnkfblhkncoaaDoorOwn
import Derived.BigQuiet
import Derived.Deep.Cut
namespace Go.Proofs.YtccnkfblhkncoaaDoor
open Go.RowKit Go.Extern.Stop Go.Stop Go.Extern

theorem two_pow_le {j : Nat} (h : j ≤ 30) : 2 ^ j ≤ 1073741824 := show 2 ^ j ≤ 2 ^ 30 from Nat.pow_le_pow_right (by decide) h

set_option maxRecDepth 1000000 in
set_option maxHeartbeats 4000000 in
theorem ckPower_any {w : World} (k : Nat) (hk : k ≤ 31) : Calls Tryd.prog 21 #[.int .i64 (k : Int)] w fun e w' => e = .returned (.int .u32 ((2 ^ k : Nat) : Int)) ∧ w = w' := by
  go_enter Tryd.func21, Tryd.ntmps21
  go_wp2_with fail
  go_loopw [3, 4] (fun n i wr => ∃ j : Nat, j ≤ k ∧ i = .int .i64 (j : Int) ∧ n = .int .u32 ((2 ^ j : Nat) : Int) ∧ w = wr) (fun _ i _ => k - (intOf i).toNat)
  case atStart => exact ⟨0, by omega, rfl, rfl, rfl⟩
  case round =>
    obtain ⟨j, hj, rfl, rfl, rfl⟩ := hrel
    by_cases hlt : j < k
    · have d1 : decide ((j : Int) < (k : Int)) = true := decide_eq_true (by omega)
      have hle := two_pow_le (show j ≤ 30 by omega)
      have HS : Hid (2 ^ (j + 1) = 2 ^ j * 2) := Lib.hid (Nat.pow_succ 2 j)
      generalize 2 ^ j = x at *
      go_wp2
      go_roundw
      case rel => exact ⟨j + 1, hlt, by go_num, by rw [HS.out]; go_num, trivial⟩
      case measure => simp [intOf]; omega
    · obtain rfl : j = k := by omega
      have d1 : decide ((j : Int) < (j : Int)) = false := decide_eq_false (by omega)
      go_wp2
      go_ret
      exact ⟨rfl, rfl⟩

theorem ck_xor_u32 (a b : Nat) (ha : a < 4294967296) (hb : b < 4294967296) : bits .xor .u32 (a : Int) (b : Int) = ((a ^^^ b : Nat) : Int) := by
  have hx : a ^^^ b < 2 ^ 32 := Nat.xor_lt_two_pow (by omega) (by omega)
  have h1 : (BitVec.ofInt 32 (a : Int)).toNat = a := by
    rw [BitVec.ofInt_natCast, BitVec.toNat_ofNat]; exact Nat.mod_eq_of_lt (by omega)
  have h2 : (BitVec.ofInt 32 (b : Int)).toNat = b := by
    rw [BitVec.ofInt_natCast, BitVec.toNat_ofNat]; exact Nat.mod_eq_of_lt (by omega)
  show IntKind.u32.wrap ((BitVec.ofInt 32 (a : Int) ^^^ BitVec.ofInt 32 (b : Int)).toNat : Int) = _
  rw [BitVec.toNat_xor, h1, h2, IntKind.wrap_u32]
  omega

theorem crc_take (l : List Nat) (n : Nat) (j : Nat) (h : j < l.length) : crcO n (l.take (j + 1)) = crcR (crcO n (l.take j)) (octBits (l.getD j 0)) := by
  rw [List.take_add_one, List.getElem?_eq_getElem h, crcO_append, List.getD_eq_getElem?_getD, List.getElem?_eq_getElem h]
  show crcO _ [l[j]] = _
  rw [crcO_cons]; rfl
theorem oct_take (n y b : Nat) (h : b < 8) : crcR n ((octBits y).take (b + 1)) = crcS (crcR n ((octBits y).take b)) (y.testBit b) := by
  have hl : b < (octBits y).length := by rw [octBits_length]; exact h
  rw [List.take_add_one, List.getElem?_eq_getElem hl, crcR_append]
  have : (octBits y)[b] = y.testBit b := by simp [octBits]
  rw [this]; rfl
theorem bit_div (y b : Nat) : y.testBit b = decide (y / 2 ^ b % 2 = 1) := Nat.testBit_eq_decide_div_mod_eq

set_option maxRecDepth 1000000 in
set_option maxHeartbeats 4000000 in
theorem ckSum_any {w : World} (v : Value) (l : List Nat) (h : ListAt byteV w v l) (ho : Octets l) : Calls Tryd.prog 24 #[v] w fun e w' => e = .returned (.int .u32 ((crcSum l : Nat) : Int)) ∧ Below w.heap.size w w' := by
  have hlen := h.len
  obtain ⟨a, cap, rfl, hc1, hc2, hcell⟩ := h
  have HC := Lib.hid hcell
  have HR0 : Hid (crcO 4294967295 (l.take 0) = 4294967295) := Lib.hid rfl
  have HLT : Hid (∀ j, crcO 4294967295 (l.take j) < 4294967296) := Lib.hid fun j => crcO_lt _ _ (by decide)
  have HLT2 : Hid (∀ j (bs : List Bool), crcR (crcO 4294967295 (l.take j)) bs < 4294967296) := Lib.hid fun j bs => crcR_lt _ _ (crcO_lt _ _ (by decide))
  have HO := Lib.hid ho
  have HEND : Hid (crcSum l = 4294967295 - crcO 4294967295 (l.take l.length)) := Lib.hid (by rw [List.take_length]; rfl)
  clear hcell ho
  go_enter Tryd.func24, Tryd.ntmps24
  go_wp2_with fail
  go_loopw [3, 4] (fun n i wr => ∃ j : Nat, j ≤ l.length ∧ i = .int .i64 (j : Int) ∧ n = .int .u32 ((crcO 4294967295 (l.take j) : Nat) : Int) ∧ Below w.heap.size w wr) (fun _ i _ => l.length - (intOf i).toNat)
  case atStart => exact ⟨0, by omega, rfl, by rw [HR0.out]; rfl, Below.refl _ _⟩
  case round =>
    obtain ⟨j, hj, rfl, rfl, hbel⟩ := hrel
    have HB := Lib.hid hbel
    have hn0 := HLT.out j
    by_cases hlt : j < l.length
    · have d1 : decide ((j : Int) < (l.length : Int)) = true := decide_eq_true (by omega)
      obtain ⟨bk, off, rfl, hcc⟩ := HC.out (by omega)
      have hx := hcc j hlt
      have hy : l.getD j 0 < 256 := HO.out.getD j
      have hcell : w.cell? ⟨bk, off + j, none⟩ = some (byteV (l.getD j 0)) := by
        rw [hx]; simp [List.getD_eq_getElem?_getD, hlt]
      have hbl := World.block_lt_of_cell? w _ hcell
      have HCELL : Hid (∀ V, Below w.heap.size w V → V.cell? ⟨bk, off + j, none⟩ = some (.int .u8 ((l.getD j 0 : Nat) : Int))) := Lib.hid fun V hV => (hV.cell (p := ⟨bk, off + j, none⟩) hbl).trans hcell
      have HTK := Lib.hid (crc_take l 4294967295 j hlt)
      have HLT3 := Lib.hid (HLT2.out j)
      clear hcc hx hcell hbel
      generalize l.getD j 0 = y at *
      generalize crcO 4294967295 (l.take j) = n0 at *
      have HB8 : Hid (crcR n0 (octBits y) = crcR n0 ((octBits y).take 8)) := Lib.hid (by rw [List.take_of_length_le (by rw [octBits_length]; exact Nat.le_refl _)])
      have HB0 : Hid (crcR n0 ((octBits y).take 0) = n0) := Lib.hid rfl
      go_wp2_with fail
      go_loopw [3, 5] (fun n b wr => ∃ t : Nat, t ≤ 8 ∧ b = .int .i64 (t : Int) ∧ n = .int .u32 ((crcR n0 ((octBits y).take t) : Nat) : Int) ∧ Below w.heap.size w wr) (fun _ b _ => 8 - (intOf b).toNat)
      case atStart => exact ⟨0, by omega, rfl, by rw [HB0.out], HB.out⟩
      case round =>
        obtain ⟨t, ht, rfl, rfl, hbel⟩ := hrel
        have HB2 := Lib.hid hbel
        have hn1 := HLT3.out ((octBits y).take t)
        by_cases htl : t < 8
        · have d2 : decide ((t : Int) < 8) = true := decide_eq_true (by omega)
          have HST := Lib.hid (oct_take n0 y t htl)
          have q1 := HCELL.out wr hbel
          have HP : Hid (∀ V : World, Calls Tryd.prog 21 #[.int .i64 (t : Int)] V fun e w' => e = .returned (.int .u32 ((2 ^ t : Nat) : Int)) ∧ w' = V) := Lib.hid fun V => (ckPower_any t (by omega)).mono (by rintro e w' ⟨rfl, rfl⟩; exact ⟨rfl, rfl⟩)
          have hx1 : 1 ≤ 2 ^ t := Nat.one_le_two_pow
          have hx2 := two_pow_le (show t ≤ 30 by omega)
          have HBIT := Lib.hid (bit_div y t)
          have hd : y / 2 ^ t ≤ y := Nat.div_le_self _ _
          clear hbel
          generalize crcR n0 ((octBits y).take t) = n at *
          generalize 2 ^ t = x at *
          have hz : ¬ x = 0 := by omega
          have hz2 : ¬ (x : Int) = 0 := by omega
          have hq1 : (y : Int) / (x : Int) = ((y / x : Nat) : Int) := by simp
          have hq2 : (y : Int).tdiv (x : Int) = ((y / x : Nat) : Int) := rfl
          generalize y / x = d at *
          go_upto_region 8 with fail
          go_quiet (exact Calls.quiet_of_same (HP.out _))
          have HBN := Lib.hid (below_draws HB2.out nq)
          have hh : (n : Int) / 2 = ((n / 2 : Nat) : Int) := by omega
          have hm : n / 2 < 4294967296 := by omega
          have HXR : Hid (bits .xor .u32 ((n / 2 : Nat) : Int) 2197175160 = ((n / 2 ^^^ 2197175160 : Nat) : Int)) := Lib.hid (ck_xor_u32 (n / 2) 2197175160 hm (by decide))
          have HCS : Hid (crcS n (y.testBit t) = if d % 2 = n % 2 then n / 2 else n / 2 ^^^ 2197175160) := Lib.hid (by
            unfold crcS crcP
            rw [HBIT.out, Nat.testBit_zero]
            by_cases h : d % 2 = n % 2
            · rw [if_pos h, if_pos (by rw [h])]
            · rw [if_neg h, if_neg (by intro e; have := decide_eq_decide.1 e; omega)])
          generalize n / 2 = m at *
          by_cases hb : d % 2 = n % 2
          · have e1 : (((d : Int) % 2) != ((n : Int) % 2)) = false := by simp; omega
            have HNW : Hid (crcS n (y.testBit t) = m) := Lib.hid (by rw [HCS.out, if_pos hb])
            clear hb
            go_wp2
            go_roundw
            case rel => exact ⟨t + 1, by omega, by go_num, by rw [HST.out, HNW.out], HBN.out⟩
            case measure => simp [intOf]; omega
          · have e1 : (((d : Int) % 2) != ((n : Int) % 2)) = true := by simp; omega
            have HNW : Hid (crcS n (y.testBit t) = m ^^^ 2197175160) := Lib.hid (by rw [HCS.out, if_neg hb])
            have hxr := HXR.out
            generalize m ^^^ 2197175160 = z at *
            clear hb
            go_wp2
            go_roundw
            case rel => exact ⟨t + 1, by omega, by go_num, by rw [HST.out, HNW.out], HBN.out⟩
            case measure => simp [intOf]; omega
        · obtain rfl : t = 8 := by omega
          clear hbel
          generalize hq : crcR n0 ((octBits y).take 8) = n at *
          have HQ := Lib.hid hq
          clear hq
          go_wp2
          go_roundw
          case rel => exact ⟨j + 1, hlt, by go_num, by rw [HTK.out, HB8.out], HB2.out⟩
          case measure => simp [intOf]; omega
    · obtain rfl : j = l.length := by omega
      have d1 : decide ((l.length : Int) < (l.length : Int)) = false := decide_eq_false (by omega)
      generalize crcO 4294967295 (l.take l.length) = n at *
      obtain ⟨m, hm⟩ : ∃ m, m = 4294967295 - n := ⟨_, rfl⟩
      have hsub : (4294967295 : Int) - (n : Int) = (m : Int) := by omega
      have hml : m < 4294967296 := by omega
      have HM := Lib.hid hm
      clear hbel hm
      go_wp2
      go_ret
      exact ⟨by rw [HEND.out, ← HM.out]; rfl, HB.out⟩
end Go.Proofs.YtccnkfblhkncoaaDoor
