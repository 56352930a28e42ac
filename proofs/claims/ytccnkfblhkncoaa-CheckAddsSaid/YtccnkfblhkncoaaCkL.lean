/- The landed package check: the register by a byte, the sum's four bytes, Sum (layer 15). -/
import Derived.Test.YtccnkfblhkncoaaCkC
namespace Go.Proofs.Ytccnkfblhkncoaa
open Go.RowKit Go.Extern.Stop Go.Stop Go.Extern

theorem ck_and_one (x : Nat) (hx : x < 4294967296) : bits .and .u32 (x : Int) 1 = ((x % 2 : Nat) : Int) := by
  have h1 : (BitVec.ofInt 32 (x : Int)).toNat = x := by
    rw [BitVec.ofInt_natCast, BitVec.toNat_ofNat]; exact Nat.mod_eq_of_lt (by omega)
  have h2 : (BitVec.ofInt 32 1).toNat = 1 := by decide
  show IntKind.u32.wrap ((BitVec.ofInt 32 (x : Int) &&& BitVec.ofInt 32 1).toNat : Int) = _
  rw [BitVec.toNat_and, h1, h2, Nat.and_one_is_mod, IntKind.wrap_u32]
  omega
theorem ck_not (x : Nat) (hx : x < 4294967296) : bits BinOp.xor IntKind.u32 (if IntKind.u32.signed = true then -1 else IntKind.u32.max) (x : Int) = ((4294967295 - x : Nat) : Int) := by
  have hx2 : 4294967295 ^^^ x = 4294967295 - x := by rw [Nat.xor_comm, crc_turn hx]
  have h1 : (BitVec.ofInt 32 (x : Int)).toNat = x := by
    rw [BitVec.ofInt_natCast, BitVec.toNat_ofNat]; exact Nat.mod_eq_of_lt (by omega)
  have h2 : (BitVec.ofInt 32 (if IntKind.u32.signed = true then -1 else IntKind.u32.max)).toNat = 4294967295 := by decide
  show IntKind.u32.wrap ((BitVec.ofInt 32 _ ^^^ BitVec.ofInt 32 (x : Int)).toNat : Int) = _
  rw [BitVec.toNat_xor, h1, h2, hx2, IntKind.wrap_u32]
  omega

theorem crc_zeros (n j : Nat) : crcR n (List.replicate (j + 1) false) = crcS (crcR n (List.replicate j false)) false := by
  rw [List.replicate_succ', crcR_append]; rfl
theorem crc_step0 (m : Nat) : crcS m false = if m % 2 = 1 then m / 2 ^^^ 2197175160 else m / 2 := by
  unfold crcS crcP
  rw [Nat.testBit_zero]
  by_cases h : m % 2 = 1
  · rw [if_pos h, if_neg (by simp [h])]
  · rw [if_neg h, if_pos (by simp [h])]

set_option maxRecDepth 1000000 in
set_option maxHeartbeats 4000000 in
theorem ckMoved_any {w : World} (n : Nat) (hn : n < 4294967296) : Calls Try.prog 11 #[.int .u32 (n : Int)] w fun e w' => e = .returned (.int .u32 ((crcR n (List.replicate 8 false) : Nat) : Int)) ∧ w' = w := by
  have HLT : Hid (∀ j, crcR n (List.replicate j false) < 4294967296) := Lib.hid fun j => crcR_lt _ _ hn
  have HZ : Hid (∀ j, crcR n (List.replicate (j + 1) false) = crcS (crcR n (List.replicate j false)) false) := Lib.hid (crc_zeros n)
  have HZ0 : Hid (crcR n (List.replicate 0 false) = n) := Lib.hid rfl
  go_enter Try.func11, Try.ntmps11
  go_wp2_with fail
  go_loopw [0, 4] (fun r i wr => ∃ j : Nat, j ≤ 8 ∧ i = .int .i64 (j : Int) ∧ r = .int .u32 ((crcR n (List.replicate j false) : Nat) : Int) ∧ wr = w) (fun _ i _ => 8 - (intOf i).toNat)
  case atStart => exact ⟨0, by omega, rfl, by rw [HZ0.out], rfl⟩
  case round =>
    obtain ⟨j, hj, rfl, rfl, rfl⟩ := hrel
    by_cases hlt : j < 8
    · have d1 : decide ((j : Int) < 8) = true := decide_eq_true (by omega)
      have hm := HLT.out j
      have HS := Lib.hid (HZ.out j)
      generalize crcR n (List.replicate j false) = m at *
      have ha := ck_and_one m hm
      have hh : (m : Int) / 2 = ((m / 2 : Nat) : Int) := by omega
      have hh2 : m / 2 < 4294967296 := by omega
      have hx : bits .xor .u32 ((m / 2 : Nat) : Int) 2197175160 = ((m / 2 ^^^ 2197175160 : Nat) : Int) := ck_xor_u32 (m / 2) 2197175160 hh2 (by decide)
      have HST := Lib.hid (crc_step0 m)
      by_cases hb : m % 2 = 1
      · rw [if_pos hb] at HST
        rw [hb] at ha
        generalize m / 2 = h at *
        generalize h ^^^ 2197175160 = z at *
        clear hb
        go_wp2
        go_roundw
        case rel => exact ⟨j + 1, by omega, by go_num, by rw [HS.out, HST.out], trivial⟩
        case measure => simp [intOf]; omega
      · rw [if_neg hb] at HST
        rw [show m % 2 = 0 by omega] at ha
        generalize m / 2 = h at *
        clear hb
        go_wp2
        go_roundw
        case rel => exact ⟨j + 1, by omega, by go_num, by rw [HS.out, HST.out], trivial⟩
        case measure => simp [intOf]; omega
    · obtain rfl : j = 8 := by omega
      generalize hq : crcR n (List.replicate 8 false) = m
      go_wp2
      go_ret
      exact ⟨by rw [hq]; rfl, rfl⟩

theorem crc_byte (n y : Nat) (hy : y < 256) : crcR n (octBits y) = crcR (n ^^^ y) (List.replicate 8 false) := by
  rw [crcR_laid (octBits y) n, octBits_length, bitsN_oct hy]

set_option maxRecDepth 1000000 in
set_option maxHeartbeats 4000000 in
theorem ckLaid_any {w : World} (n : Nat) (hn : n < 4294967296) : Calls Try.prog 14 #[.int .u32 (n : Int)] w fun e w' => ∃ v', e = .returned v' ∧ w'.ownsRow w.heap.size 5 1 v' 4 ((le4 n).map byteV) ∧ Below w.heap.size w w' := by
  obtain ⟨j0, hj0, jz0, jz1, jz2⟩ := info_parts info_u8
  have HG : Hid (∀ (vs : List Nat), vs.length = 4 → (∀ j, j < 4 → vs.getD j 0 = n / 2 ^ (8 * j) % 256) → vs = le4 n) := Lib.hid fun vs hl h => by
    match vs, hl with
    | [a, b, c, d], _ =>
      have h0 := h 0 (by decide)
      have h1 := h 1 (by decide)
      have h2 := h 2 (by decide)
      have h3 := h 3 (by decide)
      simp at h0 h1 h2 h3
      unfold le4
      rw [h0, h1, h2, h3]
  go_enter Try.func14, Try.ntmps14
  go_wp2_with (at_make; refine wpList_make_full _ rfl _ _ 23 rfl w.heap.size 5 j0 (.int .u8 0) 1 Try.underlying23 hj0 jz0 jz1 .i64 .i64 _ _ 4 rfl rfl rfl rfl (by rw [jz2]; omega) (by unfold maxLen; omega) (Nat.le_refl _) ?_; intro w0 hown0 hgrow0; have hb0 := Lib.hid ((Below.refl w.heap.size w).grown hgrow0 (Nat.le_refl _) (fun k hk => by cases hk)); have ho0 := Lib.hid hown0; clear hown0 hgrow0)
  go_loopw [8] (fun i wr => ∃ k : Nat, k ≤ 4 ∧ i = .int .i64 k ∧ (∃ vs : List Nat, vs.length = 4 ∧ (∀ j, j < k → vs.getD j 0 = n / 2 ^ (8 * j) % 256) ∧ wr.ownsRow w.heap.size 5 1 (.slice (some ⟨w.heap.size, 0, none⟩) 4 4) 4 (vs.map byteV)) ∧ Below w.heap.size w wr) (fun i _ => 4 - (intOf i).toNat)
  case atStart => exact ⟨0, Nat.zero_le _, rfl, ⟨List.replicate 4 0, by simp, fun j hj => by omega, by rw [List.map_replicate]; have := ho0.out; rw [Nat.mul_one] at this; exact toList_madeCells_one (.int .u8 0) 4 ▸ this⟩, hb0.out⟩
  case round =>
    obtain ⟨k, hk, rfl, ⟨vs, hvl, hvs, hown⟩, hbel⟩ := hrel
    have hsz := hbel.size
    by_cases hlt : k < 4
    · have hy4 : wr.frozen? ⟨w.heap.size, k, none⟩ = false := hown.frozenAt k
      have hy3 : wr.cell? ⟨w.heap.size, k, none⟩ = some (.int .u8 ((vs.getD k 0 : Nat) : Int)) := by
        rw [hown.cellAt k (by omega)]
        simp [List.getD_eq_getElem?_getD, hvl, hlt, byteV]
      obtain ⟨D, hD⟩ : ∃ D, D = n / 2 ^ (8 * k) % 256 := ⟨_, rfl⟩
      have HX : Hid (∀ j, j < k + 1 → (vs.set k D).getD j 0 = n / 2 ^ (8 * j) % 256) := Lib.hid fun j hj => by
        simp only [List.getD_eq_getElem?_getD, List.getElem?_set] at *
        by_cases e : k = j
        · subst e; rw [if_pos rfl, if_pos (by omega), ← hD]; rfl
        · rw [if_neg e]; exact hvs j (by omega)
      have HO := Lib.hid hown
      have HB := Lib.hid hbel
      have HL := Lib.hid hvl
      have HK : Hid (k = 0 ∨ k = 1 ∨ k = 2 ∨ k = 3) := Lib.hid (by omega)
      have HD := Lib.hid hD
      clear hown hbel hvs hvl hD
      generalize vs.getD k 0 = z at hy3
      have hD8 : D < 256 := by rw [HD.out]; omega
      rcases HK.out with rfl | rfl | rfl | rfl
      · have h8 : (n : Int) % 256 = (D : Int) := by
          have := HD.out
          simp at this
          omega
        have h9 : (n : Int) / 2 ^ 0 % 256 = (D : Int) := by rw [← h8]; simp
        go_wp2
        go_roundw
        case rel => exact ⟨1, by omega, by go_num, ⟨vs.set 0 D, by simpa using HL.out, HX.out, by rw [List.map_set]; exact (HO.out.stored 0 (.int .u8 D)).1⟩, HB.out.setCell (p := ⟨w.heap.size, 0, none⟩) (Nat.le_refl _) _⟩
        case measure => simp [intOf]
      · have h8 : (n : Int) / 256 % 256 = (D : Int) := by
          have := HD.out
          simp at this
          omega
        have h9 : (n : Int) / 2 ^ 8 % 256 = (D : Int) := by rw [← h8]; simp
        go_wp2
        go_roundw
        case rel => exact ⟨2, by omega, by go_num, ⟨vs.set 1 D, by simpa using HL.out, HX.out, by rw [List.map_set]; exact (HO.out.stored 1 (.int .u8 D)).1⟩, HB.out.setCell (p := ⟨w.heap.size, 1, none⟩) (Nat.le_refl _) _⟩
        case measure => simp [intOf]
      · have h8 : (n : Int) / 65536 % 256 = (D : Int) := by
          have := HD.out
          simp at this
          omega
        have h9 : (n : Int) / 2 ^ 16 % 256 = (D : Int) := by rw [← h8]; simp
        go_wp2
        go_roundw
        case rel => exact ⟨3, by omega, by go_num, ⟨vs.set 2 D, by simpa using HL.out, HX.out, by rw [List.map_set]; exact (HO.out.stored 2 (.int .u8 D)).1⟩, HB.out.setCell (p := ⟨w.heap.size, 2, none⟩) (Nat.le_refl _) _⟩
        case measure => simp [intOf]
      · have h7 : (n : Int) / 16777216 = (D : Int) := by
          have := HD.out
          simp at this
          omega
        have h8 : (n : Int) / 16777216 % 256 = (D : Int) := by
          have := HD.out
          simp at this
          omega
        have h9 : (n : Int) / 2 ^ 24 % 256 = (D : Int) := by rw [← h8]; simp
        go_wp2
        go_roundw
        case rel => exact ⟨4, by omega, by go_num, ⟨vs.set 3 D, by simpa using HL.out, HX.out, by rw [List.map_set]; exact (HO.out.stored 3 (.int .u8 D)).1⟩, HB.out.setCell (p := ⟨w.heap.size, 3, none⟩) (Nat.le_refl _) _⟩
        case measure => simp [intOf]
    · have hk' : k = 4 := by omega
      have HO := Lib.hid hown
      have HB := Lib.hid hbel
      have HV : Hid (vs = le4 n) := Lib.hid (HG.out vs hvl fun j hj => hvs j (by omega))
      clear hown hbel hvs hvl
      go_wp2
      go_ret
      exact ⟨_, rfl, by have := HO.out; rw [HV.out] at this; exact this, HB.out⟩
end Go.Proofs.Ytccnkfblhkncoaa
