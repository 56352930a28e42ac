/- Packages packed and geyserref02, what tells a column and how many there are: Has, Count; the document's Has, Bit. -/
import Derived.Test.YtnkkaggepokjeaaDoorOnes
import Derived.BigQuiet
import Derived.WalkSmall
import Derived.Deep.QuietTactic
import Derived.Laws.ShiftsVar
namespace Go.Proofs.YtnkkaggepokjeaaDoor
open Go.RowKit Go.Extern.Stop Go.Stop Go.Extern

def hasI (ws : List Nat) (c : Int) : Bool := if c < 0 then false else bitW ws c.toNat

theorem shr_nat (x b : Nat) : ((x : Int) / 2 ^ b) = ((x / 2 ^ b : Nat) : Int) := by simp

theorem shr_and_one (x b : Nat) (hx : x < 18446744073709551616) : (bits BinOp.and IntKind.u64 ((x : Int) / 2 ^ b) 1 == 1) = x.testBit b := by
  have hle : x / 2 ^ b ≤ x := Nat.div_le_self _ _
  rw [shr_nat, and_lit (x / 2 ^ b) 1 1 rfl (by omega) (by decide), Nat.and_one_is_mod, Nat.testBit_eq_decide_div_mod_eq]
  by_cases h : x / 2 ^ b % 2 = 1
  · rw [h]; rfl
  · rw [decide_eq_false h, show x / 2 ^ b % 2 = 0 by omega]; rfl

theorem shr_mod_two (x b : Nat) : ((x : Int) / 2 ^ b % 2 == 1) = x.testBit b := by
  rw [shr_nat, Nat.testBit_eq_decide_div_mod_eq]
  by_cases h : x / 2 ^ b % 2 = 1
  · rw [decide_eq_true h, show ((x / 2 ^ b : Nat) : Int) % 2 = 1 by omega]; rfl
  · rw [decide_eq_false h, show ((x / 2 ^ b : Nat) : Int) % 2 = 0 by omega]; rfl

theorem Has_any {w : World} (v : Value) (ws : List Nat) (c : Int) (h : ListAt wordV w v ws) (hw : Word ws) (hc : -9223372036854775808 ≤ c ∧ c ≤ 9223372036854775807) :
    Calls Tryd.prog 70 #[v, .int .i64 c] w fun e w' => e = .returned (.bool (hasI ws c)) ∧ w = w' := by
  have hlen := h.len
  obtain ⟨a, cap, rfl, hcap, hcm, hcell⟩ := h
  by_cases h0 : c < 0
  · clear hcell
    go_enter Tryd.func70, Tryd.ntmps70
    go_wp2
    go_ret
    exact ⟨by rw [hasI, if_pos h0]; rfl, rfl⟩
  · obtain ⟨n, rfl⟩ : ∃ n : Nat, c = (n : Int) := ⟨c.toNat, by omega⟩
    have HR : Hid (hasI ws (n : Int) = bitW ws n) := by
      show _ = _
      rw [hasI, if_neg (by omega)]; rfl
    by_cases hl : n / 64 < ws.length
    · obtain ⟨b, off, rfl, hcc⟩ := hcell (by omega)
      have hx : w.cell? ⟨b, off + n / 64, none⟩ = some (.int .u64 (ws[n / 64] : Int)) := hcc _ hl
      have hxlt := hw _ (List.getElem_mem hl)
      have HB : Hid (bitW ws n = (ws[n / 64]).testBit (n % 64)) := by
        show _ = _
        unfold bitW
        rw [List.getD_eq_getElem?_getD, List.getElem?_eq_getElem hl]; rfl
      clear hcc hcell
      generalize ws[n / 64] = x at *
      have hl2 : (n : Int) / 64 < (ws.length : Int) := by omega
      go_enter Tryd.func70, Tryd.ntmps70
      go_wp2
      go_ret
      exact ⟨by rw [HR.out, HB.out, ← shr_and_one _ _ hxlt]; rfl, rfl⟩
    · have hl2 : ¬ (n : Int) / 64 < (ws.length : Int) := by omega
      clear hcell
      go_enter Tryd.func70, Tryd.ntmps70
      go_wp2
      go_ret
      exact ⟨by rw [HR.out, bitW_out _ _ (by omega)]; rfl, rfl⟩

theorem Bit_any {w : World} (x b : Nat) (hb : b < 64) :
    Calls Tryd.prog 82 #[.int .u64 (x : Int), .int .i64 (b : Int)] w fun e w' => e = .returned (.bool (x.testBit b)) ∧ w = w' := by
  go_enter Tryd.func82, Tryd.ntmps82
  go_wp2
  go_ret
  exact ⟨by rw [← shr_mod_two]; rfl, rfl⟩

theorem refHas_any {w : World} (v : Value) (ws : List Nat) (c : Int) (h : ListAt wordV w v ws) (hw : Word ws) (hlen : ws.length ≤ 100000) (hc : -9223372036854775808 ≤ c ∧ c ≤ 9223372036854775807) :
    Calls Tryd.prog 56 #[v, .int .i64 c] w fun e w' => e = .returned (.bool (hasI ws c)) ∧ w = w' := by
  obtain ⟨a, cap, rfl, hcap, hcm, hcell⟩ := h
  by_cases h0 : c < 0
  · clear hcell
    go_enter Tryd.func56, Tryd.ntmps56
    go_wp2
    go_ret
    exact ⟨by rw [hasI, if_pos h0]; rfl, rfl⟩
  · obtain ⟨n, rfl⟩ : ∃ n : Nat, c = (n : Int) := ⟨c.toNat, by omega⟩
    have HR : Hid (hasI ws (n : Int) = bitW ws n) := by
      show _ = _
      rw [hasI, if_neg (by omega)]; rfl
    by_cases hl : n / 64 < ws.length
    · obtain ⟨b, off, rfl, hcc⟩ := hcell (by omega)
      have hx : w.cell? ⟨b, off + n / 64, none⟩ = some (.int .u64 (ws[n / 64] : Int)) := hcc _ hl
      have hxlt := hw _ (List.getElem_mem hl)
      have HB : Hid (bitW ws n = (ws[n / 64]).testBit (n % 64)) := by
        show _ = _
        unfold bitW
        rw [List.getD_eq_getElem?_getD, List.getElem?_eq_getElem hl]; rfl
      clear hcc hcell
      generalize ws[n / 64] = x at *
      have hl2 : (n : Int) / 64 < (ws.length : Int) := by omega
      have hl3 : (n : Int) < 64 * (ws.length : Int) := by omega
      go_enter Tryd.func56, Tryd.ntmps56
      go_wp2_with fail
      refine (Bit_any x (n % 64) (by omega)).mono ?_
      rintro e w' ⟨rfl, rfl⟩
      go_wp2
      go_ret
      exact ⟨by rw [HR.out, HB.out]; rfl, rfl⟩
    · have hl3 : ¬ (n : Int) < 64 * (ws.length : Int) := by omega
      clear hcell
      go_enter Tryd.func56, Tryd.ntmps56
      go_wp2
      go_ret
      exact ⟨by rw [HR.out, bitW_out _ _ (by omega)]; rfl, rfl⟩

set_option maxRecDepth 1000000 in
theorem Count_any {w : World} (v : Value) (ws : List Nat) (h : ListAt wordV w v ws) (hw : Word ws) (hlen : ws.length ≤ 100000) :
    Calls Tryd.prog 73 #[v] w fun e w' => e = .returned (.int .i64 ((colsOf ws).length : Nat)) ∧ w = w' := by
  obtain ⟨a, cap, rfl, hcap, hcm, hcell⟩ := h
  have HC := Lib.hid hcell
  have HW := Lib.hid hw
  clear hcell hw
  go_enter Tryd.func73, Tryd.ntmps73
  go_wp2
  go_loopw [3, 8] (fun n i wr => ∃ k : Nat, k ≤ ws.length ∧ i = .int .i64 k ∧ n = .int .i64 ((colsTo ws (64 * k)).length : Nat) ∧ w = wr) (fun _ i _ => ws.length - (intOf i).toNat)
  case atStart => exact ⟨0, Nat.zero_le _, rfl, rfl, rfl⟩
  case round =>
    obtain ⟨k, hk, rfl, rfl, rfl⟩ := hrel
    have hm := colsTo_length_le ws (64 * k)
    by_cases hlt : k < ws.length
    · obtain ⟨b, off, rfl, hcc⟩ := HC.out (by omega)
      have hx : w.cell? ⟨b, off + k, none⟩ = some (.int .u64 (ws[k] : Int)) := hcc k hlt
      have hxlt := HW.out _ (List.getElem_mem hlt)
      have HS : Hid ((colsTo ws (64 * (k + 1))).length = (colsTo ws (64 * k)).length + pop ws[k]) := by
        show _ = _
        rw [colsTo_word, List.getD_eq_getElem?_getD, List.getElem?_eq_getElem hlt]; rfl
      clear hcc
      generalize ws[k] = x at *
      generalize (colsTo ws (64 * k)).length = m at *
      have hp := pop_le x
      go_wp2_with fail
      refine (Ones64_any x hxlt _).mono ?_
      rintro e w1 ⟨rfl, rfl⟩
      go_wp2
      go_roundw
      case rel => exact ⟨k + 1, by omega, by go_num, by rw [HS.out]; go_num, trivial⟩
      case measure => simp [intOf]; omega
    · have hk' : k = ws.length := by omega
      go_wp2
      go_ret
      exact ⟨by rw [hk']; rfl, rfl⟩
end Go.Proofs.YtnkkaggepokjeaaDoor
