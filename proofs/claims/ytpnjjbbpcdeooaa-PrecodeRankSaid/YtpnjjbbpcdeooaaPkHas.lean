/- Packages packed and geyserref02, what tells a column and how many there are: Has, Count; the document's Has, Bit. -/
import Derived.Test.YtpnjjbbpcdeooaaOnes
import Derived.BigQuiet
import Derived.WalkSmall
import Derived.Deep.QuietTactic
import Derived.Laws.ShiftsVar
namespace Go.Proofs.Ytpnjjbbpcdeooaa
open Go.RowKit Go.Extern.Stop Go.Stop Go.Extern

def hasI (ws : List Nat) (c : Int) : Bool := if c < 0 then false else bitW ws c.toNat

theorem shr_nat (x b : Nat) : ((x : Int) / 2 ^ b) = ((x / 2 ^ b : Nat) : Int) := by simp

theorem shr_and_one (x b : Nat) (hx : x < 18446744073709551616) : (bits BinOp.and IntKind.u64 ((x : Int) / 2 ^ b) 1 == 1) = x.testBit b := by
  have hle : x / 2 ^ b ≤ x := Nat.div_le_self _ _
  rw [shr_nat, and_lit (x / 2 ^ b) 1 1 rfl (by omega) (by decide), Nat.and_one_is_mod, Nat.testBit_eq_decide_div_mod_eq]
  by_cases h : x / 2 ^ b % 2 = 1
  · rw [h]; rfl
  · rw [decide_eq_false h, show x / 2 ^ b % 2 = 0 by omega]; rfl

theorem shr_mod_two (x b : Nat) : ((x : Int) / 2 ^ b % 2 == 1) = x.testBit b := by
  rw [shr_nat, Nat.testBit_eq_decide_div_mod_eq]
  by_cases h : x / 2 ^ b % 2 = 1
  · rw [decide_eq_true h, show ((x / 2 ^ b : Nat) : Int) % 2 = 1 by omega]; rfl
  · rw [decide_eq_false h, show ((x / 2 ^ b : Nat) : Int) % 2 = 0 by omega]; rfl

theorem Bit_any {w : World} (x b : Nat) (hb : b < 64) :
    Calls Try.prog 46 #[.int .u64 (x : Int), .int .i64 (b : Int)] w fun e w' => e = .returned (.bool (x.testBit b)) ∧ w = w' := by
  go_enter Try.func46, Try.ntmps46
  go_wp2
  go_ret
  exact ⟨by rw [← shr_mod_two]; rfl, rfl⟩

theorem refHas_any {w : World} (v : Value) (ws : List Nat) (c : Int) (h : ListAt wordV w v ws) (hw : Word ws) (hlen : ws.length ≤ 100000) (hc : -9223372036854775808 ≤ c ∧ c ≤ 9223372036854775807) :
    Calls Try.prog 43 #[v, .int .i64 c] w fun e w' => e = .returned (.bool (hasI ws c)) ∧ w = w' := by
  obtain ⟨a, cap, rfl, hcap, hcm, hcell⟩ := h
  by_cases h0 : c < 0
  · clear hcell
    go_enter Try.func43, Try.ntmps43
    go_wp2
    go_ret
    exact ⟨by rw [hasI, if_pos h0]; rfl, rfl⟩
  · obtain ⟨n, rfl⟩ : ∃ n : Nat, c = (n : Int) := ⟨c.toNat, by omega⟩
    have HR : Hid (hasI ws (n : Int) = bitW ws n) := by
      show _ = _
      rw [hasI, if_neg (by omega)]; rfl
    by_cases hl : n / 64 < ws.length
    · obtain ⟨b, off, rfl, hcc⟩ := hcell (by omega)
      have hx : w.cell? ⟨b, off + n / 64, none⟩ = some (.int .u64 (ws[n / 64] : Int)) := hcc _ hl
      have hxlt := hw _ (List.getElem_mem hl)
      have HB : Hid (bitW ws n = (ws[n / 64]).testBit (n % 64)) := by
        show _ = _
        unfold bitW
        rw [List.getD_eq_getElem?_getD, List.getElem?_eq_getElem hl]; rfl
      clear hcc hcell
      generalize ws[n / 64] = x at *
      have hl2 : (n : Int) / 64 < (ws.length : Int) := by omega
      have hl3 : (n : Int) < 64 * (ws.length : Int) := by omega
      go_enter Try.func43, Try.ntmps43
      go_wp2_with fail
      refine (Bit_any x (n % 64) (by omega)).mono ?_
      rintro e w' ⟨rfl, rfl⟩
      go_wp2
      go_ret
      exact ⟨by rw [HR.out, HB.out]; rfl, rfl⟩
    · have hl3 : ¬ (n : Int) < 64 * (ws.length : Int) := by omega
      clear hcell
      go_enter Try.func43, Try.ntmps43
      go_wp2
      go_ret
      exact ⟨by rw [HR.out, bitW_out _ _ (by omega)]; rfl, rfl⟩

end Go.Proofs.Ytpnjjbbpcdeooaa
