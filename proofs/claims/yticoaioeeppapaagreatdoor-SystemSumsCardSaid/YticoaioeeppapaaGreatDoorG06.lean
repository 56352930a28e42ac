import Derived.Laws.Bits128
import Derived.Test.YticoaioeeppapaaGreatDoorG01
import Derived.Test.YticoaioeeppapaaGreatDoorG05
import Derived.BigQuiet
import Derived.WalkSmall
import Derived.Deep.QuietTactic
import Derived.Laws.ShiftsVar

section
/- math/bits: OnesCount64 by its own text. -/
namespace Go.Proofs.YticoaioeeppapaaGreatDoor
open Go.RowKit Go.Extern.Stop Go.Stop Go.Extern

theorem and_lit (a c : Nat) (C : Int) (hC : C = (c : Int)) (ha : a < 18446744073709551616) (hc : c < 18446744073709551616) : bits .and .u64 (a : Int) C = ((a &&& c : Nat) : Int) := by
  rw [hC]; exact bits_and_u64_nat a c ha hc

theorem wrap_nat (a : Nat) (ha : a < 18446744073709551616) : IntKind.u64.wrap (a : Int) = (a : Int) := by rw [IntKind.wrap_u64]; omega

theorem Ones64_any (x : Nat) (hx : x < 18446744073709551616) (w : World) :
    Calls Tryz.prog 132 #[.int .u64 (x : Int)] w fun e w' => e = .returned (.int .i64 (pop x : Nat)) ∧ w = w' := by
  go_enter Tryz.func132, Tryz.ntmps132
  go_wp2
  have E := onesCount_eq x hx
  simp only at E
  obtain ⟨h1, h2, h3, h4, h5, h6, h7, h8⟩ := E
  have e1 : IntKind.u64.wrap (bits BinOp.and IntKind.u64 ((x : Int) / 2) 6148914691236517205 + bits BinOp.and IntKind.u64 (x : Int) 6148914691236517205) = (((x / 2 &&& 6148914691236517205) + (x &&& 6148914691236517205) : Nat) : Int) := by
    rw [show ((x : Int) / 2) = ((x / 2 : Nat) : Int) by omega, and_lit (x / 2) 6148914691236517205 6148914691236517205 rfl (by omega) (by decide), and_lit x 6148914691236517205 6148914691236517205 rfl hx (by decide), ← Int.natCast_add, wrap_nat _ h1]
  simp only [e1]
  generalize (x / 2 &&& 6148914691236517205) + (x &&& 6148914691236517205) = x1 at *
  have e2 : IntKind.u64.wrap (bits BinOp.and IntKind.u64 ((x1 : Int) / 4) 3689348814741910323 + bits BinOp.and IntKind.u64 (x1 : Int) 3689348814741910323) = (((x1 / 4 &&& 3689348814741910323) + (x1 &&& 3689348814741910323) : Nat) : Int) := by
    rw [show ((x1 : Int) / 4) = ((x1 / 4 : Nat) : Int) by omega, and_lit (x1 / 4) 3689348814741910323 3689348814741910323 rfl (by omega) (by decide), and_lit x1 3689348814741910323 3689348814741910323 rfl h1 (by decide), ← Int.natCast_add, wrap_nat _ h2]
  simp only [e2]
  generalize (x1 / 4 &&& 3689348814741910323) + (x1 &&& 3689348814741910323) = x2 at *
  have e3 : bits BinOp.and IntKind.u64 (IntKind.u64.wrap ((x2 : Int) / 16 + (x2 : Int))) 1085102592571150095 = (((x2 / 16 + x2) &&& 1085102592571150095 : Nat) : Int) := by
    rw [show ((x2 : Int) / 16 + (x2 : Int)) = ((x2 / 16 + x2 : Nat) : Int) by omega, wrap_nat _ h3, and_lit _ 1085102592571150095 1085102592571150095 rfl h3 (by decide)]
  simp only [e3]
  generalize (x2 / 16 + x2) &&& 1085102592571150095 = x3 at *
  have e4 : IntKind.u64.wrap ((x3 : Int) + (x3 : Int) / 256) = ((x3 + x3 / 256 : Nat) : Int) := by
    rw [show ((x3 : Int) + (x3 : Int) / 256) = ((x3 + x3 / 256 : Nat) : Int) by omega, wrap_nat _ h5]
  simp only [e4]
  generalize x3 + x3 / 256 = x4 at *
  have e5 : IntKind.u64.wrap ((x4 : Int) + (x4 : Int) / 65536) = ((x4 + x4 / 65536 : Nat) : Int) := by
    rw [show ((x4 : Int) + (x4 : Int) / 65536) = ((x4 + x4 / 65536 : Nat) : Int) by omega, wrap_nat _ h6]
  simp only [e5]
  generalize x4 + x4 / 65536 = x5 at *
  have e6 : IntKind.u64.wrap ((x5 : Int) + (x5 : Int) / 4294967296) = ((x5 + x5 / 4294967296 : Nat) : Int) := by
    rw [show ((x5 : Int) + (x5 : Int) / 4294967296) = ((x5 + x5 / 4294967296 : Nat) : Int) by omega, wrap_nat _ (by omega)]
  simp only [e6]
  generalize x5 + x5 / 4294967296 = x6 at *
  clear e1 e2 e3 e4 e5 e6 h1 h2 h3 h4 h5 h6 hx
  have e7 : wrap64 (x6 : Int) = (x6 : Int) := by unfold wrap64; omega
  simp only [e7, i64_and127]
  go_ret
  exact ⟨by rw [← h8, Int.natCast_emod]; rfl, rfl⟩
end Go.Proofs.YticoaioeeppapaaGreatDoor
end

section
/- Packages packed and geyserref02, what tells a column and how many there are: Has, Count; the document's Has, Bit. -/
namespace Go.Proofs.YticoaioeeppapaaGreatDoor
open Go.RowKit Go.Extern.Stop Go.Stop Go.Extern

def hasI (ws : List Nat) (c : Int) : Bool := if c < 0 then false else bitW ws c.toNat

theorem shr_nat (x b : Nat) : ((x : Int) / 2 ^ b) = ((x / 2 ^ b : Nat) : Int) := by simp

theorem shr_and_one (x b : Nat) (hx : x < 18446744073709551616) : (bits BinOp.and IntKind.u64 ((x : Int) / 2 ^ b) 1 == 1) = x.testBit b := by
  have hle : x / 2 ^ b ≤ x := Nat.div_le_self _ _
  rw [shr_nat, and_lit (x / 2 ^ b) 1 1 rfl (by omega) (by decide), Nat.and_one_is_mod, Nat.testBit_eq_decide_div_mod_eq]
  by_cases h : x / 2 ^ b % 2 = 1
  · rw [h]; rfl
  · rw [decide_eq_false h, show x / 2 ^ b % 2 = 0 by omega]; rfl

theorem shr_mod_two (x b : Nat) : ((x : Int) / 2 ^ b % 2 == 1) = x.testBit b := by
  rw [shr_nat, Nat.testBit_eq_decide_div_mod_eq]
  by_cases h : x / 2 ^ b % 2 = 1
  · rw [decide_eq_true h, show ((x / 2 ^ b : Nat) : Int) % 2 = 1 by omega]; rfl
  · rw [decide_eq_false h, show ((x / 2 ^ b : Nat) : Int) % 2 = 0 by omega]; rfl

theorem Has_any {w : World} (v : Value) (ws : List Nat) (c : Int) (h : ListAt wordV w v ws) (hw : Word ws) (hc : -9223372036854775808 ≤ c ∧ c ≤ 9223372036854775807) :
    Calls Tryz.prog 91 #[v, .int .i64 c] w fun e w' => e = .returned (.bool (hasI ws c)) ∧ w = w' := by
  have hlen := h.len
  obtain ⟨a, cap, rfl, hcap, hcm, hcell⟩ := h
  by_cases h0 : c < 0
  · clear hcell
    go_enter Tryz.func91, Tryz.ntmps91
    go_wp2
    go_ret
    exact ⟨by rw [hasI, if_pos h0]; rfl, rfl⟩
  · obtain ⟨n, rfl⟩ : ∃ n : Nat, c = (n : Int) := ⟨c.toNat, by omega⟩
    have HR : Hid (hasI ws (n : Int) = bitW ws n) := by
      show _ = _
      rw [hasI, if_neg (by omega)]; rfl
    by_cases hl : n / 64 < ws.length
    · obtain ⟨b, off, rfl, hcc⟩ := hcell (by omega)
      have hx : w.cell? ⟨b, off + n / 64, none⟩ = some (.int .u64 (ws[n / 64] : Int)) := hcc _ hl
      have hxlt := hw _ (List.getElem_mem hl)
      have HB : Hid (bitW ws n = (ws[n / 64]).testBit (n % 64)) := by
        show _ = _
        unfold bitW
        rw [List.getD_eq_getElem?_getD, List.getElem?_eq_getElem hl]; rfl
      clear hcc hcell
      generalize ws[n / 64] = x at *
      have hl2 : (n : Int) / 64 < (ws.length : Int) := by omega
      go_enter Tryz.func91, Tryz.ntmps91
      go_wp2
      go_ret
      exact ⟨by rw [HR.out, HB.out, ← shr_and_one _ _ hxlt]; rfl, rfl⟩
    · have hl2 : ¬ (n : Int) / 64 < (ws.length : Int) := by omega
      clear hcell
      go_enter Tryz.func91, Tryz.ntmps91
      go_wp2
      go_ret
      exact ⟨by rw [HR.out, bitW_out _ _ (by omega)]; rfl, rfl⟩

theorem Bit_any {w : World} (x b : Nat) (hb : b < 64) :
    Calls Tryz.prog 102 #[.int .u64 (x : Int), .int .i64 (b : Int)] w fun e w' => e = .returned (.bool (x.testBit b)) ∧ w = w' := by
  go_enter Tryz.func102, Tryz.ntmps102
  go_wp2
  go_ret
  exact ⟨by rw [← shr_mod_two]; rfl, rfl⟩

theorem refHas_any {w : World} (v : Value) (ws : List Nat) (c : Int) (h : ListAt wordV w v ws) (hw : Word ws) (hlen : ws.length ≤ 100000) (hc : -9223372036854775808 ≤ c ∧ c ≤ 9223372036854775807) :
    Calls Tryz.prog 70 #[v, .int .i64 c] w fun e w' => e = .returned (.bool (hasI ws c)) ∧ w = w' := by
  obtain ⟨a, cap, rfl, hcap, hcm, hcell⟩ := h
  by_cases h0 : c < 0
  · clear hcell
    go_enter Tryz.func70, Tryz.ntmps70
    go_wp2
    go_ret
    exact ⟨by rw [hasI, if_pos h0]; rfl, rfl⟩
  · obtain ⟨n, rfl⟩ : ∃ n : Nat, c = (n : Int) := ⟨c.toNat, by omega⟩
    have HR : Hid (hasI ws (n : Int) = bitW ws n) := by
      show _ = _
      rw [hasI, if_neg (by omega)]; rfl
    by_cases hl : n / 64 < ws.length
    · obtain ⟨b, off, rfl, hcc⟩ := hcell (by omega)
      have hx : w.cell? ⟨b, off + n / 64, none⟩ = some (.int .u64 (ws[n / 64] : Int)) := hcc _ hl
      have hxlt := hw _ (List.getElem_mem hl)
      have HB : Hid (bitW ws n = (ws[n / 64]).testBit (n % 64)) := by
        show _ = _
        unfold bitW
        rw [List.getD_eq_getElem?_getD, List.getElem?_eq_getElem hl]; rfl
      clear hcc hcell
      generalize ws[n / 64] = x at *
      have hl2 : (n : Int) / 64 < (ws.length : Int) := by omega
      have hl3 : (n : Int) < 64 * (ws.length : Int) := by omega
      go_enter Tryz.func70, Tryz.ntmps70
      go_wp2_with fail
      refine (Bit_any x (n % 64) (by omega)).mono ?_
      rintro e w' ⟨rfl, rfl⟩
      go_wp2
      go_ret
      exact ⟨by rw [HR.out, HB.out]; rfl, rfl⟩
    · have hl3 : ¬ (n : Int) < 64 * (ws.length : Int) := by omega
      clear hcell
      go_enter Tryz.func70, Tryz.ntmps70
      go_wp2
      go_ret
      exact ⟨by rw [HR.out, bitW_out _ _ (by omega)]; rfl, rfl⟩

set_option maxRecDepth 1000000 in
theorem Count_any {w : World} (v : Value) (ws : List Nat) (h : ListAt wordV w v ws) (hw : Word ws) (hlen : ws.length ≤ 100000) :
    Calls Tryz.prog 112 #[v] w fun e w' => e = .returned (.int .i64 ((colsOf ws).length : Nat)) ∧ w = w' := by
  obtain ⟨a, cap, rfl, hcap, hcm, hcell⟩ := h
  have HC := Lib.hid hcell
  have HW := Lib.hid hw
  clear hcell hw
  go_enter Tryz.func112, Tryz.ntmps112
  go_wp2
  go_loopw [3, 8] (fun n i wr => ∃ k : Nat, k ≤ ws.length ∧ i = .int .i64 k ∧ n = .int .i64 ((colsTo ws (64 * k)).length : Nat) ∧ w = wr) (fun _ i _ => ws.length - (intOf i).toNat)
  case atStart => exact ⟨0, Nat.zero_le _, rfl, rfl, rfl⟩
  case round =>
    obtain ⟨k, hk, rfl, rfl, rfl⟩ := hrel
    have hm := colsTo_length_le ws (64 * k)
    by_cases hlt : k < ws.length
    · obtain ⟨b, off, rfl, hcc⟩ := HC.out (by omega)
      have hx : w.cell? ⟨b, off + k, none⟩ = some (.int .u64 (ws[k] : Int)) := hcc k hlt
      have hxlt := HW.out _ (List.getElem_mem hlt)
      have HS : Hid ((colsTo ws (64 * (k + 1))).length = (colsTo ws (64 * k)).length + pop ws[k]) := by
        show _ = _
        rw [colsTo_word, List.getD_eq_getElem?_getD, List.getElem?_eq_getElem hlt]; rfl
      clear hcc
      generalize ws[k] = x at *
      generalize (colsTo ws (64 * k)).length = m at *
      have hp := pop_le x
      go_wp2_with fail
      refine (Ones64_any x hxlt _).mono ?_
      rintro e w1 ⟨rfl, rfl⟩
      go_wp2
      go_roundw
      case rel => exact ⟨k + 1, by omega, by go_num, by rw [HS.out]; go_num, trivial⟩
      case measure => simp [intOf]; omega
    · have hk' : k = ws.length := by omega
      go_wp2
      go_ret
      exact ⟨by rw [hk']; rfl, rfl⟩
end Go.Proofs.YticoaioeeppapaaGreatDoor
end

section
/- geyserref02: In, Size (were in PkRead). -/
namespace Go.Proofs.YticoaioeeppapaaGreatDoor
open Go.RowKit Go.Extern.Stop Go.Stop Go.Extern

set_option maxRecDepth 1000000 in
theorem In_any {w : World} (v : Value) (l : List Int) (n : Int) (h : ListAt intV w v l) :
    Calls Tryz.prog 69 #[v, .int .i64 n] w fun e w' => e = .returned (.bool (decide (n ∈ l))) ∧ w = w' := by
  have hlen := h.len
  obtain ⟨a, cap, rfl, hcap, hcm, hcell⟩ := h
  have HC := Lib.hid hcell
  clear hcell
  go_enter Tryz.func69, Tryz.ntmps69
  go_wp2
  go_loopw [5] (fun i wr => ∃ k : Nat, k ≤ l.length ∧ i = .int .i64 k ∧ (∀ j (hj : j < l.length), j < k → l[j] ≠ n) ∧ w = wr) (fun i _ => l.length - (intOf i).toNat)
  case atStart => exact ⟨0, Nat.zero_le _, rfl, fun j _ hj => by omega, rfl⟩
  case round =>
    obtain ⟨k, hk, rfl, hz, rfl⟩ := hrel
    have HZ := Lib.hid hz
    clear hz
    by_cases hlt : k < l.length
    · obtain ⟨b, off, rfl, hcc⟩ := HC.out (by omega)
      have hx : w.cell? ⟨b, off + k, none⟩ = some (.int .i64 l[k]) := hcc k hlt
      have HM : Hid (l[k] ∈ l) := Lib.hid (List.getElem_mem hlt)
      have HX : Hid (l[k] = l[k]) := Lib.hid rfl
      clear hcc
      by_cases he : l[k] = n
      · rw [he] at hx
        have hb : (n == n) = true := by simp
        have HM2 : Hid (n ∈ l) := by rw [← he]; exact HM
        clear he HM HX
        go_wp2
        go_ret
        exact ⟨by rw [decide_eq_true HM2.out]; rfl, rfl⟩
      · have hb : (l[k] == n) = false := by simpa using he
        have HE := Lib.hid he
        clear he HM HX
        generalize hy : l[k] = y at hx hb
        have HY := Lib.hid hy
        clear hy
        go_wp2
        go_roundw
        case rel => exact ⟨k + 1, by omega, by go_num, fun j hj hjk => by
          by_cases e : j = k
          · subst e; exact HE.out
          · exact HZ.out j hj (by omega), trivial⟩
        case measure => simp [intOf]; omega
    · have hk' : k = l.length := by omega
      go_wp2
      go_ret
      have hn : ¬ n ∈ l := by
        intro hmem
        obtain ⟨j, hj, e⟩ := List.getElem_of_mem hmem
        exact HZ.out j hj (by omega) e
      exact ⟨by rw [decide_eq_false hn]; rfl, rfl⟩

def outI (l : List Int) (n : Int) : Bool := l.any fun c => decide (c < 0) || decide (n ≤ c)

def sizeI (n : Int) : Int := if n < 0 ∨ 4096 < n then 0 else (n + 63) / 64

theorem refSize_any {w : World} (n : Int) (hn : -9223372036854775808 ≤ n ∧ n ≤ 9223372036854775807) :
    Calls Tryz.prog 68 #[.int .i64 n] w fun e w' => e = .returned (.int .i64 (sizeI n)) ∧ w = w' := by
  by_cases h0 : n < 0
  · go_enter Tryz.func68, Tryz.ntmps68
    go_wp2
    go_ret
    exact ⟨by rw [sizeI, if_pos (.inl h0)]; rfl, rfl⟩
  · by_cases h1 : 4096 < n
    · go_enter Tryz.func68, Tryz.ntmps68
      go_wp2
      go_ret
      exact ⟨by rw [sizeI, if_pos (.inr h1)]; rfl, rfl⟩
    · go_enter Tryz.func68, Tryz.ntmps68
      go_wp2
      go_loopw [3] (fun i wr => ∃ k : Nat, (k : Int) ≤ (n + 63) / 64 ∧ i = .int .i64 k ∧ w = wr) (fun i _ => 100 - (intOf i).toNat)
      case atStart => exact ⟨0, by omega, rfl, rfl⟩
      case round =>
        obtain ⟨k, hk, rfl, rfl⟩ := hrel
        by_cases hlt : 64 * (k : Int) < n
        · go_wp2
          go_roundw
          case rel => exact ⟨k + 1, by omega, by go_num, trivial⟩
          case measure => simp [intOf]; omega
        · go_wp2
          go_ret
          exact ⟨by rw [sizeI, if_neg (by omega), show (n + 63) / 64 = (k : Int) by omega]; rfl, rfl⟩

theorem neqBool (p q r : Bool) (h : (p != q) = r) (w : World) : (binOp .neq 4 (.bool p) (.bool q)).run Tryz.prog w = .ok (.bool r) w := by
  subst h; cases p <;> cases q <;> kernel_rfl

end Go.Proofs.YticoaioeeppapaaGreatDoor
end
