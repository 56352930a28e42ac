/- A row's truths with its symbol's bits behind them; bits as bytes; no program. -/
import Derived.Test.YtnkkaggepokjeaaDoorElMath
import Derived.Test.YtnkkaggepokjeaaDoorLinW
import Derived.Test.YtnkkaggepokjeaaDoorSyMath
namespace Go.Proofs.YtnkkaggepokjeaaDoor

def bitsTo (sym : List Nat) (k : Nat) : List Bool := (List.range k).map fun i => (sym.getD (i / 8) 0).testBit (i % 8)
def bitsOf (sym : List Nat) : List Bool := bitsTo sym (8 * sym.length)
def longB (row sym : List Nat) (n : Nat) : List Bool := truthsB row n ++ bitsOf sym
def longV (row sym : List Nat) (n : Nat) : Vec := bitB (longB row sym n)
def byteAt (v : Nat → Bool) (q : Nat) : Nat := (List.range 8).foldl (fun acc b => acc + (if v (q + b) then 2 ^ b else 0)) 0
def symV (n size : Nat) (v : Vec) : List Nat := (List.range size).map fun i => byteAt v (n + 8 * i)

theorem bitsTo_length (sym : List Nat) (k : Nat) : (bitsTo sym k).length = k := by simp [bitsTo]
theorem bitsTo_succ (sym : List Nat) (k : Nat) : bitsTo sym (k + 1) = bitsTo sym k ++ [(sym.getD (k / 8) 0).testBit (k % 8)] := by simp [bitsTo, List.range_succ]
theorem longB_length (row sym : List Nat) (n : Nat) : (longB row sym n).length = n + 8 * sym.length := by simp [longB, truthsB_length, bitsOf, bitsTo_length]

theorem longV_row {row sym : List Nat} {n c : Nat} (h : c < n) : longV row sym n c = bitW row c := by
  unfold longV bitB longB
  rw [List.getD_eq_getElem?_getD, List.getElem?_append_left (by rw [truthsB_length]; exact h)]
  simp [truthsB, h]
theorem longV_sym {row sym : List Nat} {n i b : Nat} (hi : i < sym.length) (hb : b < 8) : longV row sym n (n + 8 * i + b) = (sym.getD i 0).testBit b := by
  unfold longV bitB longB bitsOf bitsTo
  rw [List.getD_eq_getElem?_getD, List.getElem?_append_right (by rw [truthsB_length]; omega), truthsB_length, show n + 8 * i + b - n = 8 * i + b by omega]
  rw [List.getElem?_map, List.getElem?_range (by omega)]
  simp only [Option.map_some, Option.getD_some]
  rw [show (8 * i + b) / 8 = i by omega, show (8 * i + b) % 8 = b by omega]
theorem longV_out {row sym : List Nat} {n c : Nat} (h : n + 8 * sym.length ≤ c) : longV row sym n c = false := bitB_out (by rw [longB_length]; exact h)
theorem longV_proj {row sym : List Nat} {n : Nat} (h : ∀ c, n ≤ c → bitW row c = false) : proj n (longV row sym n) = bitW row := by
  funext c
  by_cases hc : c < n
  · rw [proj_low hc, longV_row hc]
  · rw [h c (by omega)]; unfold proj; rw [if_neg hc]

theorem byteAt_byte {v : Nat → Bool} {q x : Nat} (hx : x < 256) (h : ∀ b, b < 8 → v (q + b) = x.testBit b) : byteAt v q = x := by
  have e : byteAt v q = (List.range 8).foldl (fun acc b => acc + (if x.testBit b then 2 ^ b else 0)) 0 := by
    unfold byteAt
    simp only [List.range_succ, List.range_zero, List.nil_append, List.foldl_append, List.foldl_cons, List.foldl_nil]
    simp only [h 0 (by omega), h 1 (by omega), h 2 (by omega), h 3 (by omega), h 4 (by omega), h 5 (by omega), h 6 (by omega), h 7 (by omega)]
  rw [e]
  have all : ∀ y : Fin 256, (List.range 8).foldl (fun acc b => acc + (if y.val.testBit b then 2 ^ b else 0)) 0 = y.val := by decide +kernel
  exact all ⟨x, hx⟩
theorem symV_long {row sym : List Nat} {n : Nat} (h : Octets sym) : symV n sym.length (longV row sym n) = sym := by
  apply ext_getD (by simp [symV])
  intro i hi
  have hi' : i < sym.length := by simpa [symV] using hi
  rw [show (symV n sym.length (longV row sym n)).getD i 0 = byteAt (longV row sym n) (n + 8 * i) by simp [symV, List.getD_eq_getElem?_getD, hi']]
  exact byteAt_byte (h.getD i) fun b hb => longV_sym hi' hb
/-- Long rows of one symbol's size are added as their rows and symbols are. -/
theorem longV_add {r1 r2 s1 s2 : List Nat} {n : Nat} (hr : r1.length = r2.length) (hs : s1.length = s2.length) : vadd (longV r1 s1 n) (longV r2 s2 n) = longV (xorW r1 r2) (xorW s1 s2) n := by
  funext c
  by_cases h1 : c < n
  · rw [longV_row h1, bitW_xor hr]
    simp only [vadd, longV_row h1]
  · by_cases h2 : c < n + 8 * s1.length
    · obtain ⟨i, b, hi, hb, e⟩ : ∃ i b, i < s1.length ∧ b < 8 ∧ c = n + 8 * i + b := ⟨(c - n) / 8, (c - n) % 8, by omega, by omega, by omega⟩
      subst e
      rw [longV_sym (by rw [xorW_length hs]; exact hi) hb, xorW_getD hs, Nat.testBit_xor]
      simp only [vadd, longV_sym hi hb, longV_sym (show i < s2.length by omega) hb]
    · rw [longV_out (by rw [xorW_length hs]; omega)]
      simp only [vadd]
      rw [longV_out (by omega), longV_out (by omega)]; rfl
end Go.Proofs.YtnkkaggepokjeaaDoor
