/- Least columns by words, no program. -/
import Derived.Test.YtnkkaggepokjeaaDoorLinG
import Derived.Test.YtnkkaggepokjeaaDoorLinW
namespace Go.Proofs.YtnkkaggepokjeaaDoor
open Go.RowKit Go.Extern.Stop Go.Stop Go.Extern

/-- The words ahead of the least column's are 0. -/
theorem lead_words {y : List Nat} (hy : Word y) {c i : Nat} (h : ∀ d, d < c → bitW y d = false) (hi : 64 * i ≤ c) : ∀ j, j < i → y.getD j 0 = 0 := fun j hj => by
  apply Nat.eq_of_testBit_eq
  intro b
  rw [Nat.zero_testBit]
  by_cases hb : b < 64
  · rw [← bitW_at y j b hb]; exact h _ (by omega)
  · exact Nat.testBit_lt_two_pow (Nat.lt_of_lt_of_le (hy.getD j) (Nat.pow_le_pow_right (n := 2) (by decide) (show 64 ≤ b by omega)))
theorem ctz_more {x z : Nat} (hx : x < 18446744073709551616) (hz : z < 64) (h : ∀ b, b ≤ z → x.testBit b = false) : z < Lib.ctz 64 x := by
  by_cases h0 : x = 0
  · subst h0; unfold Lib.ctz; rw [if_pos rfl]; exact hz
  · obtain ⟨h1, h2, h3⟩ := testBit_ctz x h0 hx
    apply Nat.lt_of_not_le
    intro hle
    rw [h _ hle] at h2
    cases h2
theorem ctz_le (x : Nat) (hx : x < 18446744073709551616) : Lib.ctz 64 x ≤ 64 := by
  by_cases h0 : x = 0
  · subst h0; unfold Lib.ctz; rw [if_pos rfl]; exact Nat.le_refl _
  · exact Nat.le_of_lt (testBit_ctz x h0 hx).1
/-- The least column lies in the first word that is not 0. -/
theorem lead_at {x : List Nat} {i : Nat} (hw : Word x) (hz : ∀ j, j < i → x.getD j 0 = 0) (h0 : x.getD i 0 ≠ 0) : Lead (bitW x) (i * 64 + Lib.ctz 64 (x.getD i 0)) := by
  obtain ⟨h1, h2, h3⟩ := testBit_ctz _ h0 (hw.getD i)
  refine ⟨by rw [bitW_at _ _ _ h1]; exact h2, fun d hd => ?_⟩
  by_cases hdi : d / 64 < i
  · unfold bitW; rw [hz _ hdi]; simp
  · have e : d = i * 64 + (d - i * 64) := by omega
    rw [e, bitW_at _ _ _ (by omega)]
    exact h3 _ (by omega)
theorem zero_of_words {x : List Nat} (hz : ∀ j, j < x.length → x.getD j 0 = 0) : bitW x = vzero := by
  funext c
  unfold bitW vzero
  by_cases h : c / 64 < x.length
  · rw [hz _ h]; simp
  · rw [List.getD_eq_getElem?_getD, List.getElem?_eq_none (by omega)]; simp

theorem step_word {y s : List Nat} {k : Nat} (hy : Word y) (hs : Word s) (hl : y.length = s.length) (h0 : y.getD k 0 ≠ 0) (hlead : Lead (bitW s) (k * 64 + Lib.ctz 64 (y.getD k 0))) :
    Lib.ctz 64 (y.getD k 0) < Lib.ctz 64 ((xorW y s).getD k 0) := by
  obtain ⟨h1, h2, h3⟩ := testBit_ctz _ h0 (hy.getD k)
  rw [xorW_getD hl]
  refine ctz_more (Nat.xor_lt_two_pow (n := 64) (hy.getD k) (hs.getD k)) h1 fun b hb => ?_
  rw [Nat.testBit_xor]
  by_cases e : b = Lib.ctz 64 (y.getD k 0)
  · have := hlead.1
    rw [bitW_at _ _ _ h1] at this
    rw [e, h2, this]; rfl
  · have hb' : b < Lib.ctz 64 (y.getD k 0) := by omega
    have := hlead.2 (k * 64 + b) (by omega)
    rw [bitW_at _ _ _ (by omega)] at this
    rw [h3 b hb', this]; rfl
theorem xor_zero_words {y s : List Nat} {k : Nat} (hl : y.length = s.length) (h1 : ∀ j, j < k → y.getD j 0 = 0) (h2 : ∀ j, j < k → s.getD j 0 = 0) : ∀ j, j < k → (xorW y s).getD j 0 = 0 := fun j hj => by
  rw [xorW_getD hl, h1 j hj, h2 j hj]; rfl

end Go.Proofs.YtnkkaggepokjeaaDoor
