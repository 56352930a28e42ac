/- Package blocking: over (a closure), symbols, and the document's Symbols. -/
import Derived.Test.YteilneoamhnndaaDoorBkMath
import Derived.Test.YteilneoamhnndaaDoorLists
import Derived.Test.YteilneoamhnndaaDoorOwn
namespace Go.Proofs.YteilneoamhnndaaDoor
open Go.RowKit Go.Extern.Stop Go.Stop Go.Extern

theorem wrap_div (n d : Nat) (hn : n ≤ 9223372036854775807) : wrap64 ((n : Int) / (d : Int)) = ((n / d : Nat) : Int) := by
  have := Nat.div_le_self n d
  rw [← Int.natCast_ediv]
  generalize n / d = q at *
  unfold wrap64; omega
theorem pos_mod (n d : Nat) : 0 < (n : Int) % (d : Int) ↔ 0 < n % d := by rw [← Int.natCast_emod]; omega
theorem upN_pos {n d : Nat} (h : 0 < n % d) : upN d n = n / d + 1 := by unfold upN; rw [if_pos h]
theorem upN_not {n d : Nat} (h : ¬ 0 < n % d) : upN d n = n / d := by unfold upN; rw [if_neg h]; rfl

set_option maxRecDepth 1000000 in
set_option maxHeartbeats 4000000 in
theorem bkOver1_any {w : World} (bx d n : Nat) (hd : 1 ≤ d) (hn : n ≤ 9223372036854775807) (hc : w.cell? ⟨bx, 0, none⟩ = some (.int .i64 (d : Int))) :
    Calls Tryd.prog 38 #[.int .i64 (n : Int), .pointer (some ⟨bx, 0, none⟩)] w fun e w' => e = .returned (.int .i64 ((upN d n : Nat) : Int)) ∧ w = w' := by
  have h0 : ¬ (d : Int) = 0 := by omega
  have hz : ((d : Int) == 0) = false := by simpa using h0
  have hle := upN_self hd n
  go_enter Tryd.func38, Tryd.ntmps38
  go_wp2_with fail
  · rename_i h
    go_ret
    have h' : 0 < n % d := (pos_mod n d).1 h
    refine ⟨?_, rfl⟩
    show Ending.returned (Value.int .i64 (wrap64 (wrap64 ((n : Int) / (d : Int)) + 1))) = _
    rw [upN_pos h'] at hle ⊢
    rw [wrap_div n d hn]
    generalize n / d = q at *
    congr 2
    unfold wrap64; omega
  · rename_i h
    go_ret
    have h' : ¬ 0 < n % d := fun k => by have := (pos_mod n d).2 k; omega
    refine ⟨?_, rfl⟩
    show Ending.returned (Value.int .i64 (wrap64 ((n : Int) / (d : Int)))) = _
    rw [wrap_div n d hn, upN_not h']

/-- What over gives: a function that keeps its number in a block of its own. -/
theorem bkOver_any {w : World} (d : Int) : Calls Tryd.prog 23 #[.int .i64 d] w fun e w' => e = .returned (.func (.func 38) #[] #[.pointer (some ⟨w.heap.size, 0, none⟩)]) ∧ w' = w.alloc (.cells #[.int .i64 d] 3) := by
  go_enter Tryd.func23, Tryd.ntmps23
  go_wp2
  go_ret
  exact ⟨rfl, rfl⟩

set_option maxRecDepth 1000000 in
set_option maxHeartbeats 4000000 in
theorem bkSymbols_any {w : World} (s b : Nat) (hb : 1 ≤ b) (hs : s ≤ 9223372036854775807) :
    Calls Tryd.prog 22 #[.int .i64 (s : Int), .int .i64 (b : Int)] w fun e w' => e = .returned (.int .i64 ((symT s b : Nat) : Int)) ∧ Below w.heap.size w w' := by
  have hle := symT_le (s := s) hb
  have hu := upN_self hb s
  have hM : Hid (symT s b = max (upN b s) 1) := Lib.hid rfl
  go_enter Tryd.func22, Tryd.ntmps22
  go_wp2_with fail
  refine (bkOver_any _).mono ?_
  rintro e w1 ⟨rfl, rfl⟩
  go_wp2_with fail
  refine (bkOver1_any w.heap.size b s hb hs (by simp)).mono ?_
  rintro e w1 ⟨rfl, rfl⟩
  generalize upN b s = u at *
  go_wp2
  · go_ret
    refine ⟨?_, (Below.refl _ _).alloc (Nat.le_refl _) _⟩
    show Ending.returned (Value.int .i64 1) = _
    rw [show symT s b = 1 by rw [hM.out]; omega]; rfl
  · go_ret
    refine ⟨?_, (Below.refl _ _).alloc (Nat.le_refl _) _⟩
    show Ending.returned (Value.int .i64 (u : Int)) = _
    rw [show symT s b = u by rw [hM.out]; omega]

set_option maxRecDepth 1000000 in
set_option maxHeartbeats 4000000 in
theorem rbSymbols_any {w : World} (s b : Nat) (hb : 1 ≤ b) (hs : s ≤ 9223372036854775807) :
    Calls Tryd.prog 24 #[.int .i64 (s : Int), .int .i64 (b : Int)] w fun e w' => e = .returned (.int .i64 ((symT s b : Nat) : Int)) ∧ w = w' := by
  have h0 : ¬ (b : Int) = 0 := by omega
  have hz : ((b : Int) == 0) = false := by simpa using h0
  have hle := symT_le (s := s) hb
  have hT := symT_doc (s := s) hb
  have HT := Lib.hid hT
  clear hT
  go_enter Tryd.func24, Tryd.ntmps24
  go_wp2_with fail
  · rename_i h1 h2
    go_ret
    have h' : ¬ 0 < s % b := fun k => by have := (pos_mod s b).2 k; omega
    refine ⟨?_, rfl⟩
    show Ending.returned (Value.int .i64 (wrap64 (wrap64 ((s : Int) / (b : Int)) + 1))) = _
    have hs0 : s = 0 := by
      rcases h2 with h2 | h2
      · omega
      · have : (s : Int) = 0 := by simpa using h2
        omega
    subst hs0
    rw [wrap_div 0 b hs, HT.out, if_pos (.inr rfl)]
    simp [wrap64]
  · rename_i h1 h2
    go_ret
    have h' : ¬ 0 < s % b := fun k => by have := (pos_mod s b).2 k; omega
    refine ⟨?_, rfl⟩
    show Ending.returned (Value.int .i64 (wrap64 ((s : Int) / (b : Int)))) = _
    have hs0 : ¬ s = 0 := by
      intro hs0; subst hs0; simp at h2
    rw [wrap_div s b hs, HT.out, if_neg (by omega)]
  · rename_i h1
    go_ret
    have h' : 0 < s % b := (pos_mod s b).1 h1
    refine ⟨?_, rfl⟩
    show Ending.returned (Value.int .i64 (wrap64 (wrap64 ((s : Int) / (b : Int)) + 1))) = _
    have hT := HT.out
    rw [if_pos (.inl h')] at hT
    rw [hT] at hle ⊢
    rw [wrap_div s b hs]
    generalize s / b = q at *
    have : s ≠ 0 := fun h0 => by rw [h0] at h'; simp at h'
    congr 2
    unfold wrap64; omega
end Go.Proofs.YteilneoamhnndaaDoor
