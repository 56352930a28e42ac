/- The fourteenth layer's laws: awake; what Of says, on both sides. -/
import Derived.Test.YteilneoamhnndaaDoorBkOr
namespace Go.Proofs.YteilneoamhnndaaDoor
open Go.RowKit Go.Extern.Stop Go.Stop Go.Extern

theorem plan10 {n l q : Nat} (h : PlanOf 10 2 2 n l q) : n = 3 ∧ l = 2 ∧ q = 1 := by
  obtain ⟨-, -, -, -, h1, h2, h3⟩ := h
  have e : upN 2 (symT 10 2) = 3 := by decide
  have e2 : symT 10 2 = 5 := by decide
  rw [e] at h1
  subst h1
  rw [e2] at h2 h3
  omega

set_option maxRecDepth 1000000 in
set_option maxHeartbeats 4000000 in
theorem awake14 (w : World) : Calls Tryd.prog 10 #[] w fun e w' => e = .returned (.bool true) ∧ Below w.heap.size w w' := by
  go_enter Tryd.func10, Tryd.ntmps10
  go_wp2_with fail
  refine (bkOf_ok 10 2 2 (by decide) (by decide) (by decide) (by decide) (by decide) (by decide)).mono ?_
  rintro e w1 ⟨n, l, q, rfl, hpl, -, hb1⟩
  obtain ⟨rfl, rfl, rfl⟩ := plan10 hpl
  obtain ⟨W, hW, hbW, hbx⟩ := pl_laid w1 10 2 3 2 1
  have HW := Lib.hid hW
  have HB1 := Lib.hid (hb1.trans (hbW.mono hb1.size))
  have HBX := Lib.hid hbx
  clear hb1 hW hbW hbx hpl
  unfold plV plC
  go_wp2_with fail
  rw [← HW.out]
  refine (bkSource_any 10 2 3 2 1 2 (by decide) (by decide) (by decide) (by decide) (by decide)).mono ?_
  rintro e w2 ⟨E, rfl, he, hb2⟩
  have e0 : srcC 10 2 3 2 1 2 = 0 := by decide
  rw [e0] at he
  rw [if_pos e0]
  obtain rfl : E = .nilIface := by
    rcases he with ⟨-, h⟩ | ⟨h, -⟩
    · exact h
    · exact absurd rfl h
  have HB2 := Lib.hid (HB1.out.trans (hb2.mono HB1.out.size))
  obtain ⟨c0, c1, c2, c3, c4⟩ := (HBX.out.mono hb2).cells
  clear he hb2 e0
  go_wp2
  go_ret
  exact ⟨rfl, HB2.out⟩

/-- What Of says, in either way. -/
theorem bkOf_ways (s b m : Int) (hs : I64 s) : (∃ k : Int, k ≠ 0 ∧ ∀ w : World, Calls Tryd.prog 7 #[.int .i64 s, .int .i64 b, .int .i64 m] w fun e w' => ∃ E, e = .returned (.tuple #[plV 0 0 0 0 0, E]) ∧ ErrAns k nameBkOf w' E ∧ Below w.heap.size w w') ∨
    (∃ S B M n l q : Nat, s = S ∧ b = B ∧ m = M ∧ S ≤ 9223372036854775807 ∧ PlanOf S B M n l q ∧ n ≤ 16 ∧ ∀ w : World, Calls Tryd.prog 7 #[.int .i64 s, .int .i64 b, .int .i64 m] w fun e w' => e = .returned (.tuple #[plV S B n l q, .nilIface]) ∧ Below w.heap.size w w') := by
  by_cases h : OutOf s b m
  · exact .inl ⟨1, by decide, fun w => bkOf_range s b m h⟩
  · unfold OutOf at h
    obtain ⟨S, rfl⟩ : ∃ S : Nat, s = S := ⟨s.toNat, by omega⟩
    obtain ⟨B, rfl⟩ : ∃ B : Nat, b = B := ⟨b.toNat, by omega⟩
    obtain ⟨M, rfl⟩ : ∃ M : Nat, m = M := ⟨m.toNat, by omega⟩
    have hS : S ≤ 9223372036854775807 := by unfold I64 at hs; omega
    by_cases hl : 16 < upN M (symT S B)
    · exact .inl ⟨3, by decide, fun w => bkOf_long S B M hS (by omega) (by omega) (by omega) (by omega) hl⟩
    · refine .inr ⟨S, B, M, upN M (symT S B), symT S B % upN M (symT S B), symT S B / upN M (symT S B), rfl, rfl, rfl, hS, ⟨by omega, by omega, by omega, by omega, rfl, rfl, rfl⟩, by omega, fun w => (bkOf_ok S B M hS (by omega) (by omega) (by omega) (by omega) (by omega)).mono ?_⟩
      rintro e w' ⟨n, l, q, rfl, hp, -, hb⟩
      obtain ⟨-, -, -, -, h1, h2, h3⟩ := hp
      subst h1
      subst h2 h3
      exact ⟨rfl, hb⟩
theorem cntP_int (l q i : Nat) : (if (i : Int) < (l : Int) then (q : Int) + 1 else (q : Int)) = ((cntP l q i : Nat) : Int) := by unfold cntP; split <;> split <;> omega
theorem srcC_ok {s b n l q : Nat} (h : PlanOk s b n l q) {i : Nat} (hi : i < n) : srcC (s : Int) (b : Int) (n : Int) (l : Int) (q : Int) (i : Int) = 0 := by
  unfold srcC
  rw [if_pos (planC_ok h), if_neg (by omega)]
theorem PlanOk.i64 {s b n l q : Nat} (h : PlanOk s b n l q) : I64 (s : Int) ∧ I64 (b : Int) ∧ I64 (n : Int) ∧ I64 (l : Int) ∧ I64 (q : Int) := by
  have h1 := h.size_le.1
  have h2 := h.b64
  have h3 := h.n16
  have h4 := h.lt
  have h5 := h.q128
  unfold I64
  omega
theorem ErrAns.nil_of {c : ByteArray} {w : World} {E : Value} (h : ErrAns 0 c w E) : E = .nilIface := by
  rcases h with ⟨-, h⟩ | ⟨h, -⟩
  · exact h
  · exact absurd rfl h
theorem bkCheck_ok {w : World} {s b n l q : Nat} (h : PlanOk s b n l q) : Calls Tryd.prog 13 #[.agg #[.int .i64 (s : Int), .int .i64 (b : Int), .int .i64 (n : Int), .int .i64 (l : Int), .int .i64 (q : Int)]] w fun e w' => e = .returned .nilIface ∧ Below w.heap.size w w' := by
  obtain ⟨h1, h2, h3, h4, h5⟩ := h.i64
  refine (bkCheck_any _ _ _ _ _ h1 h2 h3 h4 h5).mono ?_
  rintro e w' ⟨E, rfl, he, hb⟩
  rw [planC_ok h] at he
  exact ⟨by rw [he.nil_of], hb⟩
theorem bkSource_ok {w : World} {s b n l q : Nat} (h : PlanOk s b n l q) {i : Nat} (hi : i < n) : Calls Tryd.prog 12 #[.agg #[.int .i64 (s : Int), .int .i64 (b : Int), .int .i64 (n : Int), .int .i64 (l : Int), .int .i64 (q : Int)], .int .i64 (i : Int)] w fun e w' => e = .returned (.tuple #[.int .i64 ((cntP l q i : Nat) : Int), .nilIface]) ∧ Below w.heap.size w w' := by
  obtain ⟨h1, h2, h3, h4, h5⟩ := h.i64
  refine (bkSource_any _ _ _ _ _ (i : Int) h1 h2 h3 h4 h5).mono ?_
  rintro e w' ⟨E, rfl, he, hb⟩
  rw [srcC_ok h hi] at he
  rw [if_pos (srcC_ok h hi), cntP_int, he.nil_of]
  exact ⟨rfl, hb⟩
theorem bkCount_ok {w : World} {s b n l q : Nat} (h : PlanOk s b n l q) (i : Nat) : Calls Tryd.prog 27 #[.agg #[.int .i64 (s : Int), .int .i64 (b : Int), .int .i64 (n : Int), .int .i64 (l : Int), .int .i64 (q : Int)], .int .i64 (i : Int)] w fun e w' => e = .returned (.int .i64 ((cntP l q i : Nat) : Int)) ∧ Below w.heap.size w w' := by
  refine (bkCount_any (s : Int) (b : Int) (n : Int) (l : Int) (q : Int) (i : Int) (by omega) (by have := h.q128; omega)).mono ?_
  rintro e w' ⟨rfl, hb⟩
  rw [cntP_int]
  exact ⟨rfl, hb⟩

/-- What Of says, on both sides. -/
theorem bkOf_both (s b m : Int) (hs : I64 s) : ∃ x y n l q k : Int, (∀ w : World, Calls Tryd.prog 7 #[.int .i64 s, .int .i64 b, .int .i64 m] w fun e w' => ∃ E, e = .returned (.tuple #[plV x y n l q, E]) ∧ ErrAns k nameBkOf w' E ∧ Below w.heap.size w w') ∧
    (∀ w : World, Calls Tryd.prog 8 #[.int .i64 s, .int .i64 b, .int .i64 m] w fun e w' => e = .returned (.tuple #[plV x y n l q, .int .i64 k]) ∧ Below w.heap.size w w') := by
  by_cases h : OutOf s b m
  · exact ⟨0, 0, 0, 0, 0, 1, fun w => bkOf_range s b m h, fun w => rbOf_range s b m h⟩
  · unfold OutOf at h
    obtain ⟨S, rfl⟩ : ∃ S : Nat, s = S := ⟨s.toNat, by omega⟩
    obtain ⟨B, rfl⟩ : ∃ B : Nat, b = B := ⟨b.toNat, by omega⟩
    obtain ⟨M, rfl⟩ : ∃ M : Nat, m = M := ⟨m.toNat, by omega⟩
    have hS : S ≤ 9223372036854775807 := by unfold I64 at hs; omega
    by_cases hl : 16 < upN M (symT S B)
    · refine ⟨0, 0, 0, 0, 0, 3, fun w => bkOf_long S B M hS (by omega) (by omega) (by omega) (by omega) hl, fun w => (rbOf_any S B M hS (by omega) (by omega) (by omega) (by omega)).mono ?_⟩
      rintro e w' (⟨-, h1, h2⟩ | ⟨h1, -⟩)
      · exact ⟨h1, h2⟩
      · omega
    · refine ⟨S, B, (upN M (symT S B) : Nat), (symT S B % upN M (symT S B) : Nat), (symT S B / upN M (symT S B) : Nat), 0, fun w => (bkOf_ok S B M hS (by omega) (by omega) (by omega) (by omega) (by omega)).mono ?_, fun w => (rbOf_any S B M hS (by omega) (by omega) (by omega) (by omega)).mono ?_⟩
      · rintro e w' ⟨n, l, q, rfl, hp, -, hb⟩
        obtain ⟨-, -, -, -, h1, h2, h3⟩ := hp
        subst h1
        subst h2 h3
        exact ⟨_, rfl, ErrAns.none _ _, hb⟩
      · rintro e w' (⟨h1, -⟩ | ⟨-, h1, h2⟩)
        · omega
        · exact ⟨h1, h2⟩
end Go.Proofs.YteilneoamhnndaaDoor
