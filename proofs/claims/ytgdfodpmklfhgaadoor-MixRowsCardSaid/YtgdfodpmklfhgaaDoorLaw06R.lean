/- The sixth layer's law MixRows: the walk. -/
import Derived.Test.YtgdfodpmklfhgaaDoorLaw06
import Derived.Test.YtgdfodpmklfhgaaDoorLaw06T
import Derived.Test.YtgdfodpmklfhgaaDoorMiC
import Derived.Deep.QuietTactic
namespace Go.Proofs.YtgdfodpmklfhgaaDoor
open Go.RowKit Go.Extern.Stop Go.Stop Go.Extern

set_option maxRecDepth 1000000 in
set_option maxHeartbeats 4000000 in
theorem rows6_in {w : World} (x M n : Nat) (hx : x < 4294967296) (h1 : 1 ≤ M) (h2 : M ≤ 1048576) (hn : n ≤ 200) :
    Calls Tryd.prog 4 #[.int .u32 (x : Int), .int .i64 (M : Int), .int .i64 (n : Int)] w fun e w' => e = .returned (.bool true) ∧ Below w.heap.size w w' := by
  have hnI : (n : Int) ≤ 200 := by omega
  have hnI2 : (n : Int) ≤ 4096 := by omega
  have hd1 : decide ((n : Int) < 0) = false := decide_eq_false (by omega)
  have hd2 : decide (200 < (n : Int)) = false := decide_eq_false (by omega)
  have hd3 : decide (4096 < (n : Int)) = false := decide_eq_false (by omega)
  have hnn : ((n : Int) == (n : Int)) = true := beq_self_eq_true _
  have hnn2 : ((n : Int) != (n : Int)) = false := by simp
  have HC := Lib.hid (boundC_in h1 h2)
  go_enter Tryd.func4, Tryd.ntmps4
  go_wp2_with fail
  refine (Row_in x M n h1 h2 (by omega)).mono ?_
  rintro e w1 ⟨v1, rfl, ho1, hb1⟩
  have HL1 := Lib.hid (ListAt.of_owns (n := n) ho1)
  obtain ⟨a1, c1, rfl, -, -⟩ := own_open ho1
  have HB1 := Lib.hid hb1
  have HO1 := Lib.hid ho1
  clear ho1 hb1
  go_wp2_with fail
  refine (rBound_any (M : Int)).mono ?_
  rintro e w2 ⟨rfl, rfl⟩
  rw [HC.out]
  go_wp2_with fail
  refine (tells_nil _).mono ?_
  rintro e w2 ⟨rfl, rfl⟩
  go_wp2_with fail
  go_loopw [10] (fun i wr => ∃ k : Nat, k ≤ n ∧ i = .int .i64 k ∧ Below w1.heap.size w1 wr) (fun i _ => n - (intOf i).toNat)
  case atStart => exact ⟨0, Nat.zero_le _, rfl, Below.refl _ _⟩
  case round =>
    obtain ⟨k, hk, rfl, hbel⟩ := hrel
    have HB := Lib.hid hbel
    by_cases hlt : k < n
    · have e1 : IntKind.u32.wrap (k : Int) = (k : Int) := by rw [IntKind.wrap_u32]; omega
      obtain ⟨_, _, e, -, -, hcc⟩ := HL1.out
      simp only [Value.slice.injEq] at e
      obtain ⟨rfl, -, rfl⟩ := e
      obtain ⟨b, off, rfl, hcell⟩ := hcc (by rw [rowN_len]; omega)
      have hx0 := hcell k (by rw [rowN_len]; omega)
      have hg := rowN_get x M n k hlt
      rw [List.getD_eq_getElem?_getD, List.getElem?_eq_getElem (by rw [rowN_len]; omega)] at hg
      simp only [Option.getD_some] at hg
      rw [hg] at hx0
      have hx1 : wr.cell? ⟨b, off + k, none⟩ = some (.int .i64 ((mixN x k % M : Nat) : Int)) := (hbel.cell (p := ⟨b, off + k, none⟩) (World.block_lt_of_cell? w1 _ hx0)).trans hx0
      have HCall : Hid (∀ nd : Nat, Calls Tryd.prog 9 #[.int .u32 (x : Int), .int .u32 (k : Int), .int .i64 (M : Int)] (wr.drewN nd) fun e w'' => e = .returned (.int .i64 ((mixN x k % M : Nat) : Int)) ∧ w'' = wr.drewN nd) := Lib.hid fun nd => by
        refine (rBelow_any x k M hx (by omega) h1 h2).mono ?_
        rintro e w' ⟨rfl, rfl⟩
        exact ⟨rfl, rfl⟩
      generalize mixN x k % M = r at hx1 HCall
      clear hcell hcc hx0 hg hbel
      go_wp2_with fail
      go_quiet (exact Calls.quiet_of_same (HCall.out _))
      go_wp2
      go_roundw
      case rel => exact ⟨k + 1, by omega, by go_num, below_draws HB.out _⟩
      case measure => simp [intOf]; omega
    · have HB4 := Lib.hid (HB1.out.trans (hbel.mono HB1.out.size))
      clear hbel
      go_wp2_with fail
      refine (awake6 _).mono ?_
      rintro e w3 ⟨rfl, rfl⟩
      go_wp2
      go_ret
      exact ⟨rfl, HB4.out⟩

set_option maxRecDepth 1000000 in
set_option maxHeartbeats 4000000 in
theorem rows6_mid {w : World} (x : Nat) (m n : Int) (h1 : 200 < n) (h2 : n ≤ 4096) :
    Calls Tryd.prog 4 #[.int .u32 (x : Int), .int .i64 m, .int .i64 n] w fun e w' => e = .returned (.bool true) ∧ Below w.heap.size w w' := by
  have hd1 : decide (200 < n) = true := decide_eq_true h1
  have hd2 : decide (n ≤ 4096) = true := decide_eq_true h2
  go_enter Tryd.func4, Tryd.ntmps4
  go_wp2_with fail
  refine (awake6 _).mono ?_
  rintro e w3 ⟨rfl, rfl⟩
  go_wp2
  go_ret
  exact ⟨rfl, Below.refl _ _⟩

set_option maxRecDepth 1000000 in
set_option maxHeartbeats 4000000 in
theorem rows6_bad {w : World} (x : Nat) (m n : Int) (h : m < 1 ∨ 1048576 < m) (hn0 : 0 ≤ n) (hn : n ≤ 200) (hg : Laid w) :
    Calls Tryd.prog 4 #[.int .u32 (x : Int), .int .i64 m, .int .i64 n] w fun e w' => e = .returned (.bool true) ∧ Below w.heap.size w w' := by
  have HG := Lib.hid hg
  have HO := Lib.hid h
  have HC := Lib.hid (boundC_out h)
  have hd0 : decide (n < 0) = false := decide_eq_false (by omega)
  have hd1 : decide (200 < n) = false := decide_eq_false (by omega)
  have hd3 : decide (4096 < n) = false := decide_eq_false (by omega)
  clear hg h
  go_enter Tryd.func4, Tryd.ntmps4
  go_wp2_with fail
  refine (Row_out x m n (.inl HO.out)).mono ?_
  rintro e w1 ⟨E1, rfl, hc1, hb1⟩
  have HC1 := Lib.hid hc1
  have HB1 := Lib.hid hb1
  obtain ⟨u, v, rfl⟩ := hc1.some (by decide)
  clear hc1 hb1
  go_wp2_with fail
  refine (rBound_any m).mono ?_
  rintro e w2 ⟨rfl, rfl⟩
  rw [HC.out]
  go_wp2_with fail
  refine (tells_ans 1 _ _ HC1.out (HG.out.mono HB1.out)).mono ?_
  rintro e w2 ⟨rfl, hb2⟩
  have HB2 := Lib.hid (HB1.out.trans (hb2.mono HB1.out.size))
  clear hb2
  go_wp2_with fail
  refine (awake6 _).mono ?_
  rintro e w3 ⟨rfl, rfl⟩
  go_wp2
  go_ret
  exact ⟨rfl, HB2.out⟩

set_option maxRecDepth 1000000 in
set_option maxHeartbeats 4000000 in
theorem rows6_far {w : World} (x : Nat) (m n : Int) (hn : n < 0 ∨ 4096 < n) (hg : Laid w) :
    Calls Tryd.prog 4 #[.int .u32 (x : Int), .int .i64 m, .int .i64 n] w fun e w' => e = .returned (.bool true) ∧ Below w.heap.size w w' := by
  have HG := Lib.hid hg
  have HO := Lib.hid hn
  clear hg
  rcases hn with hn | hn
  · have hd0 : decide (n < 0) = true := decide_eq_true hn
    have hd1 : decide (200 < n) = false := decide_eq_false (by omega)
    go_enter Tryd.func4, Tryd.ntmps4
    go_wp2_with fail
    refine (Row_out x m n (.inr HO.out)).mono ?_
    rintro e w1 ⟨E1, rfl, hc1, hb1⟩
    have HC1 := Lib.hid hc1
    have HB1 := Lib.hid hb1
    obtain ⟨u, v, rfl⟩ := hc1.some (by decide)
    clear hc1 hb1
    go_wp2_with fail
    refine (rBound_any m).mono ?_
    rintro e w2 ⟨rfl, rfl⟩
    go_wp2_with fail
    refine (tells_ans 1 _ _ HC1.out (HG.out.mono HB1.out)).mono ?_
    rintro e w2 ⟨rfl, hb2⟩
    have HB2 := Lib.hid (HB1.out.trans (hb2.mono HB1.out.size))
    clear hb2
    go_wp2_with fail
    refine (awake6 _).mono ?_
    rintro e w3 ⟨rfl, rfl⟩
    go_wp2
    go_ret
    exact ⟨rfl, HB2.out⟩
  · have hd0 : decide (n < 0) = false := decide_eq_false (by omega)
    have hd1 : decide (200 < n) = true := decide_eq_true (by omega)
    have hd2 : decide (n ≤ 4096) = false := decide_eq_false (by omega)
    have hd3 : decide (4096 < n) = true := decide_eq_true hn
    go_enter Tryd.func4, Tryd.ntmps4
    go_wp2_with fail
    refine (Row_out x m n (.inr HO.out)).mono ?_
    rintro e w1 ⟨E1, rfl, hc1, hb1⟩
    have HC1 := Lib.hid hc1
    have HB1 := Lib.hid hb1
    obtain ⟨u, v, rfl⟩ := hc1.some (by decide)
    clear hc1 hb1
    go_wp2_with fail
    refine (rBound_any m).mono ?_
    rintro e w2 ⟨rfl, rfl⟩
    go_wp2_with fail
    refine (tells_ans 1 _ _ HC1.out (HG.out.mono HB1.out)).mono ?_
    rintro e w2 ⟨rfl, hb2⟩
    have HB2 := Lib.hid (HB1.out.trans (hb2.mono HB1.out.size))
    clear hb2
    go_wp2_with fail
    refine (awake6 _).mono ?_
    rintro e w3 ⟨rfl, rfl⟩
    go_wp2
    go_ret
    exact ⟨rfl, HB2.out⟩

theorem rows6 {w : World} (x : Nat) (m n : Int) (hx : x < 4294967296) (_hm : -9223372036854775808 ≤ m ∧ m ≤ 9223372036854775807) (_hn : -9223372036854775808 ≤ n ∧ n ≤ 9223372036854775807) (hg : Laid w) :
    Calls Tryd.prog 4 #[.int .u32 (x : Int), .int .i64 m, .int .i64 n] w fun e w' => e = .returned (.bool true) ∧ Below w.heap.size w w' := by
  by_cases h1 : n < 0 ∨ 4096 < n
  · exact rows6_far x m n h1 hg
  · by_cases h2 : 200 < n
    · exact rows6_mid x m n h2 (by omega)
    · by_cases h3 : m < 1 ∨ 1048576 < m
      · exact rows6_bad x m n h3 (by omega) (by omega) hg
      · obtain ⟨M, rfl⟩ : ∃ M : Nat, m = (M : Int) := ⟨m.toNat, by omega⟩
        obtain ⟨N, rfl⟩ : ∃ N : Nat, n = (N : Int) := ⟨n.toNat, by omega⟩
        exact rows6_in x M N hx (by omega) (by omega) (by omega)
end Go.Proofs.YtgdfodpmklfhgaaDoor
