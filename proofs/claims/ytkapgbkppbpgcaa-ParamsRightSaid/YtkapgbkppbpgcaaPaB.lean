/- Package params: Prime, Choose. -/
import Derived.Test.YtkapgbkppbpgcaaPaC
import Derived.Test.YtkapgbkppbpgcaaSyErr
namespace Go.Proofs.Ytkapgbkppbpgcaa
open Go.RowKit Go.Extern.Stop Go.Stop Go.Extern

def namePrime : ByteArray := ⟨#[112, 97, 114, 97, 109, 115, 46, 80, 114, 105, 109, 101]⟩
def nameChoose : ByteArray := ⟨#[112, 97, 114, 97, 109, 115, 46, 67, 104, 111, 111, 115, 101]⟩
def nameOf : ByteArray := ⟨#[112, 97, 114, 97, 109, 115, 46, 79, 102]⟩

def Prime_says (n : Int) (w : World) (e : Ending) (w' : World) : Prop := ∃ p : Nat, e = .returned (.tuple #[.int .i64 p, .nilIface]) ∧ LeastP n p ∧ w = w'
/-- What a call says that is refused: 0, and why. -/
def NoSays (k : Int) (c : ByteArray) (v : Value) (w : World) (e : Ending) (w' : World) : Prop := ∃ E, e = .returned (.tuple #[v, E]) ∧ ErrAns k c w' E ∧ Below w.heap.size w w'

set_option maxRecDepth 1000000 in
theorem Prime_in {w : World} (n : Int) (hn : n ≤ 65521) (hn0 : I64 n) : Calls Try.prog 6 #[.int .i64 n] w (Prime_says n w) := by
  have HI := Lib.hid hn0
  have d1 : decide ((65521 : Int) < n) = false := decide_eq_false (by omega)
  clear hn0
  go_enter Try.func6, Try.ntmps6
  go_wp2_with fail
  refine (prime_any n (by omega) HI.out).mono ?_
  rintro e w1 ⟨p, rfl, hp, rfl⟩
  have HP := Lib.hid hp
  clear hp
  go_wp2
  go_ret2
  exact ⟨p, rfl, HP.out, rfl⟩
set_option maxRecDepth 1000000 in
theorem Prime_out {w : World} (n : Int) (hn : 65521 < n) : Calls Try.prog 6 #[.int .i64 n] w (NoSays 1 namePrime (.int .i64 0) w) := by
  have d1 : decide ((65521 : Int) < n) = true := decide_eq_true hn
  go_enter Try.func6, Try.ntmps6
  go_wp2_with fail
  refine (New_ans _ 1 (by decide) _).mono ?_
  rintro e w1 ⟨E1, rfl, hc1, hb1⟩
  have HC1 := Lib.hid hc1
  have HB1 := Lib.hid hb1
  obtain ⟨u, x, rfl⟩ := hc1.some (by decide)
  clear hc1 hb1
  go_wp2
  go_ret2
  exact ⟨_, rfl, HC1.out, HB1.out⟩
set_option maxRecDepth 1000000 in
theorem Choose_in {w : World} (n : Nat) (k : Int) (hn : n ≤ 60) (hk : I64 k) : Calls Try.prog 9 #[.int .i64 (n : Int), .int .i64 k] w fun e w' => e = .returned (.tuple #[.int .i64 ((chI n k : Nat) : Int), .nilIface]) ∧ Below w.heap.size w w' := by
  have e1 : decide ((n : Int) < 0) = false := decide_eq_false (by omega)
  have e2 : decide ((60 : Int) < (n : Int)) = false := decide_eq_false (by omega)
  have e3 : decide (60 < n) = false := decide_eq_false (by omega)
  by_cases h0 : k < 0
  · have HC := Lib.hid (chI_out n k (.inl h0))
    have d1 : decide (k < 0) = true := decide_eq_true h0
    go_enter Try.func9, Try.ntmps9
    go_wp2
    go_ret2
    exact ⟨by rw [HC.out]; rfl, Below.refl _ _⟩
  · by_cases h1 : (n : Int) < k
    · have HC := Lib.hid (chI_out n k (.inr h1))
      have d1 : decide (k < 0) = false := decide_eq_false h0
      have d2 : decide ((n : Int) < k) = true := decide_eq_true h1
      go_enter Try.func9, Try.ntmps9
      go_wp2
      go_ret2
      exact ⟨by rw [HC.out]; rfl, Below.refl _ _⟩
    · obtain ⟨a, rfl⟩ : ∃ a : Nat, k = (a : Int) := ⟨k.toNat, by omega⟩
      have han : a ≤ n := by omega
      have HC : Hid (chI n (a : Int) = ch n a) := Lib.hid (chI_nat n a)
      have d1 : decide ((a : Int) < 0) = false := decide_eq_false (by omega)
      have d2 : decide ((n : Int) < (a : Int)) = false := decide_eq_false (by omega)
      have d3 : decide (n < a) = false := decide_eq_false (by omega)
      go_enter Try.func9, Try.ntmps9
      go_wp2_with fail
      refine (choose_any n a hn han).mono ?_
      rintro e w1 ⟨rfl, hb⟩
      have HB := Lib.hid hb
      clear hb
      go_wp2
      go_ret2
      exact ⟨by rw [HC.out]; rfl, HB.out⟩
set_option maxRecDepth 1000000 in
theorem Choose_out {w : World} (n k : Int) (hn : n < 0 ∨ 60 < n) : Calls Try.prog 9 #[.int .i64 n, .int .i64 k] w (NoSays 1 nameChoose (.int .i64 0) w) := by
  rcases hn with h | h
  · have d1 : decide (n < 0) = true := decide_eq_true h
    go_enter Try.func9, Try.ntmps9
    go_wp2_with fail
    refine (New_ans _ 1 (by decide) _).mono ?_
    rintro e w1 ⟨E1, rfl, hc1, hb1⟩
    have HC1 := Lib.hid hc1
    have HB1 := Lib.hid hb1
    obtain ⟨u, x, rfl⟩ := hc1.some (by decide)
    clear hc1 hb1
    go_wp2
    go_ret2
    exact ⟨_, rfl, HC1.out, HB1.out⟩
  · have d1 : decide (n < 0) = false := decide_eq_false (by omega)
    have d2 : decide ((60 : Int) < n) = true := decide_eq_true h
    go_enter Try.func9, Try.ntmps9
    go_wp2_with fail
    refine (New_ans _ 1 (by decide) _).mono ?_
    rintro e w1 ⟨E1, rfl, hc1, hb1⟩
    have HC1 := Lib.hid hc1
    have HB1 := Lib.hid hb1
    obtain ⟨u, x, rfl⟩ := hc1.some (by decide)
    clear hc1 hb1
    go_wp2
    go_ret2
    exact ⟨_, rfl, HC1.out, HB1.out⟩
end Go.Proofs.Ytkapgbkppbpgcaa
