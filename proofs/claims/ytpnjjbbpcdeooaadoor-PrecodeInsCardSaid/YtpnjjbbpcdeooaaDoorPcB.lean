/- Package precode and the document's: bits of a number; the numbers of one weight, gone over. -/
import Derived.Test.YtpnjjbbpcdeooaaDoorPcMath
import Derived.Test.YtpnjjbbpcdeooaaDoorPkUn
import Derived.Test.YtpnjjbbpcdeooaaDoorOnes
import Derived.Test.YtpnjjbbpcdeooaaDoorLists
import Derived.Maps.AppendAt
import Derived.OwnWalk
import Derived.WalkSpells
import Derived.WalkLawsBesides
import Derived.Deep.LoopGhost
namespace Go.Proofs.YtpnjjbbpcdeooaaDoor
open Go.RowKit Go.Extern.Stop Go.Stop Go.Extern

theorem xor_i64 (a b : Nat) (ha : a < 4611686018427387904) (hb : b < 4611686018427387904) : bits .xor .i64 (a : Int) (b : Int) = ((a ^^^ b : Nat) : Int) := by
  have hx : a ^^^ b < 2 ^ 62 := Nat.xor_lt_two_pow (by omega) (by omega)
  have h1 : (BitVec.ofInt 64 (a : Int)).toNat = a := by
    rw [BitVec.ofInt_natCast, BitVec.toNat_ofNat]; exact Nat.mod_eq_of_lt (by omega)
  have h2 : (BitVec.ofInt 64 (b : Int)).toNat = b := by
    rw [BitVec.ofInt_natCast, BitVec.toNat_ofNat]; exact Nat.mod_eq_of_lt (by omega)
  show IntKind.i64.wrap ((BitVec.ofInt 64 (a : Int) ^^^ BitVec.ofInt 64 (b : Int)).toNat : Int) = _
  rw [BitVec.toNat_xor, h1, h2, IntKind.wrap_i64]
  omega
theorem xor_gry {i : Nat} (h : i < 1048576) : bits .xor .i64 (i : Int) ((i : Int) / 2) = ((gry i : Nat) : Int) := by
  rw [show ((i : Int) / 2) = ((i / 2 : Nat) : Int) by omega, xor_i64 i (i / 2) (by omega) (by omega)]
  rfl
theorem and_one_i64 (n : Int) : bits .and .i64 n 1 = n % 2 := by
  have h1 : (BitVec.ofInt 64 1).toNat = 2 ^ 1 - 1 := by decide
  have key : (BitVec.ofInt 64 n &&& BitVec.ofInt 64 1).toNat = (n % ((2 ^ 64 : Nat) : Int)).toNat % 2 ^ 1 := by
    rw [BitVec.toNat_and, BitVec.toNat_ofInt, h1, Nat.and_two_pow_sub_one_eq_mod]
  show IntKind.i64.wrap ((BitVec.ofInt 64 n &&& BitVec.ofInt 64 1).toNat : Nat) = n % 2
  rw [key, IntKind.wrap_i64]
  omega

set_option maxRecDepth 1000000 in
theorem OnesC_any (x : Nat) (hx : x < 18446744073709551616) (w : World) :
    Calls Tryd.prog 49 #[.int .u64 (x : Int)] w fun e w' => e = .returned (.int .i64 (pop x : Nat)) ∧ w = w' := by
  obtain ⟨P, hP⟩ : ∃ P, pop x = P := ⟨_, rfl⟩
  have hp := pop_le x
  rw [hP] at hp ⊢
  have HC : Hid (Calls Tryd.prog 51 #[.int .u64 (x : Int)] w fun e w' => e = .returned (.int .i64 (P : Int)) ∧ w = w') := Lib.hid (by rw [← hP]; exact Ones64_any x hx w)
  clear hP
  go_enter Tryd.func49, Tryd.ntmps49
  go_wp2_with fail
  refine HC.out.mono ?_
  rintro e w1 ⟨rfl, rfl⟩
  go_wp2
  go_ret
  exact ⟨rfl, rfl⟩

set_option maxRecDepth 1000000 in
theorem ones_any {w : World} (x : Nat) (hx : x < 4611686018427387904) :
    Calls Tryd.prog 27 #[.int .i64 (x : Int)] w fun e w' => e = .returned (.int .i64 ((pop x : Nat) : Int)) ∧ w = w' := by
  have hp := pop_le x
  obtain ⟨P, hP⟩ : ∃ P, pop x = P := ⟨_, rfl⟩
  rw [hP] at hp ⊢
  have HP := Lib.hid hP
  clear hP
  go_enter Tryd.func27, Tryd.ntmps27
  go_wp2
  go_loopw [0, 3] (fun n k wr => ∃ m j : Nat, n = .int .i64 m ∧ k = .int .i64 j ∧ m < 4611686018427387904 ∧ j + pop m = P ∧ w = wr) (fun n _ _ => (intOf n).toNat)
  case atStart => exact ⟨x, 0, rfl, rfl, hx, by rw [HP.out]; omega, rfl⟩
  case round =>
    obtain ⟨m, j, rfl, rfl, hm, hj, rfl⟩ := hrel
    have hjP : j ≤ P := by omega
    by_cases h0 : 0 < m
    · have HS : Hid (j + m % 2 + pop (m / 2) = P) := Lib.hid (by rw [← hj, pop_step (x := m) (by omega)]; omega)
      have d1 : decide ((0 : Int) < (m : Int)) = true := decide_eq_true (by omega)
      clear hj
      go_wp2
      go_roundw
      case rel => exact ⟨m / 2, j + m % 2, by go_num, by go_num, by omega, HS.out, trivial⟩
      case measure => simp [intOf]; omega
    · obtain rfl : m = 0 := by omega
      rw [pop_zero] at hj
      have HJ : Hid (j = P) := Lib.hid (by omega)
      clear hj
      go_wp2
      go_ret
      exact ⟨by rw [HJ.out]; rfl, rfl⟩

set_option maxRecDepth 1000000 in
set_option maxHeartbeats 1000000 in
theorem rGray_any {w : World} (wt n : Nat) (_hwt : wt ≤ 16) (hn : n ≤ 100000) :
    Calls Tryd.prog 15 #[.int .i64 (wt : Int), .int .i64 (n : Int)] w fun e w' => ∃ v l, e = .returned v ∧ IsGr wt n l ∧ ListAt colV w' v l ∧ Below w.heap.size w w' := by
  obtain ⟨i0, hi, hz0, hz1, hz2⟩ := info_parts info_int
  go_enter Tryd.func15, Tryd.ntmps15
  go_wp2
  go_loopw [5, 6] (fun v i wr => ∃ (k q : Nat) (l : List Nat), k ≤ 1048576 ∧ i = .int .i64 k ∧ l = graysTo wt k ∧ l.length = q ∧ q ≤ n ∧ wr.ownsRow w.heap.size 3 1 v q (l.map colV) ∧ Below w.heap.size w wr) (fun _ i _ => 1048576 - (intOf i).toNat)
  case atStart => exact ⟨0, 0, [], by omega, rfl, rfl, rfl, by omega, World.ownsRow_made (base := w.heap.size) (e := 3) (size := 1) w #[] 0 (Nat.le_refl _) (by decide) rfl, (Below.refl _ _).alloc (Nat.le_refl _) _⟩
  case round =>
    obtain ⟨k, q, l, hk, rfl, hl, hlq, hqn, hown, hbel⟩ := hrel
    have hsz := hbel.size
    have HL := Lib.hid hl
    have HQ := Lib.hid hlq
    have HO := Lib.hid hown
    have HB := Lib.hid hbel
    obtain ⟨ao, co, rfl, -, -⟩ := own_open hown
    clear hl hlq hown hbel
    by_cases hlt : k < 1048576 ∧ q < n
    · obtain ⟨hlt, hqlt⟩ := hlt
      have HX := xor_gry hlt
      have hgl : gry k < 1048576 := gry_lt (n := 20) (by omega)
      have d1 : decide ((k : Int) < 1048576) = true := decide_eq_true (by omega)
      have d2 : decide ((q : Int) < (n : Int)) = true := decide_eq_true (by omega)
      have d3 : decide (q < n) = true := decide_eq_true (by omega)
      have hpp := pop_le (gry k)
      by_cases hp : pop (gry k) = wt
      · have HS := Lib.hid (graysTo_one hp)
        have HP := Lib.hid hp
        generalize gry k = g at *
        clear hp
        go_wp2_with fail
        refine (ones_any g (by omega)).mono ?_
        rintro e w1 ⟨rfl, rfl⟩
        rw [HP.out]
        have hb : ((wt : Int) == (wt : Int)) = true := by simp
        go_wp2_with (at_builtin; refine wpList_append_own _ rfl (.tmp 27) (.tmp 29) 24 rfl w.heap.size 3 i0 (.int .i64 0) 1 8 Tryd.underlying24 hi hz0 hz1 hz2 rfl (by decide) (.slice ao q co) q (l.map colV) rfl (HO.out.alloc _) ⟨wr.heap.size, 0, none⟩ 1 1 [.int .i64 (g : Int)] rfl rfl (cell_one_new _ _ _) (fun x hx => by simp at hx; subst hx; rfl) (by unfold maxLen; omega) (by omega) (by simp; omega) ?_; intro v2 w2 hown1 hgrow1 _; have hb2 := Lib.hid ((HB.out.alloc hsz _).grown hgrow1 (by simp; omega) (fun k hk => (HO.out.lt k hk).1)); have ho2 := Lib.hid hown1; clear hown1 hgrow1)
        go_roundw
        case rel => exact ⟨k + 1, q + 1, l ++ [g], by omega, by go_num, by rw [HS.out, ← HL.out], by rw [List.length_append, HQ.out]; rfl, by omega, by rw [List.map_append]; exact ho2.out, hb2.out⟩
        case measure => simp [intOf]; omega
      · have HS := Lib.hid (graysTo_none hp)
        have hb : (((pop (gry k) : Nat) : Int) == (wt : Int)) = false := by simpa using fun h => hp (by omega)
        generalize gry k = g at *
        clear hp
        go_wp2_with fail
        refine (ones_any g (by omega)).mono ?_
        rintro e w1 ⟨rfl, rfl⟩
        generalize pop g = P at *
        go_wp2
        go_roundw
        case rel => exact ⟨k + 1, q, l, by omega, by go_num, by rw [HS.out, ← HL.out], HQ.out, by omega, HO.out, HB.out⟩
        case measure => simp [intOf]; omega
    · have HE : Hid (IsGr wt n l) := Lib.hid ⟨k, hk, HL.out, by rw [HQ.out]; exact hqn, by rw [HQ.out]; omega⟩
      by_cases h1 : k < 1048576
      · have d1 : decide ((k : Int) < 1048576) = true := decide_eq_true (by omega)
        have d2 : decide ((q : Int) < (n : Int)) = false := decide_eq_false (by omega)
        have d3 : decide (q < n) = false := decide_eq_false (by omega)
        go_wp2
        go_ret
        exact ⟨_, l, rfl, HE.out, ListAt.of_owns HO.out, HB.out⟩
      · have d1 : decide ((k : Int) < 1048576) = false := decide_eq_false (by omega)
        go_wp2
        go_ret
        exact ⟨_, l, rfl, HE.out, ListAt.of_owns HO.out, HB.out⟩
end Go.Proofs.YtpnjjbbpcdeooaaDoor
