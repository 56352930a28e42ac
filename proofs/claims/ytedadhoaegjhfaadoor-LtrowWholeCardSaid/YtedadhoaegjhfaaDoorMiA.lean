/- Package mix and the document's mixing: the walks of Mix, Unmix, times, fold, Mix. -/
import Derived.Test.YtedadhoaegjhfaaDoorMiMath
import Derived.WalkKit
import Derived.ProofKit
import Derived.Laws.Bits64
import Derived.Lib.Hide
namespace Go.Proofs.YtedadhoaegjhfaaDoor
open Go.RowKit Go.Extern.Stop Go.Stop Go.Extern

theorem wrap_u32_nat (n : Nat) : IntKind.u32.wrap (n : Int) = ((n % 4294967296 : Nat) : Int) := by rw [IntKind.wrap_u32]; omega
theorem bits_xor_u32_nat (a b : Nat) (ha : a < 4294967296) (hb : b < 4294967296) : bits .xor .u32 (a : Int) (b : Int) = ((a ^^^ b : Nat) : Int) := by
  have hx : a ^^^ b < 2 ^ 32 := Nat.xor_lt_two_pow (by omega) (by omega)
  have h1 : (BitVec.ofInt 32 (a : Int)).toNat = a := by
    rw [BitVec.ofInt_natCast, BitVec.toNat_ofNat]; exact Nat.mod_eq_of_lt (by omega)
  have h2 : (BitVec.ofInt 32 (b : Int)).toNat = b := by
    rw [BitVec.ofInt_natCast, BitVec.toNat_ofNat]; exact Nat.mod_eq_of_lt (by omega)
  show IntKind.u32.wrap ((BitVec.ofInt 32 (a : Int) ^^^ BitVec.ofInt 32 (b : Int)).toNat : Int) = _
  rw [BitVec.toNat_xor, h1, h2, IntKind.wrap_u32]
  omega
theorem shm_nat (h k : Nat) : ((h : Int) / ((2 ^ k : Nat) : Int)) = ((h >>> k : Nat) : Int) := by
  rw [Nat.shiftRight_eq_div_pow, Int.natCast_ediv]
theorem shr_lt (h k b : Nat) (hh : h < b) : h >>> k < b := by
  rw [Nat.shiftRight_eq_div_pow]; exact Nat.lt_of_le_of_lt (Nat.div_le_self _ _) hh
theorem fold_u32 (h k : Nat) (hh : h < 4294967296) : bits .xor .u32 (h : Int) ((h : Int) / ((2 ^ k : Nat) : Int)) = ((foldN h k : Nat) : Int) := by
  rw [shm_nat]; exact bits_xor_u32_nat _ _ hh (shr_lt h k _ hh)
theorem fold_u64 (h k : Nat) (hh : h < 18446744073709551616) : bits .xor .u64 (h : Int) ((h : Int) / ((2 ^ k : Nat) : Int)) = ((foldN h k : Nat) : Int) := by
  rw [shm_nat]; exact bits_xor_u64_nat _ _ hh (shr_lt h k _ hh)

set_option maxRecDepth 1000000 in
set_option maxHeartbeats 1000000 in
theorem mixU_any {w : World} (x s : Nat) : Calls Tryd.prog 25 #[.int .u32 (x : Int), .int .u32 (s : Int)] w fun e w' => e = .returned (.int .u32 ((mixN x s : Nat) : Int)) ∧ w = w' := by
  obtain ⟨a, ha⟩ : ∃ a, a = x * 2654435761 % 4294967296 := ⟨_, rfl⟩
  obtain ⟨b, hb⟩ : ∃ b, b = (x * 2654435761 + s) % 4294967296 := ⟨_, rfl⟩
  obtain ⟨c, hc⟩ : ∃ c, c = foldN b 16 := ⟨_, rfl⟩
  obtain ⟨d, hd⟩ : ∃ d, d = c * 2246822507 % 4294967296 := ⟨_, rfl⟩
  obtain ⟨f, hf⟩ : ∃ f, f = foldN d 13 := ⟨_, rfl⟩
  obtain ⟨g, hg⟩ : ∃ g, g = f * 3266489909 % 4294967296 := ⟨_, rfl⟩
  obtain ⟨h, hh⟩ : ∃ h, h = foldN g 16 := ⟨_, rfl⟩
  have hbl : b < 4294967296 := by omega
  have hdl : d < 4294967296 := by omega
  have hgl : g < 4294967296 := by omega
  have e1 : IntKind.u32.wrap ((x : Int) * 2654435761) = (a : Int) := by rw [IntKind.wrap_u32]; omega
  have e2 : IntKind.u32.wrap ((a : Int) + (s : Int)) = (b : Int) := by rw [IntKind.wrap_u32]; omega
  have e3 : bits .xor .u32 (b : Int) ((b : Int) / 65536) = (c : Int) := by rw [hc]; exact fold_u32 b 16 hbl
  have e4 : IntKind.u32.wrap ((c : Int) * 2246822507) = (d : Int) := by rw [IntKind.wrap_u32]; omega
  have e5 : bits .xor .u32 (d : Int) ((d : Int) / 8192) = (f : Int) := by rw [hf]; exact fold_u32 d 13 hdl
  have e6 : IntKind.u32.wrap ((f : Int) * 3266489909) = (g : Int) := by rw [IntKind.wrap_u32]; omega
  have e7 : bits .xor .u32 (g : Int) ((g : Int) / 65536) = (h : Int) := by rw [hh]; exact fold_u32 g 16 hgl
  have hm : mixN x s = h := by unfold mixN; rw [← hb, ← hc, ← hd, ← hf, ← hg, ← hh]
  rw [hm]
  clear ha hb hc hd hf hg hh hm
  go_enter Tryd.func25, Tryd.ntmps25
  go_wp2
  go_ret
  exact ⟨rfl, rfl⟩

theorem tmod32 (n : Nat) : (n : Int).tmod 4294967296 = ((n % 4294967296 : Nat) : Int) := by
  rw [Int.tmod_eq_emod_of_nonneg (Int.natCast_nonneg n)]; omega

set_option maxRecDepth 1000000 in
set_option maxHeartbeats 1000000 in
theorem times_any {w : World} (a b : Nat) (ha : a < 4294967296) (hb : b < 4294967296) : Calls Tryd.prog 45 #[.int .u64 (a : Int), .int .u64 (b : Int)] w fun e w' => e = .returned (.int .u64 ((timesN a b : Nat) : Int)) ∧ w = w' := by
  have hA : a * (b % 65536) ≤ 4294967295 * 65535 := Nat.mul_le_mul (by omega) (by omega)
  have hB : a * (b / 65536) ≤ 4294967295 * 65535 := Nat.mul_le_mul (by omega) (by omega)
  have cA : ((a * (b % 65536) : Nat) : Int) = (a : Int) * ((b : Int) % 65536) := by rw [Int.natCast_mul, Int.natCast_emod]; rfl
  have cB : ((a * (b / 65536) : Nat) : Int) = (a : Int) * ((b : Int) / 65536) := by rw [Int.natCast_mul, Int.natCast_ediv]; rfl
  have hF : timesN a b = (a * (b % 65536) + a * (b / 65536) % 4294967296 * 65536) % 4294967296 := rfl
  generalize a * (b % 65536) = A at *
  generalize a * (b / 65536) = B at *
  obtain ⟨C, hC⟩ : ∃ C, C = B % 4294967296 := ⟨_, rfl⟩
  obtain ⟨D, hD⟩ : ∃ D, D = C * 65536 := ⟨_, rfl⟩
  obtain ⟨E, hE⟩ : ∃ E, E = A + D := ⟨_, rfl⟩
  rw [← hC, ← hD, ← hE] at hF
  rw [hF]
  have e1 : IntKind.u64.wrap ((a : Int) * ((b : Int) % 65536)) = (A : Int) := by rw [← cA, IntKind.wrap_u64]; omega
  have e2 : IntKind.u64.wrap ((a : Int) * ((b : Int) / 65536)) = (B : Int) := by rw [← cB, IntKind.wrap_u64]; omega
  have e3 : (B : Int).tmod 4294967296 = (C : Int) := by rw [hC]; exact tmod32 B
  have e4 : IntKind.u64.wrap ((C : Int) * 65536) = (D : Int) := by rw [IntKind.wrap_u64]; omega
  have e5 : IntKind.u64.wrap ((A : Int) + (D : Int)) = (E : Int) := by rw [IntKind.wrap_u64]; omega
  have e6 := tmod32 E
  generalize E % 4294967296 = F at *
  clear hA hB cA cB hF hC hD hE
  go_enter Tryd.func45, Tryd.ntmps45
  go_wp2
  go_ret
  exact ⟨rfl, rfl⟩

set_option maxRecDepth 1000000 in
set_option maxHeartbeats 1000000 in
theorem fold_any {w : World} (h k : Nat) (hh : h < 18446744073709551616) (hk : k < 64) : Calls Tryd.prog 46 #[.int .u64 (h : Int), .int .u64 (k : Int)] w fun e w' => e = .returned (.int .u64 ((foldN h k : Nat) : Int)) ∧ w = w' := by
  have e1 : bits .xor .u64 (h : Int) ((h : Int) / 2 ^ k) = ((foldN h k : Nat) : Int) := by
    have := fold_u64 h k hh
    rw [← this]; norm_cast
  go_enter Tryd.func46, Tryd.ntmps46
  go_wp2
  go_ret
  exact ⟨rfl, rfl⟩

set_option maxRecDepth 1000000 in
set_option maxHeartbeats 1000000 in
theorem refMix_any {w : World} (x s : Nat) (hx : x < 4294967296) (hs : s < 4294967296) : Calls Tryd.prog 28 #[.int .u32 (x : Int), .int .u32 (s : Int)] w fun e w' => e = .returned (.int .u32 ((mixN x s : Nat) : Int)) ∧ w = w' := by
  obtain ⟨a, ha⟩ : ∃ a, a = x * 2654435761 % 4294967296 := ⟨_, rfl⟩
  obtain ⟨b, hb⟩ : ∃ b, b = (x * 2654435761 + s) % 4294967296 := ⟨_, rfl⟩
  obtain ⟨c, hc⟩ : ∃ c, c = foldN b 16 := ⟨_, rfl⟩
  obtain ⟨d, hd⟩ : ∃ d, d = c * 2246822507 % 4294967296 := ⟨_, rfl⟩
  obtain ⟨f, hf⟩ : ∃ f, f = foldN d 13 := ⟨_, rfl⟩
  obtain ⟨g, hg⟩ : ∃ g, g = f * 3266489909 % 4294967296 := ⟨_, rfl⟩
  obtain ⟨h, hh⟩ : ∃ h, h = foldN g 16 := ⟨_, rfl⟩
  have hbl : b < 4294967296 := by omega
  have hdl : d < 4294967296 := by omega
  have hgl : g < 4294967296 := by omega
  have hcl : c < 4294967296 := by rw [hc]; exact fold_lt _ _ hbl
  have hfl : f < 4294967296 := by rw [hf]; exact fold_lt _ _ hdl
  have hhl : h < 4294967296 := by rw [hh]; exact fold_lt _ _ hgl
  have hal : a < 4294967296 := by omega
  have h1 : timesN x 2654435761 = a := by rw [timesN_eq, ha]
  have h2 : timesN c 2246822507 = d := by rw [timesN_eq, hd]
  have h3 : timesN f 3266489909 = g := by rw [timesN_eq, hg]
  have hm : mixN x s = h := by unfold mixN; rw [← hb, ← hc, ← hd, ← hf, ← hg, ← hh]
  rw [hm]
  have e1 : IntKind.u64.wrap ((a : Int) + (s : Int)) = ((a + s : Nat) : Int) := by rw [IntKind.wrap_u64]; omega
  have e2 : ((a + s : Nat) : Int).tmod 4294967296 = (b : Int) := by rw [tmod32]; omega
  have e3 : IntKind.u32.wrap (h : Int) = (h : Int) := by rw [IntKind.wrap_u32]; omega
  generalize a + s = t at *
  have HC := Lib.hid hc
  have HF := Lib.hid hf
  have HH := Lib.hid hh
  clear ha hb hc hd hf hg hh hm
  go_enter Tryd.func28, Tryd.ntmps28
  go_wp2_with fail
  refine (times_any x 2654435761 hx (by decide)).mono ?_
  rintro e w1 ⟨rfl, rfl⟩
  rw [h1]
  go_wp2_with fail
  refine (fold_any b 16 (by omega) (by decide)).mono ?_
  rintro e w1 ⟨rfl, rfl⟩
  rw [← HC.out]
  go_wp2_with fail
  refine (times_any c 2246822507 hcl (by decide)).mono ?_
  rintro e w1 ⟨rfl, rfl⟩
  rw [h2]
  go_wp2_with fail
  refine (fold_any d 13 (by omega) (by decide)).mono ?_
  rintro e w1 ⟨rfl, rfl⟩
  rw [← HF.out]
  go_wp2_with fail
  refine (times_any f 3266489909 hfl (by decide)).mono ?_
  rintro e w1 ⟨rfl, rfl⟩
  rw [h3]
  go_wp2_with fail
  refine (fold_any g 16 (by omega) (by decide)).mono ?_
  rintro e w1 ⟨rfl, rfl⟩
  rw [← HH.out]
  go_wp2
  go_ret
  exact ⟨rfl, rfl⟩
end Go.Proofs.YtedadhoaegjhfaaDoor
