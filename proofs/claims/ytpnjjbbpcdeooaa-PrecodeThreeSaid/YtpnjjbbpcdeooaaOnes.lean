/- math/bits: OnesCount64 by its own text. -/
import Derived.Laws.Bits128
import Derived.Test.YtpnjjbbpcdeooaaWordsMath
import Derived.Test.YtpnjjbbpcdeooaaSl
namespace Go.Proofs.Ytpnjjbbpcdeooaa
open Go.RowKit Go.Extern.Stop Go.Stop Go.Extern

theorem and_lit (a c : Nat) (C : Int) (hC : C = (c : Int)) (ha : a < 18446744073709551616) (hc : c < 18446744073709551616) : bits .and .u64 (a : Int) C = ((a &&& c : Nat) : Int) := by
  rw [hC]; exact bits_and_u64_nat a c ha hc

theorem wrap_nat (a : Nat) (ha : a < 18446744073709551616) : IntKind.u64.wrap (a : Int) = (a : Int) := by rw [IntKind.wrap_u64]; omega

theorem Ones64_any (x : Nat) (hx : x < 18446744073709551616) (w : World) :
    Calls Try.prog 48 #[.int .u64 (x : Int)] w fun e w' => e = .returned (.int .i64 (pop x : Nat)) ∧ w = w' := by
  go_enter Try.func48, Try.ntmps48
  go_wp2
  have E := onesCount_eq x hx
  simp only at E
  obtain ⟨h1, h2, h3, h4, h5, h6, h7, h8⟩ := E
  have e1 : IntKind.u64.wrap (bits BinOp.and IntKind.u64 ((x : Int) / 2) 6148914691236517205 + bits BinOp.and IntKind.u64 (x : Int) 6148914691236517205) = (((x / 2 &&& 6148914691236517205) + (x &&& 6148914691236517205) : Nat) : Int) := by
    rw [show ((x : Int) / 2) = ((x / 2 : Nat) : Int) by omega, and_lit (x / 2) 6148914691236517205 6148914691236517205 rfl (by omega) (by decide), and_lit x 6148914691236517205 6148914691236517205 rfl hx (by decide), ← Int.natCast_add, wrap_nat _ h1]
  simp only [e1]
  generalize (x / 2 &&& 6148914691236517205) + (x &&& 6148914691236517205) = x1 at *
  have e2 : IntKind.u64.wrap (bits BinOp.and IntKind.u64 ((x1 : Int) / 4) 3689348814741910323 + bits BinOp.and IntKind.u64 (x1 : Int) 3689348814741910323) = (((x1 / 4 &&& 3689348814741910323) + (x1 &&& 3689348814741910323) : Nat) : Int) := by
    rw [show ((x1 : Int) / 4) = ((x1 / 4 : Nat) : Int) by omega, and_lit (x1 / 4) 3689348814741910323 3689348814741910323 rfl (by omega) (by decide), and_lit x1 3689348814741910323 3689348814741910323 rfl h1 (by decide), ← Int.natCast_add, wrap_nat _ h2]
  simp only [e2]
  generalize (x1 / 4 &&& 3689348814741910323) + (x1 &&& 3689348814741910323) = x2 at *
  have e3 : bits BinOp.and IntKind.u64 (IntKind.u64.wrap ((x2 : Int) / 16 + (x2 : Int))) 1085102592571150095 = (((x2 / 16 + x2) &&& 1085102592571150095 : Nat) : Int) := by
    rw [show ((x2 : Int) / 16 + (x2 : Int)) = ((x2 / 16 + x2 : Nat) : Int) by omega, wrap_nat _ h3, and_lit _ 1085102592571150095 1085102592571150095 rfl h3 (by decide)]
  simp only [e3]
  generalize (x2 / 16 + x2) &&& 1085102592571150095 = x3 at *
  have e4 : IntKind.u64.wrap ((x3 : Int) + (x3 : Int) / 256) = ((x3 + x3 / 256 : Nat) : Int) := by
    rw [show ((x3 : Int) + (x3 : Int) / 256) = ((x3 + x3 / 256 : Nat) : Int) by omega, wrap_nat _ h5]
  simp only [e4]
  generalize x3 + x3 / 256 = x4 at *
  have e5 : IntKind.u64.wrap ((x4 : Int) + (x4 : Int) / 65536) = ((x4 + x4 / 65536 : Nat) : Int) := by
    rw [show ((x4 : Int) + (x4 : Int) / 65536) = ((x4 + x4 / 65536 : Nat) : Int) by omega, wrap_nat _ h6]
  simp only [e5]
  generalize x4 + x4 / 65536 = x5 at *
  have e6 : IntKind.u64.wrap ((x5 : Int) + (x5 : Int) / 4294967296) = ((x5 + x5 / 4294967296 : Nat) : Int) := by
    rw [show ((x5 : Int) + (x5 : Int) / 4294967296) = ((x5 + x5 / 4294967296 : Nat) : Int) by omega, wrap_nat _ (by omega)]
  simp only [e6]
  generalize x5 + x5 / 4294967296 = x6 at *
  clear e1 e2 e3 e4 e5 e6 h1 h2 h3 h4 h5 h6 hx
  have e7 : wrap64 (x6 : Int) = (x6 : Int) := by unfold wrap64; omega
  simp only [e7, i64_and127]
  go_ret
  exact ⟨by rw [← h8, Int.natCast_emod]; rfl, rfl⟩
end Go.Proofs.Ytpnjjbbpcdeooaa
