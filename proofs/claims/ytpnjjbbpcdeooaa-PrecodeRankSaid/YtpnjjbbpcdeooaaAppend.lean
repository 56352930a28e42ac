/- Append of a slice that is only read, onto a row of the call's own; what a row of the call's own gives. -/
import Derived.Test.YtpnjjbbpcdeooaaMat
import Derived.Laws.AppendOwnNone
namespace Go.Proofs.Ytpnjjbbpcdeooaa
open Go.RowKit Go.Extern.Stop Go.Stop Go.Extern

theorem Word.set {ws : List Nat} (h : Word ws) (k x : Nat) (hx : x < 18446744073709551616) : Word (ws.set k x) := by
  intro y hy
  rcases List.mem_or_eq_of_mem_set hy with hy | rfl
  · exact h y hy
  · exact hx

theorem not_u64 (x : Nat) (hx : x < 18446744073709551616) : bits BinOp.xor IntKind.u64 (if IntKind.u64.signed = true then -1 else IntKind.u64.max) (x : Int) = ((18446744073709551615 ^^^ x : Nat) : Int) := by
  have e : (if IntKind.u64.signed = true then (-1 : Int) else IntKind.u64.max) = ((18446744073709551615 : Nat) : Int) := by decide
  rw [e]
  exact bits_xor_u64_nat _ _ (by decide) hx




end Go.Proofs.Ytpnjjbbpcdeooaa
