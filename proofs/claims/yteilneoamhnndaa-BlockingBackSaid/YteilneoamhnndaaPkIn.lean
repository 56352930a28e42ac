/- geyserref02: In, Size (were in PkRead). -/
import Derived.Test.YteilneoamhnndaaPkHas
import Derived.BigQuiet
import Derived.WalkSmall
import Derived.Deep.QuietTactic
import Derived.Laws.ShiftsVar
namespace Go.Proofs.Yteilneoamhnndaa
open Go.RowKit Go.Extern.Stop Go.Stop Go.Extern

def outI (l : List Int) (n : Int) : Bool := l.any fun c => decide (c < 0) || decide (n ≤ c)

def sizeI (n : Int) : Int := if n < 0 ∨ 4096 < n then 0 else (n + 63) / 64

theorem neqBool (p q r : Bool) (h : (p != q) = r) (w : World) : (binOp .neq 4 (.bool p) (.bool q)).run Try.prog w = .ok (.bool r) w := by
  subst h; cases p <;> cases q <;> kernel_rfl

end Go.Proofs.Yteilneoamhnndaa
