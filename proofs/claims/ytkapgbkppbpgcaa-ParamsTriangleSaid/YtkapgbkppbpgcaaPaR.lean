/- The document's numbers: Choose, X, H. -/
import Derived.Test.YtkapgbkppbpgcaaPaA
namespace Go.Proofs.Ytkapgbkppbpgcaa
open Go.RowKit Go.Extern.Stop Go.Stop Go.Extern

theorem ch_step (m j : Nat) : ch (m + (j + 1)) (j + 1) * (j + 1) = ch (m + j) j * (m + (j + 1)) := by
  have h := ch_mul (m + j) j
  rw [show m + (j + 1) = m + j + 1 by omega, Nat.mul_comm, h, Nat.mul_comm]

end Go.Proofs.Ytkapgbkppbpgcaa
