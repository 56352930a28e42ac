/- What package calendar answers, as the laws of layer 18 want it (each is to be proved of the landed code). -/
import Derived.Test.YtgbogglalnafeaaDoorCaS
import Derived.Test.YtgbogglalnafeaaDoorSyErr
namespace Go.Proofs.YtgbogglalnafeaaDoor
open Go.RowKit Go.Extern.Stop Go.Stop Go.Extern

def nameCaCheck : ByteArray := ⟨#[99, 97, 108, 101, 110, 100, 97, 114, 46, 67, 104, 101, 99, 107]⟩
def nameCaBurst : ByteArray := ⟨#[99, 97, 108, 101, 110, 100, 97, 114, 46, 66, 117, 114, 115, 116]⟩
def nameCaSync : ByteArray := ⟨#[99, 97, 108, 101, 110, 100, 97, 114, 46, 83, 121, 110, 99]⟩
def nameCaNext : ByteArray := ⟨#[99, 97, 108, 101, 110, 100, 97, 114, 46, 78, 101, 120, 116]⟩
def nameCaSteps : ByteArray := ⟨#[99, 97, 108, 101, 110, 100, 97, 114, 46, 83, 116, 101, 112, 115]⟩
def nameCaRow : ByteArray := ⟨#[99, 97, 108, 101, 110, 100, 97, 114, 46, 82, 111, 119]⟩
/-- Check -/
def CaCheckC : Prop := ∀ (w : World) (b u : Int), I64 b → I64 u → Calls Tryd.prog 10 #[.int .i64 b, .int .i64 u] w fun e w' => ∃ E, e = .returned E ∧ ErrAns (caN b u 0) nameCaCheck w' E ∧ Below w.heap.size w w'
/-- Burst -/
def CaBurstC : Prop := ∀ (w : World) (b u t : Int), I64 b → I64 u → I64 t → Calls Tryd.prog 7 #[.int .i64 b, .int .i64 u, .int .i64 t] w fun e w' => Below w.heap.size w w' ∧
  ((¬ CaOk b u t ∧ ∃ E, e = .returned (.tuple #[.bool false, E]) ∧ ErrAns 1 nameCaBurst w' E) ∨ (CaOk b u t ∧ e = .returned (.tuple #[.bool (burstB b.toNat u.toNat t.toNat), .nilIface])))
/-- Sync -/
def CaSyncC : Prop := ∀ (w : World) (b g t : Int), I64 b → I64 g → I64 t → Calls Tryd.prog 13 #[.int .i64 b, .int .i64 g, .int .i64 t] w fun e w' => Below w.heap.size w w' ∧
  ((¬ (CaOk b 1 t ∧ 1 ≤ g ∧ g ≤ 8) ∧ ∃ E, e = .returned (.tuple #[.int .i64 0, E]) ∧ ErrAns 1 nameCaSync w' E) ∨ ((CaOk b 1 t ∧ 1 ≤ g ∧ g ≤ 8) ∧ e = .returned (.tuple #[.int .i64 (syncZ b.toNat t.toNat g.toNat), .nilIface])))
/-- Next -/
def CaNextC : Prop := ∀ (w : World) (b l t : Int), I64 b → I64 l → I64 t → Calls Tryd.prog 15 #[.int .i64 b, .int .i64 l, .int .i64 t] w fun e w' => Below w.heap.size w w' ∧
  ((¬ (CaOk b 1 t ∧ 0 ≤ l ∧ l ≤ 7) ∧ ∃ E, e = .returned (.tuple #[.int .i64 0, E]) ∧ ErrAns 1 nameCaNext w' E) ∨ ((CaOk b 1 t ∧ 0 ≤ l ∧ l ≤ 7) ∧ e = .returned (.tuple #[.int .i64 ((nextZ b.toNat l.toNat t.toNat : Nat) : Int), .nilIface])))
/-- Steps -/
def CaStepsC : Prop := ∀ (w : World) (b u t : Int), I64 b → I64 u → I64 t → Calls Tryd.prog 17 #[.int .i64 b, .int .i64 u, .int .i64 t] w fun e w' => Below w.heap.size w w' ∧
  ((¬ CaOk b u t ∧ ∃ E, e = .returned (.tuple #[.int .i64 0, E]) ∧ ErrAns 1 nameCaSteps w' E) ∨ (CaOk b u t ∧ e = .returned (.tuple #[.int .i64 ((stepsZ b.toNat u.toNat t.toNat : Nat) : Int), .nilIface])))
/-- Row: a tick's steps in a row of their own, or why there are none. -/
def CaRowC : Prop := ∀ (w : World) (b u t : Int), I64 b → I64 u → I64 t → Calls Tryd.prog 18 #[.int .i64 b, .int .i64 u, .int .i64 t] w fun e w' => Below w.heap.size w w' ∧
  ((¬ CaOk b u t ∧ ∃ E, e = .returned (.tuple #[nilS, E]) ∧ ErrAns 1 nameCaRow w' E) ∨
   (CaOk b u t ∧ ∃ v', e = .returned (.tuple #[v', .nilIface]) ∧ w'.ownsRow w.heap.size 48 1 v' (rowZ b.toNat u.toNat t.toNat).length ((rowZ b.toNat u.toNat t.toNat).map stV)))
end Go.Proofs.YtgbogglalnafeaaDoor
