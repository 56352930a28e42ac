/- Package params: Prime, Choose. -/
import Derived.Test.YtedadhoaegjhfaaDoorPaC
import Derived.Test.YtedadhoaegjhfaaDoorSyErr
namespace Go.Proofs.YtedadhoaegjhfaaDoor
open Go.RowKit Go.Extern.Stop Go.Stop Go.Extern

def namePrime : ByteArray := ⟨#[112, 97, 114, 97, 109, 115, 46, 80, 114, 105, 109, 101]⟩
def nameChoose : ByteArray := ⟨#[112, 97, 114, 97, 109, 115, 46, 67, 104, 111, 111, 115, 101]⟩
def nameOf : ByteArray := ⟨#[112, 97, 114, 97, 109, 115, 46, 79, 102]⟩

def Prime_says (n : Int) (w : World) (e : Ending) (w' : World) : Prop := ∃ p : Nat, e = .returned (.tuple #[.int .i64 p, .nilIface]) ∧ LeastP n p ∧ w = w'
/-- What a call says that is refused: 0, and why. -/
def NoSays (k : Int) (c : ByteArray) (v : Value) (w : World) (e : Ending) (w' : World) : Prop := ∃ E, e = .returned (.tuple #[v, E]) ∧ ErrAns k c w' E ∧ Below w.heap.size w w'

end Go.Proofs.YtedadhoaegjhfaaDoor
