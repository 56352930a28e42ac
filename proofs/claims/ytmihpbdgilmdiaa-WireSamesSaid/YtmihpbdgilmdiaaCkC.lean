/- What package check answers, as the laws of layer 15 want it (each is to be proved of the landed code). -/
import Derived.Test.YtmihpbdgilmdiaaCkRS
import Derived.Test.YtmihpbdgilmdiaaJ11
import Derived.Lib.SlBytesConst
namespace Go.Proofs.Ytmihpbdgilmdiaa
open Go.RowKit Go.Extern.Stop Go.Stop Go.Extern

def nameCkTake : ByteArray := ⟨#[99, 104, 101, 99, 107, 46, 84, 97, 107, 101]⟩
def nameCkSpoil : ByteArray := ⟨#[99, 104, 101, 99, 107, 46, 83, 112, 111, 105, 108]⟩

/-- Sum, of lists: one behind the other. -/
def CkSumC : Prop := ∀ (w : World) (v : Value) (L : List (List Nat)), MatAt byteV w v L → (∀ r ∈ L, Octets r) →
  Calls Try.prog 24 #[v] w fun e w' => e = .returned (.int .u32 ((crcSum L.flatten : Nat) : Int)) ∧ Below w.heap.size w w'
/-- Add: a row of its own. -/
def CkAddC : Prop := ∀ (w : World) (v : Value) (l : List Nat), ListAt byteV w v l → Octets l → l.length ≤ 140737488351232 →
  Calls Try.prog 16 #[v] w fun e w' => ∃ v', e = .returned v' ∧ w'.ownsRow w.heap.size 5 1 v' (l.length + 4) ((l ++ le4 (crcSum l)).map byteV) ∧ Below w.heap.size w w'
/-- Take: the bytes in a row of its own, or why there are none. -/
def CkTakeC : Prop := ∀ (w : World) (v : Value) (l : List Nat), ListAt byteV w v l → Octets l → l.length ≤ 140737488351248 →
  Calls Try.prog 19 #[v] w fun e w' => Below w.heap.size w w' ∧
    ((l.length < 4 ∧ ∃ E, e = .returned (.tuple #[nilS, E]) ∧ ErrAns 2 nameCkTake w' E) ∨
     (4 ≤ l.length ∧ ¬ WholeS l ∧ ∃ E, e = .returned (.tuple #[nilS, E]) ∧ ErrAns 6 nameCkTake w' E) ∨
     (4 ≤ l.length ∧ WholeS l ∧ ∃ v', e = .returned (.tuple #[v', .nilIface]) ∧ w'.ownsRow w.heap.size 5 1 v' (l.length - 4) ((l.take (l.length - 4)).map byteV)))
/-- the world behind '[]byte("..")' of a constant -/
def litB (w : World) (vs : List Nat) : World := w.alloc (.cells (vs.map byteV).toArray 5 (vs.length, vs.length + 1))
theorem lit_octs (w : World) (vs : List Nat) (hm : vs.length ≤ maxLen) : ListAt byteV (litB w vs) (.slice (some ⟨w.heap.size, 0, none⟩) vs.length vs.length) vs := by
  refine ⟨_, vs.length, rfl, Nat.le_refl _, hm, fun _ => ⟨_, 0, rfl, fun j hj => ?_⟩⟩
  rw [Nat.zero_add]
  exact cell_of_heap (heap_alloc_new w _) (by simp [hj])
theorem lit_below (w : World) (vs : List Nat) : Below w.heap.size w (litB w vs) := (Below.refl _ _).alloc (Nat.le_refl _) _

theorem lit_conv (w : World) (C : Array Value) (n c : Nat) : (convert 22 22 (.slice (some ⟨w.heap.size, 0, none⟩) n c)).run Try.prog (w.alloc (.cells C 5)) = .ok (.slice (some ⟨w.heap.size, 0, none⟩) n c) (w.alloc (.cells C 5 (C.size, C.size + 1))) := Lib.run_convert_bytes_const (P := Try.prog) w _ _ C n c Try.underlying22 Try.underlying5

theorem ex_whole : WholeS [49, 50, 51, 52, 53, 54, 55, 56, 57, 131, 146, 6, 227] := by unfold WholeS; decide +kernel
theorem ex_sum : crcSum [[49, 50, 51, 52], [53, 54, 55, 56, 57]].flatten = 3808858755 := by decide +kernel
end Go.Proofs.Ytmihpbdgilmdiaa
