/- What package stripe answers, as the laws of layer 17 want it (each is to be proved of the landed code). -/
import Derived.Test.YtlhpkfonffijfaaDoorStEs
import Derived.Test.YtlhpkfonffijfaaDoorSyErr
namespace Go.Proofs.YtlhpkfonffijfaaDoor
open Go.RowKit Go.Extern.Stop Go.Stop Go.Extern

theorem layL_lt (m s : Nat) : ∀ (l c : Nat), c ∈ layL m s l → c < 2 ^ (m + l)
  | 0, c, h => ((mem_levL m 0 s c).1 h).1
  | l + 1, c, h => by
    rw [← layL_filter m l s (p := fun c => decide (c ∉ levL (m + 1) l s)) fun c => by simp] at h
    exact ((mem_levL m (l + 1) s c).1 (List.mem_filter.1 h).1).1
theorem rateN_le {l : Nat} (h : l ≤ 7) : rateN l ≤ 64 := by
  cases l with
  | zero => decide
  | succ k =>
    have : (2 : Nat) ^ k ≤ 2 ^ 6 := st_pow_le (by omega)
    simpa [rateN] using this
theorem stEsis_any {w : World} (g m l s n z : Nat) (hg : g = m + l + 1) (h8 : g ≤ 8) (hs : s < 4294967296) (hn : n ≤ 65536) (hz : n / 2 ^ (m + l) = z) :
    Calls Tryd.prog 21 #[.int .i64 (g : Int), .int .i64 (n : Int), .int .i64 (l : Int), .int .u32 (s : Int)] w fun e w' => ∃ v', e = .returned v' ∧ w'.ownsRow w.heap.size 3 1 v' (stEsiL m l s z).length ((stEsiL m l s z).map cutV) ∧ Below w.heap.size w w' := by
  have hp : (2 : Nat) ^ (m + l) ≤ 2 ^ 7 := st_pow_le (by omega)
  have hl : (layL m s l).length ≤ 128 := by rw [layL_length]; have := rateN_le (l := l) (by omega); omega
  exact stEsis_gen g l s n (m + l) _ z (layL m s l) (by omega) h8 hn (Nat.two_pow_pos _) hp hz hl (fun c hc => by have := layL_lt m s l c hc; omega) (fun V => stChunks_any g m l s hg h8 hs) (fun V => stPower_any (m + l) (by omega))

def nameStReverse : ByteArray := ⟨#[115, 116, 114, 105, 112, 101, 46, 82, 101, 118, 101, 114, 115, 101]⟩
def nameStChunks : ByteArray := ⟨#[115, 116, 114, 105, 112, 101, 46, 67, 104, 117, 110, 107, 115]⟩
def nameStLevel : ByteArray := ⟨#[115, 116, 114, 105, 112, 101, 46, 76, 101, 118, 101, 108]⟩
def nameStEsis : ByteArray := ⟨#[115, 116, 114, 105, 112, 101, 46, 69, 115, 105, 115]⟩

/-- a number that may be reversed -/
def RevOk (v b : Int) : Prop := 0 ≤ b ∧ b ≤ 16 ∧ 0 ≤ v ∧ v < ((2 ^ b.toNat : Nat) : Int)
/-- Reverse -/
def StRevC : Prop := ∀ (w : World) (v b : Int), I64 v → I64 b → Calls Tryd.prog 7 #[.int .i64 v, .int .i64 b] w fun e w' => Below w.heap.size w w' ∧
  ((¬ RevOk v b ∧ ∃ E, e = .returned (.tuple #[.int .i64 0, E]) ∧ ErrAns 1 nameStReverse w' E) ∨ (RevOk v b ∧ e = .returned (.tuple #[.int .i64 ((revN b.toNat v.toNat : Nat) : Int), .nilIface])))
/-- Rate -/
def StRateC : Prop := ∀ (w : World) (g l : Int), I64 g → I64 l → Calls Tryd.prog 14 #[.int .i64 g, .int .i64 l] w fun e w' => e = .returned (.int .i64 (if mayB g l then ((rateN l.toNat : Nat) : Int) else 0)) ∧ Below w.heap.size w w'
/-- Chunks: a layer's chunks in a row of their own, or why there are none. -/
def StChunksC : Prop := ∀ (w : World) (g l : Int) (s : Nat), I64 g → I64 l → s < 4294967296 → Calls Tryd.prog 12 #[.int .i64 g, .int .i64 l, .int .u32 (s : Int)] w fun e w' => Below w.heap.size w w' ∧
  ((mayB g l = false ∧ ∃ E, e = .returned (.tuple #[nilS, E]) ∧ ErrAns 1 nameStChunks w' E) ∨
   (mayB g l = true ∧ ∃ v', e = .returned (.tuple #[v', .nilIface]) ∧ w'.ownsRow w.heap.size 3 1 v' (layL (g - 1 - l).toNat s l.toNat).length ((layL (g - 1 - l).toNat s l.toNat).map cutV)))
/-- Level: where a level's chunks begin, and how many they are. -/
def StLevelC : Prop := ∀ (w : World) (g l : Int) (s : Nat), I64 g → I64 l → s < 4294967296 → Calls Tryd.prog 17 #[.int .i64 g, .int .i64 l, .int .u32 (s : Int)] w fun e w' => Below w.heap.size w w' ∧
  ((mayB g l = false ∧ ∃ E, e = .returned (.tuple #[.int .i64 0, .int .i64 0, E]) ∧ ErrAns 1 nameStLevel w' E) ∨
   (mayB g l = true ∧ e = .returned (.tuple #[.int .i64 ((levF (g - 1 - l).toNat s * 2 ^ l.toNat : Nat) : Int), .int .i64 ((2 ^ l.toNat : Nat) : Int), .nilIface])))
/-- Esis: a layer's encoding symbols in a row of their own, or why there are none. -/
def StEsisC : Prop := ∀ (w : World) (g n l : Int) (s : Nat), I64 g → I64 n → I64 l → s < 4294967296 → Calls Tryd.prog 19 #[.int .i64 g, .int .i64 n, .int .i64 l, .int .u32 (s : Int)] w fun e w' => Below w.heap.size w w' ∧
  ((stEsiN g n l ≠ 0 ∧ ∃ E, e = .returned (.tuple #[nilS, E]) ∧ ErrAns (stEsiN g n l) nameStEsis w' E) ∨
   (stEsiN g n l = 0 ∧ ∃ v', e = .returned (.tuple #[v', .nilIface]) ∧ w'.ownsRow w.heap.size 3 1 v' (stEsiL (g - 1 - l).toNat l.toNat s (n.toNat / 2 ^ (g - 1).toNat)).length ((stEsiL (g - 1 - l).toNat l.toNat s (n.toNat / 2 ^ (g - 1).toNat)).map cutV)))
end Go.Proofs.YtlhpkfonffijfaaDoor
