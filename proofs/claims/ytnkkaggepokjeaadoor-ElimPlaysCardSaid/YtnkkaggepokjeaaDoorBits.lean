/- math/bits at this program: Len64 and TrailingZeros64 by the shelf's contracts (laid by lay-shelf and lay-plain, the numbers by name), OnesCount64 by its own text. -/
import Derived.Test.YtnkkaggepokjeaaDoorOnes
import Derived.Shelf.Strconv.Itoa0
import Derived.Shelf.Spec.TrailingZeros
import Derived.Laws.Bits128
import Derived.Test.YtnkkaggepokjeaaDoorWordsMath
import Derived.Test.YtnkkaggepokjeaaDoorSl
namespace Go.Proofs.YtnkkaggepokjeaaDoor
open Go.Shelf

def Tryd.lays29_ren : Go.Shelf.Ren := ⟨fun | 29 => 61 | n => n, fun | 22 => 47 | 3 => 3 | 4 => 4 | 25 => 63 | 54 => 155 | 0 => 0 | 5 => 5 | n => n, fun | 1 => 1 | n => n⟩
theorem Tryd.lays29 : Go.Proofs.Lays7.n29 Tryd.prog Tryd.lays29_ren := {
  mixed := by kernel_rfl
  f29 := Tryd.func61.trans (congrArg some (by kernel_rfl))
  t0 := Tryd.underlying0
  a0 := Tryd.isAgg0
  z0 := Tryd.sizeOf0
  v0 := Tryd.zeroValue0
  i0 := by kernel_rfl
  t3 := Tryd.underlying3
  a3 := Tryd.isAgg3
  z3 := Tryd.sizeOf3
  v3 := Tryd.zeroValue3
  i3 := by kernel_rfl
  t4 := Tryd.underlying4
  a4 := Tryd.isAgg4
  z4 := Tryd.sizeOf4
  v4 := Tryd.zeroValue4
  i4 := by kernel_rfl
  t5 := Tryd.underlying5
  a5 := Tryd.isAgg5
  z5 := Tryd.sizeOf5
  v5 := Tryd.zeroValue5
  i5 := by kernel_rfl
  t22 := Tryd.underlying47
  a22 := Tryd.isAgg47
  z22 := Tryd.sizeOf47
  v22 := Tryd.zeroValue47
  i22 := by kernel_rfl
  t25 := Tryd.underlying63
  a25 := Tryd.isAgg63
  z25 := Tryd.sizeOf63
  v25 := Tryd.zeroValue63
  i25 := by kernel_rfl
  t54 := Tryd.underlying155
  a54 := Tryd.isAgg155
  z54 := Tryd.sizeOf155
  g1 := by kernel_rfl }

open Go.RowKit Go.Extern.Stop Go.Stop Go.Extern

/-- The table of bits.TrailingZeros64 lies in its variable. -/
def Tab (w : World) : Prop := TabAt 1 Lib.deBruijn64tab w
theorem Tab.mono {w w' : World} (h : Tab w) (hb : Below w.heap.size w w') : Tab w' := by
  intro j hj
  have hx := h j hj
  rw [hb.cell (p := ⟨1, j, none⟩) (World.block_lt_of_cell? w _ hx)]
  exact hx

theorem Tz64_any (x : Nat) (hx : x < 18446744073709551616) (w : World) (hT : Tab w) :
    Calls Tryd.prog 61 #[.int .u64 (x : Int)] w fun e w' => e = .returned (.int .i64 (Lib.ctz 64 x : Nat)) ∧ w = w' := by
  refine (Any7.bits_TrailingZeros64 Tryd.lays29 x hx w fun _ => hT).mono ?_
  rintro e w' ⟨rfl, rfl⟩
  exact ⟨rfl, rfl⟩

end Go.Proofs.YtnkkaggepokjeaaDoor
