/- The fifteenth layer's laws: awake. -/
import Derived.Test.YtccnkfblhkncoaaLaw15T
import Derived.Test.YtccnkfblhkncoaaCkC
namespace Go.Proofs.Ytccnkfblhkncoaa
open Go.RowKit Go.Extern.Stop Go.Stop Go.Extern

theorem two_lists {w : World} {x y : Value} {a b : List Nat} (hx : ListAt byteV w x a) (hy : ListAt byteV w y b) : MatAt byteV (w.alloc (.cells #[x, y] 23)) (.slice (some ⟨w.heap.size, 0, none⟩) 2 2) [a, b] := by
  have hb : Below w.heap.size w (w.alloc (.cells #[x, y] 23)) := (Below.refl _ _).alloc (Nat.le_refl _) _
  refine ⟨[x, y], ListAt.of_owns (f := id) (l := [x, y]) (own_of_heap (base := 0) (n := 2) (g := w.heap.size) (e := 23) (xs := [x, y].map id) (Nat.zero_le _) rfl (by decide) (heap_alloc_new w _)), rfl, fun i => ?_⟩
  match i with
  | 0 => exact hx.mono hb
  | 1 => exact hy.mono hb
  | i + 2 => exact ListAt.nil _ _

set_option maxRecDepth 1000000 in
set_option maxHeartbeats 4000000 in
theorem awake15 (hS : CkSumC) (hT : CkTakeC) (w : World) : Calls Try.prog 7 #[] w fun e w' => e = .returned (.bool true) ∧ Below w.heap.size w w' := by
  have HS := Lib.hid hS
  have HT := Lib.hid (hT (litB w [49, 50, 51, 52, 53, 54, 55, 56, 57, 131, 146, 6, 227]) _ _ (lit_octs w [49, 50, 51, 52, 53, 54, 55, 56, 57, 131, 146, 6, 227] (by decide)) (by intro x hx; simp at hx; omega) (by decide))
  have HB0 := Lib.hid (lit_below w [49, 50, 51, 52, 53, 54, 55, 56, 57, 131, 146, 6, 227])
  have kc := lit_conv
  clear hS hT
  go_enter Try.func7, Try.ntmps7
  go_wp2_with fail
  refine HT.out.mono ?_
  rintro e w1 ⟨hb1, h | h | ⟨-, -, v1, rfl, ho1⟩⟩
  · exact absurd h.1 (by decide)
  · exact absurd ex_whole h.2.1
  have HB1 := Lib.hid (HB0.out.trans (hb1.mono HB0.out.size))
  have HSZ := Lib.hid HB1.out.size
  have ho2 : w1.ownsRow (litB w [49, 50, 51, 52, 53, 54, 55, 56, 57, 131, 146, 6, 227]).heap.size 5 1 v1 9 ([49, 50, 51, 52, 53, 54, 55, 56, 57].map byteV) := ho1
  have hst := (ListAt.of_owns (f := byteV) (l := [49, 50, 51, 52, 53, 54, 55, 56, 57]) ho2).str
  rw [show strN [49, 50, 51, 52, 53, 54, 55, 56, 57] = ⟨#[49, 50, 51, 52, 53, 54, 55, 56, 57]⟩ by rfl] at hst
  obtain ⟨a1, c1, rfl, -, -⟩ := own_open ho2
  clear ho1 ho2 hb1
  have hl1 := lit_octs w1 [49, 50, 51, 52] (by decide)
  have hl2 := lit_octs (litB w1 [49, 50, 51, 52]) [53, 54, 55, 56, 57] (by decide)
  have hm := two_lists (hl1.mono (lit_below _ [53, 54, 55, 56, 57])) hl2
  have kc2 : ∀ (O : Obj) (C : Array Value) (n c : Nat), (convert 23 23 (.slice (some ⟨w1.heap.size + 1, 0, none⟩) n c)).run Try.prog ((w1.alloc O).alloc (.cells C 5)) = .ok (.slice (some ⟨w1.heap.size + 1, 0, none⟩) n c) ((w1.alloc O).alloc (.cells C 5 (C.size, C.size + 1))) := fun O C n c => by
    have := lit_conv (w1.alloc O) C n c
    rwa [World.size_alloc] at this
  have hz1 : (litB w1 [49, 50, 51, 52]).heap.size = w1.heap.size + 1 := World.size_alloc ..
  have hz2 : (litB (litB w1 [49, 50, 51, 52]) [53, 54, 55, 56, 57]).heap.size = w1.heap.size + 1 + 1 := by
    show (World.alloc _ _).heap.size = _
    rw [World.size_alloc, hz1]
  have HSS := Lib.hid (HS.out _ _ _ hm (by intro r hr x hx; simp at hr; rcases hr with rfl | rfl <;> simp at hx <;> omega))
  have HB2 := Lib.hid ((HB1.out.trans ((lit_below w1 [49, 50, 51, 52]).mono HB1.out.size)).trans ((lit_below (litB w1 [49, 50, 51, 52]) [53, 54, 55, 56, 57]).mono (HB1.out.trans ((lit_below w1 [49, 50, 51, 52]).mono HB1.out.size)).size))
  have HB3 := Lib.hid (HB2.out.alloc HB2.out.size (.cells #[Value.slice (some ⟨w1.heap.size, 0, none⟩) 4 4, Value.slice (some ⟨(litB w1 [49, 50, 51, 52]).heap.size, 0, none⟩) 5 5] 23))
  rw [hz1] at HB3 HSS
  rw [hz2] at HSS
  clear hl1 hl2 hm hz1 hz2
  go_wp2_with fail
  refine HSS.out.mono ?_
  rintro e w2 ⟨rfl, hb2⟩
  rw [ex_sum]
  have HB4 := Lib.hid (HB3.out.trans (hb2.mono HB3.out.size))
  clear hb2
  go_wp2
  go_ret
  exact ⟨rfl, HB4.out⟩
end Go.Proofs.Ytccnkfblhkncoaa
