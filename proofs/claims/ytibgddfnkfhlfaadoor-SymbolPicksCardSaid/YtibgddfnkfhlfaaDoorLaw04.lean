/- The helpers of the fourth layer's laws: awake. -/
import Derived.Test.YtibgddfnkfhlfaaDoorSyB
namespace Go.Proofs.YtibgddfnkfhlfaaDoor
open Go.RowKit Go.Extern.Stop Go.Stop Go.Extern

theorem lit_bytes (w : World) (vs : List Nat) (n : Nat) (hn : vs.length = n) (hm : n ≤ maxLen) : ListAt byteV (w.alloc (.cells (vs.map byteV).toArray 5)) (.slice (some ⟨w.heap.size, 0, none⟩) n n) vs := by
  subst hn
  refine ⟨_, vs.length, rfl, Nat.le_refl _, hm, fun _ => ⟨_, 0, rfl, fun j hj => ?_⟩⟩
  rw [Nat.zero_add, World.cell?_alloc_at _ _ _ _ (by simp)]
  simp [hj]

theorem lit_syms (w : World) : MatAt byteV ((((w.alloc (.cells #[.int .u8 15] 5)).alloc (.cells #[.int .u8 240] 5)).alloc (.cells #[.int .u8 3] 5)).alloc
    (.cells #[.slice (some ⟨w.heap.size, 0, none⟩) 1 1, .slice (some ⟨w.heap.size + 1, 0, none⟩) 1 1, .slice (some ⟨w.heap.size + 1 + 1, 0, none⟩) 1 1] 22)) (.slice (some ⟨w.heap.size + 1 + 1 + 1, 0, none⟩) 3 3) [[15], [240], [3]] := by
  have a1 := lit_bytes w [15] 1 rfl (by decide)
  have a2 := lit_bytes (w.alloc (.cells #[.int .u8 15] 5)) [240] 1 rfl (by decide)
  have a3 := lit_bytes ((w.alloc (.cells #[.int .u8 15] 5)).alloc (.cells #[.int .u8 240] 5)) [3] 1 rfl (by decide)
  rw [World.size_alloc] at a2
  rw [World.size_alloc, World.size_alloc] at a3
  have b : ∀ (W : World) (o : Obj), Below W.heap.size W (W.alloc o) := fun W o => (Below.refl _ _).alloc (Nat.le_refl _) o
  have h := MatAt.lit (f := byteV) (w := (((w.alloc (.cells #[.int .u8 15] 5)).alloc (.cells #[.int .u8 240] 5)).alloc (.cells #[.int .u8 3] 5)))
    (vs := [.slice (some ⟨w.heap.size, 0, none⟩) 1 1, .slice (some ⟨w.heap.size + 1, 0, none⟩) 1 1, .slice (some ⟨w.heap.size + 1 + 1, 0, none⟩) 1 1]) (L := [[15], [240], [3]]) 22 3 rfl rfl (by decide) fun i => by
    match i with
    | 0 => exact (a1.mono (b _ _)).mono (b _ _)
    | 1 => exact a2.mono (b _ _)
    | 2 => exact a3
    | i + 3 => exact ListAt.nil _ _
  rw [World.size_alloc, World.size_alloc, World.size_alloc] at h
  exact h

theorem ex_sum : sumB 1 [[15], [240], [3]] = [252] := by decide +kernel
theorem ex_str : strN [252] = ⟨#[252]⟩ := by rfl

set_option maxRecDepth 1000000 in
set_option maxHeartbeats 1000000 in
theorem awake4 (w : World) : Calls Tryd.prog 9 #[] w fun e w' => e = .returned (.bool true) ∧ Below w.heap.size w w' := by
  have HB0 := Lib.hid (((((Below.refl w.heap.size w).alloc (Nat.le_refl _) (.cells #[.int .u8 15] 5)).alloc (by simp) (.cells #[.int .u8 240] 5)).alloc (by simp; omega) (.cells #[.int .u8 3] 5)).alloc (by simp; omega)
    (.cells #[.slice (some ⟨w.heap.size, 0, none⟩) 1 1, .slice (some ⟨w.heap.size + 1, 0, none⟩) 1 1, .slice (some ⟨w.heap.size + 1 + 1, 0, none⟩) 1 1] 22))
  have HM0 := Lib.hid (lit_syms w)
  go_enter Tryd.func9, Tryd.ntmps9
  go_wp2_with fail
  refine (Sum_ok _ [[15], [240], [3]] 1 HM0.out (by decide) (by decide) (by decide) (by unfold Octets; decide)).mono ?_
  rintro e w1 ⟨v1, rfl, ho1, hb1⟩
  rw [ex_sum] at ho1
  have HB1 := Lib.hid (HB0.out.trans (hb1.mono HB0.out.size))
  have hsz1 := HB1.out.size
  have hk1 := (ListAt.of_owns ho1).str
  rw [ex_str] at hk1
  obtain ⟨ao, co, rfl, -, -⟩ := own_open ho1
  have HZ1 := Lib.hid (lit_bytes w1 [0] 1 rfl (by decide))
  have hz2 := lit_bytes (w1.alloc (.cells #[.int .u8 0] 5)) [0, 1] 2 rfl (by decide)
  rw [World.size_alloc] at hz2
  have HZ2 := Lib.hid hz2
  have HBA := Lib.hid (((Below.refl w1.heap.size w1).alloc (Nat.le_refl _) (.cells #[.int .u8 0] 5)).alloc (by simp) (.cells #[.int .u8 0, .int .u8 1] 5))
  have HB2 := Lib.hid (HB1.out.trans (HBA.out.mono hsz1))
  clear ho1 hb1 hz2
  go_wp2_with fail
  refine (Zero_any _ [0] HZ1.out).mono ?_
  rintro e w2 ⟨rfl, rfl⟩
  rw [show zeroB [0] = true from rfl]
  go_wp2_with fail
  refine (Zero_any _ [0, 1] HZ2.out).mono ?_
  rintro e w2 ⟨rfl, rfl⟩
  rw [show zeroB [0, 1] = false from rfl]
  go_wp2
  go_ret
  exact ⟨rfl, HB2.out⟩
end Go.Proofs.YtibgddfnkfhlfaaDoor
