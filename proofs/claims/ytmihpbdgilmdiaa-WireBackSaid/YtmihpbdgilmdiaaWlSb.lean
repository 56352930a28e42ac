/- The landed package wire: Same, part b of its ways (layer 16). (Made by gensamel.py.) -/
import Derived.Test.YtmihpbdgilmdiaaJ8
import Derived.Test.YtmihpbdgilmdiaaJ7
import Derived.Test.YtmihpbdgilmdiaaWrC
namespace Go.Proofs.Ytmihpbdgilmdiaa
open Go.RowKit Go.Extern.Stop Go.Stop Go.Extern

set_option linter.unusedSimpArgs false in
set_option linter.unusedVariables false in
set_option maxRecDepth 1000000 in
set_option maxHeartbeats 8000000 in
theorem wlSame_b {w : World} (p q : Pkt) (D E : Value) (hD : ListAt byteV w D p.data) (hE : ListAt byteV w E q.data) (hF : FitsP p) (hF' : FitsP q) (h0 : ((p.kind == q.kind) && (p.session == q.session) && (p.layer == q.layer) && (p.tick == q.tick) && (p.burst == q.burst) && (p.sync == q.sync) && (p.many == q.many) && (p.place == q.place)) = true) (h1 : ((p.block == q.block) && (p.esi == q.esi) && decide (p.data = q.data) && decide (p.size = q.size ∧ p.symbol = q.symbol ∧ p.blocks = q.blocks ∧ p.long = q.long ∧ p.short = q.short)) = false) :
    Calls Try.prog 6 #[pktV p D, pktV q E] w fun e w' => e = .returned (.bool (decide (p = q))) ∧ Below w.heap.size w w' := by
  obtain ⟨W1, hW1, hb1, hx1⟩ := pkt_laid w p D
  obtain ⟨W2, hW2, hb2, hx2⟩ := pkt_laid W1 q E
  have hsz : W1.heap.size = w.heap.size + 1 := by rw [hW1]; exact World.size_alloc ..
  have HB2 := Lib.hid (hb1.trans (hb2.mono hb1.size))
  have HEQ := Lib.hid (ckEqual_any D E _ _ (hD.mono HB2.out) (hE.mono HB2.out) hF.octs hF'.octs)
  have hq1 := (hx1.mono hb2).cells
  have hq2 := hx2.cells
  rw [hsz] at hq2
  have hw1 : w.alloc (.cells (pktC p D) 26) = W1 := hW1.symm
  have hw2 : W1.alloc (.cells (pktC q E) 26) = W2 := hW2.symm
  have hws : W1.heap.size = w.heap.size + 1 := hsz
  have HR := Lib.hid (pkt_same p q)
  have hpe := fun w : World => plan_eql w p.size p.symbol p.blocks p.long p.short q.size q.symbol q.blocks q.long q.short
  have hpg := plan_guard
  clear hW1 hW2 hb1 hb2 hx1 hx2 hsz hD hE hF hF'
  obtain ⟨a0, a1, a2, a3, a4, a5, a6, a7, a8, a9, a10, a11, a12, a13, a14, a15, a16, a17, a18, a19⟩ := hq1
  obtain ⟨b0, b1, b2, b3, b4, b5, b6, b7, b8, b9, b10, b11, b12, b13, b14, b15, b16, b17, b18, b19⟩ := hq2
  unfold pktC at hw1 hw2
  unfold pktV pktC
  obtain ⟨x0, hx0⟩ : ∃ B : Bool, (p.kind == q.kind) = B := ⟨_, rfl⟩
  obtain ⟨x1, hx1⟩ : ∃ B : Bool, (p.session == q.session) = B := ⟨_, rfl⟩
  obtain ⟨x2, hx2⟩ : ∃ B : Bool, (p.layer == q.layer) = B := ⟨_, rfl⟩
  obtain ⟨x3, hx3⟩ : ∃ B : Bool, (p.tick == q.tick) = B := ⟨_, rfl⟩
  obtain ⟨x4, hx4⟩ : ∃ B : Bool, (p.burst == q.burst) = B := ⟨_, rfl⟩
  obtain ⟨x5, hx5⟩ : ∃ B : Bool, (p.sync == q.sync) = B := ⟨_, rfl⟩
  obtain ⟨x6, hx6⟩ : ∃ B : Bool, (p.many == q.many) = B := ⟨_, rfl⟩
  obtain ⟨x7, hx7⟩ : ∃ B : Bool, (p.place == q.place) = B := ⟨_, rfl⟩
  obtain ⟨x8, hx8⟩ : ∃ B : Bool, (p.block == q.block) = B := ⟨_, rfl⟩
  obtain ⟨x9, hx9⟩ : ∃ B : Bool, (p.esi == q.esi) = B := ⟨_, rfl⟩
  obtain ⟨x10, hx10⟩ : ∃ B : Bool, decide (p.data = q.data) = B := ⟨_, rfl⟩
  obtain ⟨x11, hx11⟩ : ∃ B : Bool, decide (p.size = q.size ∧ p.symbol = q.symbol ∧ p.blocks = q.blocks ∧ p.long = q.long ∧ p.short = q.short) = B := ⟨_, rfl⟩
  obtain ⟨x12, hx12⟩ : ∃ B : Bool, (p.layers == q.layers) = B := ⟨_, rfl⟩
  obtain ⟨x13, hx13⟩ : ∃ B : Bool, (p.esis == q.esis) = B := ⟨_, rfl⟩
  obtain ⟨x14, hx14⟩ : ∃ B : Bool, (p.base == q.base) = B := ⟨_, rfl⟩
  obtain ⟨x15, hx15⟩ : ∃ B : Bool, (p.length == q.length) = B := ⟨_, rfl⟩
  have HXF : Hid ((x8 && x9 && x10 && x11) = false) := Lib.hid (by rw [← h1, hx8, hx9, hx10, hx11])
  clear h1
  have HX : Hid (((x0 && x1 && x2 && x3 && x4 && x5) && (x6 && x7 && x8 && x9 && x10) && (x11 && x12 && x13 && x14 && x15)) = decide (p = q)) := Lib.hid (HR.out _ (by
    simp only [← hx0, ← hx1, ← hx2, ← hx3, ← hx4, ← hx5, ← hx6, ← hx7, ← hx8, ← hx9, ← hx10, ← hx11, ← hx12, ← hx13, ← hx14, ← hx15, Bool.and_eq_true, beq_iff_eq, decide_eq_true_eq, and_assoc]))
  simp only [Bool.and_eq_true] at h0
  obtain ⟨⟨⟨⟨⟨⟨⟨z0, z1⟩, z2⟩, z3⟩, z4⟩, z5⟩, z6⟩, z7⟩ := h0
  rw [hx10] at HEQ
  rw [hx11] at hpe
  rw [hx0] at z0
  subst z0
  rw [hx1] at z1
  subst z1
  rw [hx2] at z2
  subst z2
  rw [hx3] at z3
  subst z3
  rw [hx4] at z4
  subst z4
  rw [hx5] at z5
  subst z5
  rw [hx6] at z6
  subst z6
  rw [hx7] at z7
  subst z7
  clear hx10 hx11 HR
  go_enter Try.func6, Try.ntmps6
  cases x8 with
  | false =>
    clear a9 b9 a10 b10 a11 b11 a12 b12 a13 b13 a14 b14 a15 b15 a16 b16 a17 b17 a18 b18 a19 b19 hpe hpg HEQ
    go_wp2
    go_ret
    exact ⟨by rw [← HX.out]; simp, HB2.out⟩
  | true =>
    cases x9 with
    | false =>
      clear a10 b10 a11 b11 a12 b12 a13 b13 a14 b14 a15 b15 a16 b16 a17 b17 a18 b18 a19 b19 hpe hpg HEQ
      go_wp2
      go_ret
      exact ⟨by rw [← HX.out]; simp, HB2.out⟩
    | true =>
      cases x10 with
      | false =>
        clear a11 b11 a12 b12 a13 b13 a14 b14 a15 b15 a16 b16 a17 b17 a18 b18 a19 b19 hpe hpg
        go_wp2_with fail
        refine HEQ.out.mono ?_
        rintro e w1 ⟨rfl, rfl⟩
        go_wp2
        go_ret
        exact ⟨by rw [← HX.out]; simp, HB2.out⟩
      | true =>
        cases x11 with
        | false =>
          clear a16 b16 a17 b17 a18 b18 a19 b19
          go_wp2_with fail
          refine HEQ.out.mono ?_
          rintro e w1 ⟨rfl, rfl⟩
          go_wp2
          go_ret
          exact ⟨by rw [← HX.out]; simp, HB2.out⟩
        | true =>
          exact absurd HXF.out (by simp)
end Go.Proofs.Ytmihpbdgilmdiaa
