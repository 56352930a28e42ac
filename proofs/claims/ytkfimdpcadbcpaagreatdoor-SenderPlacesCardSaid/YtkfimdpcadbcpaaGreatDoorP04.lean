import Derived.Laws.CopyOwn
import Derived.Test.YtkfimdpcadbcpaaGreatDoorP03
import Derived.Test.YtkfimdpcadbcpaaGreatDoorP01
import Derived.Test.YtkfimdpcadbcpaaGreatDoorP02
import Derived.Test.YtkfimdpcadbcpaaGreatDoorA33
set_option linter.unusedSimpArgs false
set_option linter.unusedVariables false
set_option maxRecDepth 1000000
set_option maxHeartbeats 8000000
namespace Go.Proofs.YtkfimdpcadbcpaaGreatDoor
section
open Go.RowKit Go.Extern.Stop Go.Stop Go.Extern
theorem yAT {w : World} (v : Value) (c : List Nat) (kd : Int) (hk : kd = 1) (h : ListAt byteV w v c) (ho : Octets c) (hR : c.length ≤ 140737488351248) : Calls Tryz.prog 44 #[v, .int .i64 kd] w fun e w' =>
    ∃ v', e = .returned v' ∧ PktNew w.heap.size w' v' (gsD c kd) ∧ Below w.heap.size w w' := by
  obtain ⟨i0, hi0, hz0, hz1, hz2⟩ := info_parts zAY
  have HL := lhd h
  have hlen := h.len
  have HF0 : Hid (∀ X : Obj, Below w.heap.size w (w.alloc X)) := lhd fun X => (Below.refl _ _).alloc (Nat.le_refl _) X
  have HF2 : Hid (∀ X Y : Obj, Below w.heap.size w ((w.alloc X).alloc Y)) := lhd fun X Y => ((Below.refl _ _).alloc (Nat.le_refl _) X).alloc (by rw [World.size_alloc]; omega) Y
  have e1 : (kd == 1) = true := by simp [hk]
  have HN1 : Hid (∀ V : World, Below w.heap.size w V → Calls Tryz.prog 71 #[v, .int .i64 1, .int .i64 2] V fun e w' => e = .returned (.int .i64 ((numA c 1 2 : Nat) : Int)) ∧ w' = V) := lhd fun V hV => yAa v c 1 2 (h.mono hV) ho (by decide) (by decide)
  have hb1 : numA c 1 2 < 256 ^ 2 := yAb c ho 1 2
  simp only [show (256 : Nat) ^ 2 = 65536 by decide] at hb1
  have HN3 : Hid (∀ V : World, Below w.heap.size w V → Calls Tryz.prog 71 #[v, .int .i64 3, .int .i64 1] V fun e w' => e = .returned (.int .i64 ((numA c 3 1 : Nat) : Int)) ∧ w' = V) := lhd fun V hV => yAa v c 3 1 (h.mono hV) ho (by decide) (by decide)
  have hb3 : numA c 3 1 < 256 ^ 1 := yAb c ho 3 1
  simp only [show (256 : Nat) ^ 1 = 256 by decide] at hb3
  have HN4 : Hid (∀ V : World, Below w.heap.size w V → Calls Tryz.prog 71 #[v, .int .i64 4, .int .i64 5] V fun e w' => e = .returned (.int .i64 ((numA c 4 5 : Nat) : Int)) ∧ w' = V) := lhd fun V hV => yAa v c 4 5 (h.mono hV) ho (by decide) (by decide)
  have hb4 : numA c 4 5 < 256 ^ 5 := yAb c ho 4 5
  simp only [show (256 : Nat) ^ 5 = 1099511627776 by decide] at hb4
  have HN9 : Hid (∀ V : World, Below w.heap.size w V → Calls Tryz.prog 71 #[v, .int .i64 9, .int .i64 1] V fun e w' => e = .returned (.int .i64 ((numA c 9 1 : Nat) : Int)) ∧ w' = V) := lhd fun V hV => yAa v c 9 1 (h.mono hV) ho (by decide) (by decide)
  have hb9 : numA c 9 1 < 256 ^ 1 := yAb c ho 9 1
  simp only [show (256 : Nat) ^ 1 = 256 by decide] at hb9
  have HN10 : Hid (∀ V : World, Below w.heap.size w V → Calls Tryz.prog 71 #[v, .int .i64 10, .int .i64 2] V fun e w' => e = .returned (.int .i64 ((numA c 10 2 : Nat) : Int)) ∧ w' = V) := lhd fun V hV => yAa v c 10 2 (h.mono hV) ho (by decide) (by decide)
  have hb10 : numA c 10 2 < 256 ^ 2 := yAb c ho 10 2
  simp only [show (256 : Nat) ^ 2 = 65536 by decide] at hb10
  have HN12 : Hid (∀ V : World, Below w.heap.size w V → Calls Tryz.prog 71 #[v, .int .i64 12, .int .i64 2] V fun e w' => e = .returned (.int .i64 ((numA c 12 2 : Nat) : Int)) ∧ w' = V) := lhd fun V hV => yAa v c 12 2 (h.mono hV) ho (by decide) (by decide)
  have hb12 : numA c 12 2 < 256 ^ 2 := yAb c ho 12 2
  simp only [show (256 : Nat) ^ 2 = 65536 by decide] at hb12
  have HN14 : Hid (∀ V : World, Below w.heap.size w V → Calls Tryz.prog 71 #[v, .int .i64 14, .int .i64 1] V fun e w' => e = .returned (.int .i64 ((numA c 14 1 : Nat) : Int)) ∧ w' = V) := lhd fun V hV => yAa v c 14 1 (h.mono hV) ho (by decide) (by decide)
  have hb14 : numA c 14 1 < 256 ^ 1 := yAb c ho 14 1
  simp only [show (256 : Nat) ^ 1 = 256 by decide] at hb14
  have HN15 : Hid (∀ V : World, Below w.heap.size w V → Calls Tryz.prog 71 #[v, .int .i64 15, .int .i64 2] V fun e w' => e = .returned (.int .i64 ((numA c 15 2 : Nat) : Int)) ∧ w' = V) := lhd fun V hV => yAa v c 15 2 (h.mono hV) ho (by decide) (by decide)
  have hb15 : numA c 15 2 < 256 ^ 2 := yAb c ho 15 2
  simp only [show (256 : Nat) ^ 2 = 65536 by decide] at hb15
  obtain rfl := hk
  obtain ⟨x1, hx1⟩ : ∃ x, x = numA c 1 2 := ⟨_, rfl⟩
  rw [← hx1] at HN1 hb1
  obtain ⟨x3, hx3⟩ : ∃ x, x = numA c 3 1 := ⟨_, rfl⟩
  rw [← hx3] at HN3 hb3
  obtain ⟨x4, hx4⟩ : ∃ x, x = numA c 4 5 := ⟨_, rfl⟩
  rw [← hx4] at HN4 hb4
  obtain ⟨x9, hx9⟩ : ∃ x, x = numA c 9 1 := ⟨_, rfl⟩
  rw [← hx9] at HN9 hb9
  obtain ⟨x10, hx10⟩ : ∃ x, x = numA c 10 2 := ⟨_, rfl⟩
  rw [← hx10] at HN10 hb10
  obtain ⟨x12, hx12⟩ : ∃ x, x = numA c 12 2 := ⟨_, rfl⟩
  rw [← hx12] at HN12 hb12
  obtain ⟨x14, hx14⟩ : ∃ x, x = numA c 14 1 := ⟨_, rfl⟩
  rw [← hx14] at HN14 hb14
  obtain ⟨x15, hx15⟩ : ∃ x, x = numA c 15 2 := ⟨_, rfl⟩
  rw [← hx15] at HN15 hb15
  have HX : Hid (x1 = numA c 1 2 ∧ x3 = numA c 3 1 ∧ x4 = numA c 4 5 ∧ x9 = numA c 9 1 ∧ x10 = numA c 10 2 ∧ x12 = numA c 12 2 ∧ x14 = numA c 14 1 ∧ x15 = numA c 15 2) := lhd ⟨hx1, hx3, hx4, hx9, hx10, hx12, hx14, hx15⟩
  clear hx1 hx3 hx4 hx9 hx10 hx12 hx14 hx15
  have hm9 : (x9 : Int) % 128 = ((x9 % 128 : Nat) : Int) := by omega
  have hm9T : (x9 : Int).tmod 128 = ((x9 % 128 : Nat) : Int) := rfl
  have hr9 : x9 % 128 < 128 := by omega
  have hdB : decide ((128 : Int) ≤ (x9 : Int)) = decide (128 ≤ x9) := decide_eq_decide.2 (by omega)
  obtain ⟨bu, hbu⟩ : ∃ b : Bool, b = decide (128 ≤ x9) := ⟨_, rfl⟩
  obtain ⟨r9, hr9e⟩ : ∃ r, r = x9 % 128 := ⟨_, rfl⟩
  rw [← hbu] at hdB
  rw [← hr9e] at hm9 hm9T hr9
  have HE9 := lhd hr9e
  have HBU := lhd hbu
  have hws : IntKind.i64.wrap ((r9 : Int) - 1) = (r9 : Int) - 1 := IntWalk.i64_in _ (by omega)
  obtain ⟨ad, cap, rfl, hcap, hcm, hcell⟩ := h
  have hcb : cap ≤ 9223372036854775807 := hcm
  have HC := lhd hcell
  clear hr9e hbu hcell
  go_enter Tryz.func44, Tryz.ntmps44
  go_upto_region 10 with (first
    | (go_at_call 71; (first | (with_reducible refine (HN1.out _ (by first | with_reducible exact HF2.out _ _ | with_reducible exact HF0.out _)).mono ?_) | (with_reducible refine (HN3.out _ (by first | with_reducible exact HF2.out _ _ | with_reducible exact HF0.out _)).mono ?_) | (with_reducible refine (HN4.out _ (by first | with_reducible exact HF2.out _ _ | with_reducible exact HF0.out _)).mono ?_) | (with_reducible refine (HN9.out _ (by first | with_reducible exact HF2.out _ _ | with_reducible exact HF0.out _)).mono ?_) | (with_reducible refine (HN10.out _ (by first | with_reducible exact HF2.out _ _ | with_reducible exact HF0.out _)).mono ?_) | (with_reducible refine (HN12.out _ (by first | with_reducible exact HF2.out _ _ | with_reducible exact HF0.out _)).mono ?_) | (with_reducible refine (HN14.out _ (by first | with_reducible exact HF2.out _ _ | with_reducible exact HF0.out _)).mono ?_) | (with_reducible refine (HN15.out _ (by first | with_reducible exact HF2.out _ _ | with_reducible exact HF0.out _)).mono ?_)); rintro e _ ⟨rfl, rfl⟩)
    | ((with_reducible show wpList _ _ _ (⟨some 14, _, _, _, _, _⟩ :: _) _ _); refine zAk rfl 63 _ rfl #[.int .i64 1, .int .i64 (x1 : Int), .int .i64 (x3 : Int), .int .i64 (x4 : Int), .bool false, .int .i64 0, .int .i64 0, .int .i64 0, .int .i64 0, .int .i64 0, .slice none 0 0, .int .i64 0, .int .i64 0, .int .i64 0, .int .i64 0, .int .i64 0, .int .i64 0, .int .i64 0, .int .i64 0, .int .i64 0] (by kernel_rfl) ?_)
    | ((with_reducible show wpList _ _ _ (⟨none, _, _, _, _, _⟩ :: _) _ _); refine yAe _ rfl 63 (.tmp 5) (.tmp 14) rfl rfl rfl (by kernel_rfl) (by rfl) (by kernel_rfl) ?_))
  have HGS : Hid (∀ (Dv : Value), pktV (gsD c 1) Dv = .agg #[.int .i64 1, .int .i64 (x1 : Int), .int .i64 (x3 : Int), .int .i64 (x4 : Int), .bool bu, .int .i64 ((r9 : Int) - 1), .int .i64 (x10 : Int), .int .i64 (x12 : Int), .int .i64 (x14 : Int), .int .i64 (x15 : Int), Dv, .int .i64 0, .int .i64 0, .int .i64 0, .int .i64 0, .int .i64 0, .int .i64 0, .int .i64 0, .int .i64 0, .int .i64 0]) := lhd fun Dv => by
    obtain ⟨h1, h3, h4, h9, h10, h12, h14, h15⟩ := HX.out
    unfold pktV pktC gsD
    rw [← h1, ← h3, ← h4, ← h9, ← h10, ← h12, ← h14, ← h15, ← HE9.out, ← HBU.out]
  have HGD : Hid ((gsD c 1).data = c.drop 17) := lhd rfl
  by_cases hlong : 17 < c.length
  · have d1 : decide ((17 : Int) < (c.length : Int)) = true := decide_eq_true (by omega)
    obtain ⟨b, off, rfl, -⟩ := HC.out (by omega)
    go_upto_region 11 with fail
    obtain ⟨W2, hW2⟩ : ∃ W2 : World, W2 = ((w.alloc (.cells #[.int .i64 0, .int .i64 0, .int .i64 0, .int .i64 0, .bool false, .int .i64 0, .int .i64 0, .int .i64 0, .int .i64 0, .int .i64 0, .slice none 0 0, .int .i64 0, .int .i64 0, .int .i64 0, .int .i64 0, .int .i64 0, .int .i64 0, .int .i64 0, .int .i64 0, .int .i64 0] 63)).alloc (.cells #[.int .i64 1, .int .i64 (x1 : Int), .int .i64 (x3 : Int), .int .i64 (x4 : Int), .bool bu, .int .i64 ((r9 : Int) - 1), .int .i64 (x10 : Int), .int .i64 (x12 : Int), .int .i64 (x14 : Int), .int .i64 (x15 : Int), .slice none 0 0, .int .i64 0, .int .i64 0, .int .i64 0, .int .i64 0, .int .i64 0, .int .i64 0, .int .i64 0, .int .i64 0, .int .i64 0] 63)) := ⟨_, rfl⟩
    rw [← hW2]
    have hBW : Below w.heap.size w W2 := by rw [hW2]; exact HF2.out _ _
    have HBW := lhd hBW
    have HXW : Hid (W2.heap[w.heap.size]? = some (.cells #[.int .i64 0, .int .i64 0, .int .i64 0, .int .i64 0, .bool false, .int .i64 0, .int .i64 0, .int .i64 0, .int .i64 0, .int .i64 0, .slice none 0 0, .int .i64 0, .int .i64 0, .int .i64 0, .int .i64 0, .int .i64 0, .int .i64 0, .int .i64 0, .int .i64 0, .int .i64 0] 63 (0, 0))) := lhd (by rw [hW2]; exact yAo w _ _)
    have HPW : Hid (W2.heap[w.heap.size + 1]? = some (.cells #[.int .i64 1, .int .i64 (x1 : Int), .int .i64 (x3 : Int), .int .i64 (x4 : Int), .bool bu, .int .i64 ((r9 : Int) - 1), .int .i64 (x10 : Int), .int .i64 (x12 : Int), .int .i64 (x14 : Int), .int .i64 (x15 : Int), .slice none 0 0, .int .i64 0, .int .i64 0, .int .i64 0, .int .i64 0, .int .i64 0, .int .i64 0, .int .i64 0, .int .i64 0, .int .i64 0] 63 (0, 0))) := lhd (by
      have h := heap_alloc_new (w.alloc (.cells #[.int .i64 0, .int .i64 0, .int .i64 0, .int .i64 0, .bool false, .int .i64 0, .int .i64 0, .int .i64 0, .int .i64 0, .int .i64 0, .slice none 0 0, .int .i64 0, .int .i64 0, .int .i64 0, .int .i64 0, .int .i64 0, .int .i64 0, .int .i64 0, .int .i64 0, .int .i64 0] 63)) (.cells #[.int .i64 1, .int .i64 (x1 : Int), .int .i64 (x3 : Int), .int .i64 (x4 : Int), .bool bu, .int .i64 ((r9 : Int) - 1), .int .i64 (x10 : Int), .int .i64 (x12 : Int), .int .i64 (x14 : Int), .int .i64 (x15 : Int), .slice none 0 0, .int .i64 0, .int .i64 0, .int .i64 0, .int .i64 0, .int .i64 0, .int .i64 0, .int .i64 0, .int .i64 0, .int .i64 0] 63)
      rw [World.size_alloc] at h
      rw [hW2]; exact h)
    have hsz : W2.heap.size = w.heap.size + 1 + 1 := by rw [hW2, World.size_alloc, World.size_alloc]
    have HSZ := lhd hsz
    have HOS := lhd (World.ownsRow_made (base := W2.heap.size) (e := 5) (size := 1) W2 #[] 0 (Nat.le_refl _) (by decide) rfl)
    have HB3 := lhd ((Below.refl W2.heap.size W2).alloc (Nat.le_refl _) (.cells #[] 5))
    have HL3 := lhd ((yAR (HL.out.mono hBW) 17 hlong).mono HB3.out)
    have h17 : (17 : Int) ≤ (cap : Int) := by omega
    have HFF : Hid (∀ V, Below W2.heap.size W2 V → V.heap[w.heap.size + 1]? = some (.cells #[.int .i64 1, .int .i64 (x1 : Int), .int .i64 (x3 : Int), .int .i64 (x4 : Int), .bool bu, .int .i64 ((r9 : Int) - 1), .int .i64 (x10 : Int), .int .i64 (x12 : Int), .int .i64 (x14 : Int), .int .i64 (x15 : Int), .slice none 0 0, .int .i64 0, .int .i64 0, .int .i64 0, .int .i64 0, .int .i64 0, .int .i64 0, .int .i64 0, .int .i64 0, .int .i64 0] 63 (0, 0)) ∧ V.heap[w.heap.size]? = some (.cells #[.int .i64 0, .int .i64 0, .int .i64 0, .int .i64 0, .bool false, .int .i64 0, .int .i64 0, .int .i64 0, .int .i64 0, .int .i64 0, .slice none 0 0, .int .i64 0, .int .i64 0, .int .i64 0, .int .i64 0, .int .i64 0, .int .i64 0, .int .i64 0, .int .i64 0, .int .i64 0] 63 (0, 0))) := lhd fun V hV => ⟨(hV.block _ (by rw [HSZ.out]; omega)).trans HPW.out, (hV.block _ (by rw [HSZ.out]; omega)).trans HXW.out⟩
    have hdl : (c.drop 17).length = c.length - 17 := List.length_drop
    have HDL := lhd hdl
    clear hW2 hBW hsz hdl
    go_wp2_with (first
      | (at_builtin; refine zAB _ rfl (.tmp 41) (.tmp 43) 31 rfl W2.heap.size 5 i0 (.int .u8 0) 1 Tryz.underlying31 hi0 hz0 hz1 hz2 rfl (.slice (some ⟨W2.heap.size, 0, none⟩) 0 0) 0 [] rfl HOS.out (.slice (some ⟨b, off + 17, none⟩) (c.length - 17) (cap - 17)) (c.drop 17) rfl HL3.out (fun y _ => rfl) (by rw [HDL.out]; unfold maxLen; omega) (by rw [HDL.out]; omega) (by simp) ?_; intro v7 w7 ho7 hg7; have HO7 := lhd (show w7.ownsRow W2.heap.size 5 1 v7 (c.length - 17) ((c.drop 17).map byteV) by rw [← HDL.out]; simpa using ho7); have HB7 := lhd (HB3.out.grown hg7 (by simp) (fun k hk => (HOS.out.lt k hk).1)); obtain ⟨a7, c7, hv7, -, -⟩ := zAe HO7.out; subst hv7; obtain ⟨hp7, hz7⟩ := HFF.out _ HB7.out; have q7 := zAa (j := 10) (u := nilS) hp7 rfl; have f7 := zAb (j := 10) hp7; have HP8 : Hid ((w7.setCell ⟨w.heap.size + 1, 10, none⟩ (.slice a7 (c.length - 17) c7)).heap[w.heap.size + 1]? = some (.cells #[.int .i64 1, .int .i64 (x1 : Int), .int .i64 (x3 : Int), .int .i64 (x4 : Int), .bool bu, .int .i64 ((r9 : Int) - 1), .int .i64 (x10 : Int), .int .i64 (x12 : Int), .int .i64 (x14 : Int), .int .i64 (x15 : Int), .slice a7 (c.length - 17) c7, .int .i64 0, .int .i64 0, .int .i64 0, .int .i64 0, .int .i64 0, .int .i64 0, .int .i64 0, .int .i64 0, .int .i64 0] 63 (0, 0))) := lhd (zAc hp7); have HZ8 : Hid ((w7.setCell ⟨w.heap.size + 1, 10, none⟩ (.slice a7 (c.length - 17) c7)).heap[w.heap.size]? = some (.cells #[.int .i64 0, .int .i64 0, .int .i64 0, .int .i64 0, .bool false, .int .i64 0, .int .i64 0, .int .i64 0, .int .i64 0, .int .i64 0, .slice none 0 0, .int .i64 0, .int .i64 0, .int .i64 0, .int .i64 0, .int .i64 0, .int .i64 0, .int .i64 0, .int .i64 0, .int .i64 0] 63 (0, 0))) := lhd (by rw [Below.heap_setCell _ _ _ _ (show w.heap.size ≠ w.heap.size + 1 by omega)]; exact hz7); clear ho7 hg7 hp7 hz7)
      | ((with_reducible show wpList _ _ _ (⟨some 46, _, _, _, _, _⟩ :: _) _ _); refine wpList_load_row rfl 63 (.tmp 5) rfl (w.heap.size + 1) rfl 63 #[.int .i64 1, .int .i64 (x1 : Int), .int .i64 (x3 : Int), .int .i64 (x4 : Int), .bool bu, .int .i64 ((r9 : Int) - 1), .int .i64 (x10 : Int), .int .i64 (x12 : Int), .int .i64 (x14 : Int), .int .i64 (x15 : Int), .slice a7 (c.length - 17) c7, .int .i64 0, .int .i64 0, .int .i64 0, .int .i64 0, .int .i64 0, .int .i64 0, .int .i64 0, .int .i64 0, .int .i64 0] (0, 0) _ HP8.out Tryz.underlying63 rfl (by kernel_rfl) ?_)
      | ((with_reducible show wpList _ _ _ (⟨none, _, _, _, _, _⟩ :: _) _ _); refine wpList_store_row rfl 63 (.tmp 4) (.tmp 46) rfl w.heap.size #[.int .i64 1, .int .i64 (x1 : Int), .int .i64 (x3 : Int), .int .i64 (x4 : Int), .bool bu, .int .i64 ((r9 : Int) - 1), .int .i64 (x10 : Int), .int .i64 (x12 : Int), .int .i64 (x14 : Int), .int .i64 (x15 : Int), .slice a7 (c.length - 17) c7, .int .i64 0, .int .i64 0, .int .i64 0, .int .i64 0, .int .i64 0, .int .i64 0, .int .i64 0, .int .i64 0, .int .i64 0] rfl rfl 63 #[.int .i64 0, .int .i64 0, .int .i64 0, .int .i64 0, .bool false, .int .i64 0, .int .i64 0, .int .i64 0, .int .i64 0, .int .i64 0, .slice none 0 0, .int .i64 0, .int .i64 0, .int .i64 0, .int .i64 0, .int .i64 0, .int .i64 0, .int .i64 0, .int .i64 0, .int .i64 0] HZ8.out (by kernel_rfl) (by rfl) (by kernel_rfl) ?_))
    have HB8 := lhd (HBW.out.trans (HB7.out.mono (by rw [HSZ.out]; omega)))
    obtain ⟨hp7, hz7⟩ := HFF.out _ HB7.out
    refine bodyPost_ret (yAq rfl _ _ w.heap.size 63 _ (0, 0) _ rfl (setRow_heap _ _ _ _ _ _ HZ8.out) Tryz.underlying63 rfl (by kernel_rfl)) rfl ?_
    refine ⟨_, rfl, ⟨.slice a7 (c.length - 17) c7, (HGS.out _).symm, ?_, fun b hb => Nat.le_trans (by rw [HSZ.out]; omega) (HO7.out.lt b hb).1⟩, below_setRow (HB8.out.setCell (p := ⟨w.heap.size + 1, 10, none⟩) (by simp) _) (Nat.le_refl _) _⟩
    rw [HGD.out]
    refine ListAt.of_owns (f := byteV) (zAp HO7.out fun g cur hg => ?_)
    have n0 : g ≠ w.heap.size := by
      rintro rfl
      rw [hz7] at hg
      cases hg
    have n1 : g ≠ w.heap.size + 1 := by
      rintro rfl
      rw [hp7] at hg
      cases hg
    rw [setRow_other _ _ _ _ n0, Below.heap_setCell _ _ _ _ n1]
  · have d1 : decide ((17 : Int) < (c.length : Int)) = false := decide_eq_false (by omega)
    have HNIL : Hid ((gsD c 1).data = []) := lhd (by rw [HGD.out]; exact List.drop_eq_nil_of_le (by omega))
    go_wp2_with (first
      | ((with_reducible show wpList _ _ _ (⟨some 46, _, _, _, _, _⟩ :: _) _ _); refine yAg rfl 63 (.tmp 5) rfl rfl _ Tryz.underlying63 rfl (by kernel_rfl) ?_)
      | ((with_reducible show wpList _ _ _ (⟨none, _, _, _, _, _⟩ :: _) _ _); refine yAd _ rfl 63 (.tmp 4) (.tmp 46) rfl rfl rfl (by kernel_rfl) (by rfl) (by kernel_rfl) ?_))
    refine bodyPost_ret (yAq rfl _ _ w.heap.size 63 _ (0, 0) _ rfl (yAo w _ _) Tryz.underlying63 rfl (by kernel_rfl)) rfl ?_
    exact ⟨_, rfl, ⟨nilS, (HGS.out _).symm, by rw [HNIL.out]; exact ListAt.nil _ _, fun b hb => by simp [Value.ownBlock] at hb⟩, HF2.out _ _⟩
end

section
open Go.RowKit Go.Extern.Stop Go.Stop Go.Extern
theorem yAQ {w : World} (v : Value) (c : List Nat) (kd : Int) (hk : ¬ kd = 1) (h : ListAt byteV w v c) (ho : Octets c) (hR : c.length ≤ 140737488351248) : Calls Tryz.prog 44 #[v, .int .i64 kd] w fun e w' =>
    ∃ v', e = .returned v' ∧ PktNew w.heap.size w' v' (gsA c kd) ∧ Below w.heap.size w w' := by
  obtain ⟨i0, hi0, hz0, hz1, hz2⟩ := info_parts zAY
  have HL := lhd h
  have hlen := h.len
  have HF0 : Hid (∀ X : Obj, Below w.heap.size w (w.alloc X)) := lhd fun X => (Below.refl _ _).alloc (Nat.le_refl _) X
  have HF2 : Hid (∀ X Y : Obj, Below w.heap.size w ((w.alloc X).alloc Y)) := lhd fun X Y => ((Below.refl _ _).alloc (Nat.le_refl _) X).alloc (by rw [World.size_alloc]; omega) Y
  have e1 : (kd == 1) = false := by simp [hk]
  have HN1 : Hid (∀ V : World, Below w.heap.size w V → Calls Tryz.prog 71 #[v, .int .i64 1, .int .i64 2] V fun e w' => e = .returned (.int .i64 ((numA c 1 2 : Nat) : Int)) ∧ w' = V) := lhd fun V hV => yAa v c 1 2 (h.mono hV) ho (by decide) (by decide)
  have hb1 : numA c 1 2 < 256 ^ 2 := yAb c ho 1 2
  simp only [show (256 : Nat) ^ 2 = 65536 by decide] at hb1
  have HN3 : Hid (∀ V : World, Below w.heap.size w V → Calls Tryz.prog 71 #[v, .int .i64 3, .int .i64 1] V fun e w' => e = .returned (.int .i64 ((numA c 3 1 : Nat) : Int)) ∧ w' = V) := lhd fun V hV => yAa v c 3 1 (h.mono hV) ho (by decide) (by decide)
  have hb3 : numA c 3 1 < 256 ^ 1 := yAb c ho 3 1
  simp only [show (256 : Nat) ^ 1 = 256 by decide] at hb3
  have HN4 : Hid (∀ V : World, Below w.heap.size w V → Calls Tryz.prog 71 #[v, .int .i64 4, .int .i64 5] V fun e w' => e = .returned (.int .i64 ((numA c 4 5 : Nat) : Int)) ∧ w' = V) := lhd fun V hV => yAa v c 4 5 (h.mono hV) ho (by decide) (by decide)
  have hb4 : numA c 4 5 < 256 ^ 5 := yAb c ho 4 5
  simp only [show (256 : Nat) ^ 5 = 1099511627776 by decide] at hb4
  have HN9 : Hid (∀ V : World, Below w.heap.size w V → Calls Tryz.prog 71 #[v, .int .i64 9, .int .i64 4] V fun e w' => e = .returned (.int .i64 ((numA c 9 4 : Nat) : Int)) ∧ w' = V) := lhd fun V hV => yAa v c 9 4 (h.mono hV) ho (by decide) (by decide)
  have hb9 : numA c 9 4 < 256 ^ 4 := yAb c ho 9 4
  simp only [show (256 : Nat) ^ 4 = 4294967296 by decide] at hb9
  have HN13 : Hid (∀ V : World, Below w.heap.size w V → Calls Tryz.prog 71 #[v, .int .i64 13, .int .i64 1] V fun e w' => e = .returned (.int .i64 ((numA c 13 1 : Nat) : Int)) ∧ w' = V) := lhd fun V hV => yAa v c 13 1 (h.mono hV) ho (by decide) (by decide)
  have hb13 : numA c 13 1 < 256 ^ 1 := yAb c ho 13 1
  simp only [show (256 : Nat) ^ 1 = 256 by decide] at hb13
  have HN14 : Hid (∀ V : World, Below w.heap.size w V → Calls Tryz.prog 71 #[v, .int .i64 14, .int .i64 1] V fun e w' => e = .returned (.int .i64 ((numA c 14 1 : Nat) : Int)) ∧ w' = V) := lhd fun V hV => yAa v c 14 1 (h.mono hV) ho (by decide) (by decide)
  have hb14 : numA c 14 1 < 256 ^ 1 := yAb c ho 14 1
  simp only [show (256 : Nat) ^ 1 = 256 by decide] at hb14
  have HN15 : Hid (∀ V : World, Below w.heap.size w V → Calls Tryz.prog 71 #[v, .int .i64 15, .int .i64 1] V fun e w' => e = .returned (.int .i64 ((numA c 15 1 : Nat) : Int)) ∧ w' = V) := lhd fun V hV => yAa v c 15 1 (h.mono hV) ho (by decide) (by decide)
  have hb15 : numA c 15 1 < 256 ^ 1 := yAb c ho 15 1
  simp only [show (256 : Nat) ^ 1 = 256 by decide] at hb15
  have HN16 : Hid (∀ V : World, Below w.heap.size w V → Calls Tryz.prog 71 #[v, .int .i64 16, .int .i64 1] V fun e w' => e = .returned (.int .i64 ((numA c 16 1 : Nat) : Int)) ∧ w' = V) := lhd fun V hV => yAa v c 16 1 (h.mono hV) ho (by decide) (by decide)
  have hb16 : numA c 16 1 < 256 ^ 1 := yAb c ho 16 1
  simp only [show (256 : Nat) ^ 1 = 256 by decide] at hb16
  have HN17 : Hid (∀ V : World, Below w.heap.size w V → Calls Tryz.prog 71 #[v, .int .i64 17, .int .i64 1] V fun e w' => e = .returned (.int .i64 ((numA c 17 1 : Nat) : Int)) ∧ w' = V) := lhd fun V hV => yAa v c 17 1 (h.mono hV) ho (by decide) (by decide)
  have hb17 : numA c 17 1 < 256 ^ 1 := yAb c ho 17 1
  simp only [show (256 : Nat) ^ 1 = 256 by decide] at hb17
  have HN18 : Hid (∀ V : World, Below w.heap.size w V → Calls Tryz.prog 71 #[v, .int .i64 18, .int .i64 2] V fun e w' => e = .returned (.int .i64 ((numA c 18 2 : Nat) : Int)) ∧ w' = V) := lhd fun V hV => yAa v c 18 2 (h.mono hV) ho (by decide) (by decide)
  have hb18 : numA c 18 2 < 256 ^ 2 := yAb c ho 18 2
  simp only [show (256 : Nat) ^ 2 = 65536 by decide] at hb18
  have HN20 : Hid (∀ V : World, Below w.heap.size w V → Calls Tryz.prog 71 #[v, .int .i64 20, .int .i64 2] V fun e w' => e = .returned (.int .i64 ((numA c 20 2 : Nat) : Int)) ∧ w' = V) := lhd fun V hV => yAa v c 20 2 (h.mono hV) ho (by decide) (by decide)
  have hb20 : numA c 20 2 < 256 ^ 2 := yAb c ho 20 2
  simp only [show (256 : Nat) ^ 2 = 65536 by decide] at hb20
  have HN22 : Hid (∀ V : World, Below w.heap.size w V → Calls Tryz.prog 71 #[v, .int .i64 22, .int .i64 2] V fun e w' => e = .returned (.int .i64 ((numA c 22 2 : Nat) : Int)) ∧ w' = V) := lhd fun V hV => yAa v c 22 2 (h.mono hV) ho (by decide) (by decide)
  have hb22 : numA c 22 2 < 256 ^ 2 := yAb c ho 22 2
  simp only [show (256 : Nat) ^ 2 = 65536 by decide] at hb22
  obtain ⟨x1, hx1⟩ : ∃ x, x = numA c 1 2 := ⟨_, rfl⟩
  rw [← hx1] at HN1 hb1
  obtain ⟨x3, hx3⟩ : ∃ x, x = numA c 3 1 := ⟨_, rfl⟩
  rw [← hx3] at HN3 hb3
  obtain ⟨x4, hx4⟩ : ∃ x, x = numA c 4 5 := ⟨_, rfl⟩
  rw [← hx4] at HN4 hb4
  obtain ⟨x9, hx9⟩ : ∃ x, x = numA c 9 4 := ⟨_, rfl⟩
  rw [← hx9] at HN9 hb9
  obtain ⟨x13, hx13⟩ : ∃ x, x = numA c 13 1 := ⟨_, rfl⟩
  rw [← hx13] at HN13 hb13
  obtain ⟨x14, hx14⟩ : ∃ x, x = numA c 14 1 := ⟨_, rfl⟩
  rw [← hx14] at HN14 hb14
  obtain ⟨x15, hx15⟩ : ∃ x, x = numA c 15 1 := ⟨_, rfl⟩
  rw [← hx15] at HN15 hb15
  obtain ⟨x16, hx16⟩ : ∃ x, x = numA c 16 1 := ⟨_, rfl⟩
  rw [← hx16] at HN16 hb16
  obtain ⟨x17, hx17⟩ : ∃ x, x = numA c 17 1 := ⟨_, rfl⟩
  rw [← hx17] at HN17 hb17
  obtain ⟨x18, hx18⟩ : ∃ x, x = numA c 18 2 := ⟨_, rfl⟩
  rw [← hx18] at HN18 hb18
  obtain ⟨x20, hx20⟩ : ∃ x, x = numA c 20 2 := ⟨_, rfl⟩
  rw [← hx20] at HN20 hb20
  obtain ⟨x22, hx22⟩ : ∃ x, x = numA c 22 2 := ⟨_, rfl⟩
  rw [← hx22] at HN22 hb22
  have HX : Hid (x1 = numA c 1 2 ∧ x3 = numA c 3 1 ∧ x4 = numA c 4 5 ∧ x9 = numA c 9 4 ∧ x13 = numA c 13 1 ∧ x14 = numA c 14 1 ∧ x15 = numA c 15 1 ∧ x16 = numA c 16 1 ∧ x17 = numA c 17 1 ∧ x18 = numA c 18 2 ∧ x20 = numA c 20 2 ∧ x22 = numA c 22 2) := lhd ⟨hx1, hx3, hx4, hx9, hx13, hx14, hx15, hx16, hx17, hx18, hx20, hx22⟩
  clear hx1 hx3 hx4 hx9 hx13 hx14 hx15 hx16 hx17 hx18 hx20 hx22
  have hw18 : IntKind.i64.wrap ((x18 : Int) + 1) = (x18 : Int) + 1 := IntWalk.i64_in _ (by omega)
  obtain ⟨ad, cap, rfl, -, -, -⟩ := h
  clear hk
  go_enter Tryz.func44, Tryz.ntmps44
  have HGS : Hid (pktV (gsA c kd) nilS = .agg #[.int .i64 kd, .int .i64 (x1 : Int), .int .i64 (x3 : Int), .int .i64 (x4 : Int), .bool false, .int .i64 0, .int .i64 0, .int .i64 0, .int .i64 0, .int .i64 0, .slice none 0 0, .int .i64 (x9 : Int), .int .i64 (x13 : Int), .int .i64 (x14 : Int), .int .i64 (x15 : Int), .int .i64 (x16 : Int), .int .i64 (x17 : Int), .int .i64 ((x18 : Int) + 1), .int .i64 (x20 : Int), .int .i64 (x22 : Int)]) := lhd (by
    obtain ⟨h1, h3, h4, h9, h13, h14, h15, h16, h17, h18, h20, h22⟩ := HX.out
    unfold pktV pktC gsA
    rw [← h1, ← h3, ← h4, ← h9, ← h13, ← h14, ← h15, ← h16, ← h17, ← h18, ← h20, ← h22])
  go_wp2_with (first
    | (go_at_call 71; (first | (with_reducible refine (HN1.out _ (by first | with_reducible exact HF2.out _ _ | with_reducible exact HF0.out _)).mono ?_) | (with_reducible refine (HN3.out _ (by first | with_reducible exact HF2.out _ _ | with_reducible exact HF0.out _)).mono ?_) | (with_reducible refine (HN4.out _ (by first | with_reducible exact HF2.out _ _ | with_reducible exact HF0.out _)).mono ?_) | (with_reducible refine (HN9.out _ (by first | with_reducible exact HF2.out _ _ | with_reducible exact HF0.out _)).mono ?_) | (with_reducible refine (HN13.out _ (by first | with_reducible exact HF2.out _ _ | with_reducible exact HF0.out _)).mono ?_) | (with_reducible refine (HN14.out _ (by first | with_reducible exact HF2.out _ _ | with_reducible exact HF0.out _)).mono ?_) | (with_reducible refine (HN15.out _ (by first | with_reducible exact HF2.out _ _ | with_reducible exact HF0.out _)).mono ?_) | (with_reducible refine (HN16.out _ (by first | with_reducible exact HF2.out _ _ | with_reducible exact HF0.out _)).mono ?_) | (with_reducible refine (HN17.out _ (by first | with_reducible exact HF2.out _ _ | with_reducible exact HF0.out _)).mono ?_) | (with_reducible refine (HN18.out _ (by first | with_reducible exact HF2.out _ _ | with_reducible exact HF0.out _)).mono ?_) | (with_reducible refine (HN20.out _ (by first | with_reducible exact HF2.out _ _ | with_reducible exact HF0.out _)).mono ?_) | (with_reducible refine (HN22.out _ (by first | with_reducible exact HF2.out _ _ | with_reducible exact HF0.out _)).mono ?_)); rintro e _ ⟨rfl, rfl⟩)
    | ((with_reducible show wpList _ _ _ (⟨some 14, _, _, _, _, _⟩ :: _) _ _); refine zAk rfl 63 _ rfl #[.int .i64 kd, .int .i64 (x1 : Int), .int .i64 (x3 : Int), .int .i64 (x4 : Int), .bool false, .int .i64 0, .int .i64 0, .int .i64 0, .int .i64 0, .int .i64 0, .slice none 0 0, .int .i64 0, .int .i64 0, .int .i64 0, .int .i64 0, .int .i64 0, .int .i64 0, .int .i64 0, .int .i64 0, .int .i64 0] (by kernel_rfl) ?_)
    | ((with_reducible show wpList _ _ _ (⟨none, _, _, _, _, _⟩ :: _) _ _); refine yAe _ rfl 63 (.tmp 5) (.tmp 14) rfl rfl rfl (by kernel_rfl) (by rfl) (by kernel_rfl) ?_)
    | ((with_reducible show wpList _ _ _ (⟨some 57, _, _, _, _, _⟩ :: _) _ _); refine zAk rfl 37 _ rfl #[.int .i64 (x9 : Int), .int .i64 (x13 : Int), .int .i64 (x14 : Int), .int .i64 (x15 : Int), .int .i64 (x16 : Int)] (by kernel_rfl) ?_)
    | ((with_reducible show wpList _ _ _ (⟨some 72, _, _, _, _, _⟩ :: _) _ _); refine yAg rfl 63 (.tmp 5) rfl rfl _ Tryz.underlying63 rfl (by kernel_rfl) ?_)
    | ((with_reducible show wpList _ _ _ (⟨none, _, _, _, _, _⟩ :: _) _ _); refine yAd _ rfl 63 (.tmp 4) (.tmp 72) rfl rfl rfl (by kernel_rfl) (by rfl) (by kernel_rfl) ?_))
  refine bodyPost_ret (yAq rfl _ _ w.heap.size 63 _ (0, 0) _ rfl (yAo w _ _) Tryz.underlying63 rfl (by kernel_rfl)) rfl ?_
  exact ⟨_, rfl, ⟨nilS, HGS.out.symm, ListAt.nil _ _, fun b hb => by simp [Value.ownBlock] at hb⟩, HF2.out _ _⟩
end

section
open Go.RowKit Go.Extern.Stop Go.Stop Go.Extern
theorem yBN (p : Pkt) : FitL (headN p) ↔ (1 ≤ p.kind ∧ p.kind ≤ 2) ∧ (0 ≤ p.session ∧ p.session ≤ 65535) ∧ (0 ≤ p.layer ∧ p.layer ≤ 7) ∧ (0 ≤ p.tick ∧ p.tick ≤ 1099511627775) := by
  simp [FitL, headN, FitN]
theorem yBQ (p : Pkt) (h : I64 p.many) : FitL (dataN p) ↔ (0 ≤ p.sync + 1 ∧ p.sync + 1 ≤ 8) ∧ (1 ≤ p.many ∧ p.many ≤ 4096) ∧ (0 ≤ p.place ∧ p.place ≤ p.many - 1) ∧ (0 ≤ p.block ∧ p.block ≤ 15) ∧ (0 ≤ p.esi ∧ p.esi ≤ 65535) := by
  by_cases hm : 1 ≤ p.many
  · have e := IntWalk.i64_in (p.many - 1) (by have := h.2; omega)
    simp [FitL, dataN, FitN, e]
  · constructor
    · intro hf
      have : FitN (p.many, 2, 1, 4096) := hf _ (by simp [dataN])
      exact absurd this.1 hm
    · rintro ⟨-, ⟨h1, -⟩, -⟩
      exact absurd h1 hm
theorem yB5 (p : Pkt) (h : -9223372036854775808 ≤ p.size) : FitL (annN p) ↔ p.size ≤ 4294967295 ∧ (1 ≤ p.layers ∧ p.layers ≤ 8) ∧ (1 ≤ p.esis ∧ p.esis ≤ 65536) ∧ (2 ≤ p.base ∧ p.base ≤ 4096) ∧ (1 ≤ p.length ∧ p.length ≤ p.base - 1) := by
  simp [FitL, annN, FitN, h]
theorem yBh (p : Pkt) (hF : FitsP p) : RangedP p ↔ FitL (headN p) ∧ ((p.kind = 1 ∧ -1 ≤ p.sync ∧ p.sync ≤ 7 ∧ FitL (dataN p)) ∨ (¬ p.kind = 1 ∧ p.layer = 0 ∧ 2 ≤ p.base ∧ FitL (annN p))) := by
  rw [yBN, yBQ p hF.many, yB5 p hF.size.1]
  constructor
  · intro h
    refine ⟨⟨⟨h.k1, h.k2⟩, ⟨h.s1, h.s2⟩, ⟨h.l1, h.l2⟩, ⟨h.t1, h.t2⟩⟩, ?_⟩
    by_cases hk : p.kind = 1
    · obtain ⟨h1, h2, h3, h4, h5⟩ := h.d hk
      exact .inl ⟨hk, h1.1, h1.2, ⟨by omega, by omega⟩, h2, h3, h4, h5⟩
    · obtain ⟨h1, h2, h3, h4, h5, h6⟩ := h.a (by have := h.k1; have := h.k2; omega)
      exact .inr ⟨hk, h1, h5.1, h2, h3, h4, h5, h6⟩
  · rintro ⟨⟨⟨h1, h2⟩, ⟨h3, h4⟩, ⟨h5, h6⟩, ⟨h7, h8⟩⟩, h⟩
    refine ⟨h1, h2, h3, h4, h5, h6, h7, h8, fun hk => ?_, fun hk => ?_⟩
    · rcases h with ⟨-, g1, g2, -, g3, g4, g5, g6⟩ | ⟨g, -⟩
      · exact ⟨⟨g1, g2⟩, g3, g4, g5, g6⟩
      · exact absurd hk g
    · rcases h with ⟨g, -⟩ | ⟨-, g1, -, g2, g3, g4, g5, g6⟩
      · omega
      · exact ⟨g1, g2, g3, g4, g5, g6⟩
theorem yA0 {w : World} (p : Pkt) (D : Value) (hF : FitsP p) : Calls Tryz.prog 72 #[pktV p D] w fun e w' => ∃ b : Bool, e = .returned (.bool b) ∧ (b = true ↔ RangedP p) ∧ Below w.heap.size w w' := by
  obtain ⟨W1, hW1, hb1, hx1⟩ := zAz w p D
  have HB := lhd hb1
  have HW := lhd hW1
  have HX := lhd hx1
  have HR := lhd (yBh p hF)
  have HL4 : Hid ((headN p).length = 4 ∧ (dataN p).length = 5 ∧ (annN p).length = 5) := lhd ⟨rfl, rfl, rfl⟩
  have HH : Hid (∀ V : World, Calls Tryz.prog 77 #[.agg (pktC p D)] V fun e w' => ∃ v, e = .returned v ∧ NumsAt w' v (headN p) ∧ Below V.heap.size V w') := lhd fun V => yAv p D
  have HFI : Hid (∀ (V : World) (v : Value) (L : List Num4), NumsAt V v L → L.length ≤ 100 → Calls Tryz.prog 111 #[v] V fun e w' => e = .returned (.bool (decide (FitL L))) ∧ Below V.heap.size V w') := lhd fun V v L h h2 => yBq v L h h2
  have HDA : Hid (-1 ≤ p.sync → p.sync ≤ 7 → ∀ V : World, Calls Tryz.prog 78 #[.agg (pktC p D)] V fun e w' => ∃ v, e = .returned v ∧ NumsAt w' v (dataN p) ∧ Below V.heap.size V w') := lhd fun h1 h2 V => yAK p D h1 h2
  have HAN : Hid (2 ≤ p.base → ∀ V : World, Calls Tryz.prog 112 #[.agg (pktC p D)] V fun e w' => ∃ v, e = .returned v ∧ NumsAt w' v (annN p) ∧ Below V.heap.size V w') := lhd fun h1 V => yBG p D h1 (by have := hF.base.2; omega)
  unfold pktC at HW HH HDA HAN
  unfold pktV pktC
  clear hW1 hb1 hx1
  go_enter Tryz.func72, Tryz.ntmps72
  go_upto_region 1 with fail
  rw [← HW.out]
  obtain ⟨c0, -, c2, -, -, c5, -, -, -, -, -, -, -, -, -, -, -, -, c18, -⟩ := HX.out.cells
  go_wp2_with ((with_reducible show wpList _ _ _ (⟨some 3, _, _, _, _, _⟩ :: _) _ _); refine wpList_load_row rfl 63 (.tmp 1) rfl w.heap.size rfl 63 (pktC p D) (0, 0) _ HX.out Tryz.underlying63 rfl (by kernel_rfl) ?_; unfold pktC)
  refine (HH.out _).mono ?_
  rintro e w2 ⟨v2, rfl, hn2, hb2⟩
  have HB2 := lhd (HB.out.trans (hb2.mono HB.out.size))
  have HC2 := lhd (HFI.out w2 v2 _ hn2 (by rw [HL4.out.1]; decide))
  have HX2 := lhd (HX.out.mono hb2)
  clear hn2 hb2 c0 c2 c5 c18
  go_wp2_with fail
  refine HC2.out.mono ?_
  rintro e w3 ⟨rfl, hb3⟩
  have HB3 := lhd (HB2.out.trans (hb3.mono HB2.out.size))
  have HX3 := lhd (HX2.out.mono hb3)
  clear hb3
  obtain ⟨c0, c1, c2, c3, c4, c5, c6, c7, c8, c9, c10, c11, c12, c13, c14, c15, c16, c17, c18, c19⟩ := HX3.out.cells
  by_cases hh : FitL (headN p)
  · rw [decide_eq_true hh]
    have HH1 := lhd hh
    clear hh
    by_cases hk : p.kind = 1
    · have e1 : (p.kind == 1) = true := by simp [hk]
      have HR2 : Hid (RangedP p ↔ -1 ≤ p.sync ∧ p.sync ≤ 7 ∧ FitL (dataN p)) := lhd (by
        rw [HR.out]
        constructor
        · rintro ⟨-, ⟨-, h⟩ | ⟨h, -⟩⟩
          · exact h
          · exact absurd hk h
        · exact fun h => ⟨HH1.out, .inl ⟨hk, h⟩⟩)
      clear hk HR
      by_cases g1 : -1 ≤ p.sync
      · have e2 : decide (-1 ≤ p.sync) = true := decide_eq_true g1
        by_cases g2 : p.sync ≤ 7
        · have e3 : decide (p.sync ≤ 7) = true := decide_eq_true g2
          have HDA1 := lhd (HDA.out g1 g2)
          have HR3 : Hid (RangedP p ↔ FitL (dataN p)) := lhd ⟨fun h => (HR2.out.1 h).2.2, fun h => HR2.out.2 ⟨g1, g2, h⟩⟩
          clear g1 g2 HR2
          go_wp2_with ((with_reducible show wpList _ _ _ (⟨some 19, _, _, _, _, _⟩ :: _) _ _); refine yAl (by rfl) 63 (.tmp 1) rfl w.heap.size rfl 63 (pktC p D) (0, 0) _ HX3.out Tryz.underlying63 rfl (by kernel_rfl) ?_; unfold pktC)
          refine (HDA1.out _).mono ?_
          rintro e w4 ⟨v4, rfl, hn4, hb4⟩
          have HB4 := lhd (HB3.out.trans (hb4.mono HB3.out.size))
          have HC4 := lhd (HFI.out w4 v4 _ hn4 (by rw [HL4.out.2.1]; decide))
          clear hn4 hb4
          go_wp2_with fail
          refine HC4.out.mono ?_
          rintro e w5 ⟨rfl, hb5⟩
          have HB5 := lhd (HB4.out.trans (hb5.mono HB4.out.size))
          clear hb5
          go_wp2
          go_ret
          exact ⟨_, rfl, by rw [HR3.out]; exact decide_eq_true_iff, HB5.out⟩
        · have e3 : decide (p.sync ≤ 7) = false := decide_eq_false g2
          have HN : Hid (¬ RangedP p) := lhd fun h => g2 (HR2.out.1 h).2.1
          clear g1 g2 HR2
          go_wp2
          go_ret
          exact ⟨_, rfl, ⟨fun h => by simp at h, fun h => absurd h HN.out⟩, HB3.out⟩
      · have e2 : decide (-1 ≤ p.sync) = false := decide_eq_false g1
        have HN : Hid (¬ RangedP p) := lhd fun h => g1 (HR2.out.1 h).1
        clear g1 HR2
        go_wp2
        go_ret
        exact ⟨_, rfl, ⟨fun h => by simp at h, fun h => absurd h HN.out⟩, HB3.out⟩
    · have e1 : (p.kind == 1) = false := by simp [hk]
      have HR2 : Hid (RangedP p ↔ p.layer = 0 ∧ 2 ≤ p.base ∧ FitL (annN p)) := lhd (by
        rw [HR.out]
        constructor
        · rintro ⟨-, ⟨h, -⟩ | ⟨-, h⟩⟩
          · exact absurd h hk
          · exact h
        · exact fun h => ⟨HH1.out, .inr ⟨hk, h⟩⟩)
      clear hk HR
      by_cases g1 : p.layer = 0
      · have e2 : (p.layer == 0) = true := by simp [g1]
        by_cases g2 : 2 ≤ p.base
        · have e3 : decide (2 ≤ p.base) = true := decide_eq_true g2
          have HAN1 := lhd (HAN.out g2)
          have HR3 : Hid (RangedP p ↔ FitL (annN p)) := lhd ⟨fun h => (HR2.out.1 h).2.2, fun h => HR2.out.2 ⟨g1, g2, h⟩⟩
          clear g1 g2 HR2
          go_wp2_with ((with_reducible show wpList _ _ _ (⟨some 32, _, _, _, _, _⟩ :: _) _ _); refine yAl (by rfl) 63 (.tmp 1) rfl w.heap.size rfl 63 (pktC p D) (0, 0) _ HX3.out Tryz.underlying63 rfl (by kernel_rfl) ?_; unfold pktC)
          refine (HAN1.out _).mono ?_
          rintro e w4 ⟨v4, rfl, hn4, hb4⟩
          have HB4 := lhd (HB3.out.trans (hb4.mono HB3.out.size))
          have HC4 := lhd (HFI.out w4 v4 _ hn4 (by rw [HL4.out.2.2]; decide))
          clear hn4 hb4
          go_wp2_with fail
          refine HC4.out.mono ?_
          rintro e w5 ⟨rfl, hb5⟩
          have HB5 := lhd (HB4.out.trans (hb5.mono HB4.out.size))
          clear hb5
          go_wp2
          go_ret
          exact ⟨_, rfl, by rw [HR3.out]; exact decide_eq_true_iff, HB5.out⟩
        · have e3 : decide (2 ≤ p.base) = false := decide_eq_false g2
          have HN : Hid (¬ RangedP p) := lhd fun h => g2 (HR2.out.1 h).2.1
          clear g1 g2 HR2
          go_wp2
          go_ret
          exact ⟨_, rfl, ⟨fun h => by simp at h, fun h => absurd h HN.out⟩, HB3.out⟩
      · have e2 : (p.layer == 0) = false := by simp [g1]
        have HN : Hid (¬ RangedP p) := lhd fun h => g1 (HR2.out.1 h).1
        clear g1 HR2
        go_wp2
        go_ret
        exact ⟨_, rfl, ⟨fun h => by simp at h, fun h => absurd h HN.out⟩, HB3.out⟩
  · rw [decide_eq_false hh]
    have HN : Hid (¬ RangedP p) := lhd fun h => hh (HR.out.1 h).1
    clear hh HR
    go_wp2
    go_ret
    exact ⟨_, rfl, ⟨fun h => by simp at h, fun h => absurd h HN.out⟩, HB3.out⟩
end
end Go.Proofs.YtkfimdpcadbcpaaGreatDoor
