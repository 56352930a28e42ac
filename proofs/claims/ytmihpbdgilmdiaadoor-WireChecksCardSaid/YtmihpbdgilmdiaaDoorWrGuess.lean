/- The document's guess: the only packet of a kind that bytes can be (layer 16). (Made by genguess.py.) -/
import Derived.Test.YtmihpbdgilmdiaaDoorJ2
import Derived.Test.YtmihpbdgilmdiaaDoorCkLb
import Derived.Test.YtmihpbdgilmdiaaDoorWrBare
import Derived.Laws.CopyOwn
namespace Go.Proofs.YtmihpbdgilmdiaaDoor
open Go.RowKit Go.Extern.Stop Go.Stop Go.Extern

set_option linter.unusedVariables false in
set_option maxRecDepth 1000000 in
set_option maxHeartbeats 8000000 in
theorem rGuessD_any {w : World} (v : Value) (c : List Nat) (kd : Int) (hk : kd = 1) (h : ListAt byteV w v c) (ho : Octets c) (hR : c.length ≤ 140737488351248) : Calls Tryd.prog 34 #[v, .int .i64 kd] w fun e w' =>
    ∃ v', e = .returned v' ∧ PktAt w' v' (gsD c kd) ∧ Below w.heap.size w w' := by
  obtain ⟨i0, hi0, hz0, hz1, hz2⟩ := info_parts info_u8
  have HL := Lib.hid h
  have hlen := h.len
  have HF0 : Hid (∀ X : Obj, Below w.heap.size w (w.alloc X)) := Lib.hid fun X => (Below.refl _ _).alloc (Nat.le_refl _) X
  have HF2 : Hid (∀ X Y : Obj, Below w.heap.size w ((w.alloc X).alloc Y)) := Lib.hid fun X Y => ((Below.refl _ _).alloc (Nat.le_refl _) X).alloc (by rw [World.size_alloc]; omega) Y
  have e1 : (kd == 1) = true := by simp [hk]
  have HN1 : Hid (∀ V : World, Below w.heap.size w V → Calls Tryd.prog 58 #[v, .int .i64 1, .int .i64 2] V fun e w' => e = .returned (.int .i64 ((numA c 1 2 : Nat) : Int)) ∧ w' = V) := Lib.hid fun V hV => rNumber_any v c 1 2 (h.mono hV) ho (by decide) (by decide)
  have hb1 : numA c 1 2 < 256 ^ 2 := numA_lt c ho 1 2
  simp only [show (256 : Nat) ^ 2 = 65536 by decide] at hb1
  have HN3 : Hid (∀ V : World, Below w.heap.size w V → Calls Tryd.prog 58 #[v, .int .i64 3, .int .i64 1] V fun e w' => e = .returned (.int .i64 ((numA c 3 1 : Nat) : Int)) ∧ w' = V) := Lib.hid fun V hV => rNumber_any v c 3 1 (h.mono hV) ho (by decide) (by decide)
  have hb3 : numA c 3 1 < 256 ^ 1 := numA_lt c ho 3 1
  simp only [show (256 : Nat) ^ 1 = 256 by decide] at hb3
  have HN4 : Hid (∀ V : World, Below w.heap.size w V → Calls Tryd.prog 58 #[v, .int .i64 4, .int .i64 5] V fun e w' => e = .returned (.int .i64 ((numA c 4 5 : Nat) : Int)) ∧ w' = V) := Lib.hid fun V hV => rNumber_any v c 4 5 (h.mono hV) ho (by decide) (by decide)
  have hb4 : numA c 4 5 < 256 ^ 5 := numA_lt c ho 4 5
  simp only [show (256 : Nat) ^ 5 = 1099511627776 by decide] at hb4
  have HN9 : Hid (∀ V : World, Below w.heap.size w V → Calls Tryd.prog 58 #[v, .int .i64 9, .int .i64 1] V fun e w' => e = .returned (.int .i64 ((numA c 9 1 : Nat) : Int)) ∧ w' = V) := Lib.hid fun V hV => rNumber_any v c 9 1 (h.mono hV) ho (by decide) (by decide)
  have hb9 : numA c 9 1 < 256 ^ 1 := numA_lt c ho 9 1
  simp only [show (256 : Nat) ^ 1 = 256 by decide] at hb9
  have HN10 : Hid (∀ V : World, Below w.heap.size w V → Calls Tryd.prog 58 #[v, .int .i64 10, .int .i64 2] V fun e w' => e = .returned (.int .i64 ((numA c 10 2 : Nat) : Int)) ∧ w' = V) := Lib.hid fun V hV => rNumber_any v c 10 2 (h.mono hV) ho (by decide) (by decide)
  have hb10 : numA c 10 2 < 256 ^ 2 := numA_lt c ho 10 2
  simp only [show (256 : Nat) ^ 2 = 65536 by decide] at hb10
  have HN12 : Hid (∀ V : World, Below w.heap.size w V → Calls Tryd.prog 58 #[v, .int .i64 12, .int .i64 2] V fun e w' => e = .returned (.int .i64 ((numA c 12 2 : Nat) : Int)) ∧ w' = V) := Lib.hid fun V hV => rNumber_any v c 12 2 (h.mono hV) ho (by decide) (by decide)
  have hb12 : numA c 12 2 < 256 ^ 2 := numA_lt c ho 12 2
  simp only [show (256 : Nat) ^ 2 = 65536 by decide] at hb12
  have HN14 : Hid (∀ V : World, Below w.heap.size w V → Calls Tryd.prog 58 #[v, .int .i64 14, .int .i64 1] V fun e w' => e = .returned (.int .i64 ((numA c 14 1 : Nat) : Int)) ∧ w' = V) := Lib.hid fun V hV => rNumber_any v c 14 1 (h.mono hV) ho (by decide) (by decide)
  have hb14 : numA c 14 1 < 256 ^ 1 := numA_lt c ho 14 1
  simp only [show (256 : Nat) ^ 1 = 256 by decide] at hb14
  have HN15 : Hid (∀ V : World, Below w.heap.size w V → Calls Tryd.prog 58 #[v, .int .i64 15, .int .i64 2] V fun e w' => e = .returned (.int .i64 ((numA c 15 2 : Nat) : Int)) ∧ w' = V) := Lib.hid fun V hV => rNumber_any v c 15 2 (h.mono hV) ho (by decide) (by decide)
  have hb15 : numA c 15 2 < 256 ^ 2 := numA_lt c ho 15 2
  simp only [show (256 : Nat) ^ 2 = 65536 by decide] at hb15
  obtain rfl := hk
  obtain ⟨x1, hx1⟩ : ∃ x, x = numA c 1 2 := ⟨_, rfl⟩
  rw [← hx1] at HN1 hb1
  obtain ⟨x3, hx3⟩ : ∃ x, x = numA c 3 1 := ⟨_, rfl⟩
  rw [← hx3] at HN3 hb3
  obtain ⟨x4, hx4⟩ : ∃ x, x = numA c 4 5 := ⟨_, rfl⟩
  rw [← hx4] at HN4 hb4
  obtain ⟨x9, hx9⟩ : ∃ x, x = numA c 9 1 := ⟨_, rfl⟩
  rw [← hx9] at HN9 hb9
  obtain ⟨x10, hx10⟩ : ∃ x, x = numA c 10 2 := ⟨_, rfl⟩
  rw [← hx10] at HN10 hb10
  obtain ⟨x12, hx12⟩ : ∃ x, x = numA c 12 2 := ⟨_, rfl⟩
  rw [← hx12] at HN12 hb12
  obtain ⟨x14, hx14⟩ : ∃ x, x = numA c 14 1 := ⟨_, rfl⟩
  rw [← hx14] at HN14 hb14
  obtain ⟨x15, hx15⟩ : ∃ x, x = numA c 15 2 := ⟨_, rfl⟩
  rw [← hx15] at HN15 hb15
  have HX : Hid (x1 = numA c 1 2 ∧ x3 = numA c 3 1 ∧ x4 = numA c 4 5 ∧ x9 = numA c 9 1 ∧ x10 = numA c 10 2 ∧ x12 = numA c 12 2 ∧ x14 = numA c 14 1 ∧ x15 = numA c 15 2) := Lib.hid ⟨hx1, hx3, hx4, hx9, hx10, hx12, hx14, hx15⟩
  clear hx1 hx3 hx4 hx9 hx10 hx12 hx14 hx15
  have hm9 : (x9 : Int) % 128 = ((x9 % 128 : Nat) : Int) := by omega
  have hm9T : (x9 : Int).tmod 128 = ((x9 % 128 : Nat) : Int) := rfl
  have hr9 : x9 % 128 < 128 := by omega
  have hdB : decide ((128 : Int) ≤ (x9 : Int)) = decide (128 ≤ x9) := decide_eq_decide.2 (by omega)
  obtain ⟨bu, hbu⟩ : ∃ b : Bool, b = decide (128 ≤ x9) := ⟨_, rfl⟩
  obtain ⟨r9, hr9e⟩ : ∃ r, r = x9 % 128 := ⟨_, rfl⟩
  rw [← hbu] at hdB
  rw [← hr9e] at hm9 hm9T hr9
  have HE9 := Lib.hid hr9e
  have HBU := Lib.hid hbu
  have hws : IntKind.i64.wrap ((r9 : Int) - 1) = (r9 : Int) - 1 := IntWalk.i64_in _ (by omega)
  obtain ⟨ad, cap, rfl, hcap, hcm, hcell⟩ := h
  have hcb : cap ≤ 9223372036854775807 := hcm
  have HC := Lib.hid hcell
  clear hr9e hbu hcell
  go_enter Tryd.func34, Tryd.ntmps34
  go_upto_region 10 with (first
    | (go_at_call 58; (first | (with_reducible refine (HN1.out _ (by first | with_reducible exact HF2.out _ _ | with_reducible exact HF0.out _)).mono ?_) | (with_reducible refine (HN3.out _ (by first | with_reducible exact HF2.out _ _ | with_reducible exact HF0.out _)).mono ?_) | (with_reducible refine (HN4.out _ (by first | with_reducible exact HF2.out _ _ | with_reducible exact HF0.out _)).mono ?_) | (with_reducible refine (HN9.out _ (by first | with_reducible exact HF2.out _ _ | with_reducible exact HF0.out _)).mono ?_) | (with_reducible refine (HN10.out _ (by first | with_reducible exact HF2.out _ _ | with_reducible exact HF0.out _)).mono ?_) | (with_reducible refine (HN12.out _ (by first | with_reducible exact HF2.out _ _ | with_reducible exact HF0.out _)).mono ?_) | (with_reducible refine (HN14.out _ (by first | with_reducible exact HF2.out _ _ | with_reducible exact HF0.out _)).mono ?_) | (with_reducible refine (HN15.out _ (by first | with_reducible exact HF2.out _ _ | with_reducible exact HF0.out _)).mono ?_)); rintro e _ ⟨rfl, rfl⟩)
    | ((with_reducible show wpList _ _ _ (⟨some 14, _, _, _, _, _⟩ :: _) _ _); refine wpList_built rfl 26 _ rfl #[.int .i64 1, .int .i64 (x1 : Int), .int .i64 (x3 : Int), .int .i64 (x4 : Int), .bool false, .int .i64 0, .int .i64 0, .int .i64 0, .int .i64 0, .int .i64 0, .slice none 0 0, .int .i64 0, .int .i64 0, .int .i64 0, .int .i64 0, .int .i64 0, .int .i64 0, .int .i64 0, .int .i64 0, .int .i64 0] (by kernel_rfl) ?_)
    | ((with_reducible show wpList _ _ _ (⟨none, _, _, _, _, _⟩ :: _) _ _); refine wpList_storeRow1 _ rfl 26 (.tmp 5) (.tmp 14) rfl rfl rfl (by kernel_rfl) (by rfl) (by kernel_rfl) ?_))
  have HGS : Hid (∀ (Dv : Value), pktV (gsD c 1) Dv = .agg #[.int .i64 1, .int .i64 (x1 : Int), .int .i64 (x3 : Int), .int .i64 (x4 : Int), .bool bu, .int .i64 ((r9 : Int) - 1), .int .i64 (x10 : Int), .int .i64 (x12 : Int), .int .i64 (x14 : Int), .int .i64 (x15 : Int), Dv, .int .i64 0, .int .i64 0, .int .i64 0, .int .i64 0, .int .i64 0, .int .i64 0, .int .i64 0, .int .i64 0, .int .i64 0]) := Lib.hid fun Dv => by
    obtain ⟨h1, h3, h4, h9, h10, h12, h14, h15⟩ := HX.out
    unfold pktV pktC gsD
    rw [← h1, ← h3, ← h4, ← h9, ← h10, ← h12, ← h14, ← h15, ← HE9.out, ← HBU.out]
  have HGD : Hid ((gsD c 1).data = c.drop 17) := Lib.hid rfl
  by_cases hlong : 17 < c.length
  · have d1 : decide ((17 : Int) < (c.length : Int)) = true := decide_eq_true (by omega)
    obtain ⟨b, off, rfl, -⟩ := HC.out (by omega)
    go_upto_region 11 with fail
    obtain ⟨W2, hW2⟩ : ∃ W2 : World, W2 = ((w.alloc (.cells #[.int .i64 0, .int .i64 0, .int .i64 0, .int .i64 0, .bool false, .int .i64 0, .int .i64 0, .int .i64 0, .int .i64 0, .int .i64 0, .slice none 0 0, .int .i64 0, .int .i64 0, .int .i64 0, .int .i64 0, .int .i64 0, .int .i64 0, .int .i64 0, .int .i64 0, .int .i64 0] 26)).alloc (.cells #[.int .i64 1, .int .i64 (x1 : Int), .int .i64 (x3 : Int), .int .i64 (x4 : Int), .bool bu, .int .i64 ((r9 : Int) - 1), .int .i64 (x10 : Int), .int .i64 (x12 : Int), .int .i64 (x14 : Int), .int .i64 (x15 : Int), .slice none 0 0, .int .i64 0, .int .i64 0, .int .i64 0, .int .i64 0, .int .i64 0, .int .i64 0, .int .i64 0, .int .i64 0, .int .i64 0] 26)) := ⟨_, rfl⟩
    rw [← hW2]
    have hBW : Below w.heap.size w W2 := by rw [hW2]; exact HF2.out _ _
    have HBW := Lib.hid hBW
    have HXW : Hid (W2.heap[w.heap.size]? = some (.cells #[.int .i64 0, .int .i64 0, .int .i64 0, .int .i64 0, .bool false, .int .i64 0, .int .i64 0, .int .i64 0, .int .i64 0, .int .i64 0, .slice none 0 0, .int .i64 0, .int .i64 0, .int .i64 0, .int .i64 0, .int .i64 0, .int .i64 0, .int .i64 0, .int .i64 0, .int .i64 0] 26 (0, 0))) := Lib.hid (by rw [hW2]; exact heap_mid w _ _)
    have HPW : Hid (W2.heap[w.heap.size + 1]? = some (.cells #[.int .i64 1, .int .i64 (x1 : Int), .int .i64 (x3 : Int), .int .i64 (x4 : Int), .bool bu, .int .i64 ((r9 : Int) - 1), .int .i64 (x10 : Int), .int .i64 (x12 : Int), .int .i64 (x14 : Int), .int .i64 (x15 : Int), .slice none 0 0, .int .i64 0, .int .i64 0, .int .i64 0, .int .i64 0, .int .i64 0, .int .i64 0, .int .i64 0, .int .i64 0, .int .i64 0] 26 (0, 0))) := Lib.hid (by
      have h := heap_alloc_new (w.alloc (.cells #[.int .i64 0, .int .i64 0, .int .i64 0, .int .i64 0, .bool false, .int .i64 0, .int .i64 0, .int .i64 0, .int .i64 0, .int .i64 0, .slice none 0 0, .int .i64 0, .int .i64 0, .int .i64 0, .int .i64 0, .int .i64 0, .int .i64 0, .int .i64 0, .int .i64 0, .int .i64 0] 26)) (.cells #[.int .i64 1, .int .i64 (x1 : Int), .int .i64 (x3 : Int), .int .i64 (x4 : Int), .bool bu, .int .i64 ((r9 : Int) - 1), .int .i64 (x10 : Int), .int .i64 (x12 : Int), .int .i64 (x14 : Int), .int .i64 (x15 : Int), .slice none 0 0, .int .i64 0, .int .i64 0, .int .i64 0, .int .i64 0, .int .i64 0, .int .i64 0, .int .i64 0, .int .i64 0, .int .i64 0] 26)
      rw [World.size_alloc] at h
      rw [hW2]; exact h)
    have hsz : W2.heap.size = w.heap.size + 1 + 1 := by rw [hW2, World.size_alloc, World.size_alloc]
    have HSZ := Lib.hid hsz
    have HOS := Lib.hid (World.ownsRow_made (base := W2.heap.size) (e := 5) (size := 1) W2 #[] 0 (Nat.le_refl _) (by decide) rfl)
    have HB3 := Lib.hid ((Below.refl W2.heap.size W2).alloc (Nat.le_refl _) (.cells #[] 5))
    have HL3 := Lib.hid ((listAt_drop (HL.out.mono hBW) 17 hlong).mono HB3.out)
    have h17 : (17 : Int) ≤ (cap : Int) := by omega
    have HFF : Hid (∀ V, Below W2.heap.size W2 V → V.heap[w.heap.size + 1]? = some (.cells #[.int .i64 1, .int .i64 (x1 : Int), .int .i64 (x3 : Int), .int .i64 (x4 : Int), .bool bu, .int .i64 ((r9 : Int) - 1), .int .i64 (x10 : Int), .int .i64 (x12 : Int), .int .i64 (x14 : Int), .int .i64 (x15 : Int), .slice none 0 0, .int .i64 0, .int .i64 0, .int .i64 0, .int .i64 0, .int .i64 0, .int .i64 0, .int .i64 0, .int .i64 0, .int .i64 0] 26 (0, 0)) ∧ V.heap[w.heap.size]? = some (.cells #[.int .i64 0, .int .i64 0, .int .i64 0, .int .i64 0, .bool false, .int .i64 0, .int .i64 0, .int .i64 0, .int .i64 0, .int .i64 0, .slice none 0 0, .int .i64 0, .int .i64 0, .int .i64 0, .int .i64 0, .int .i64 0, .int .i64 0, .int .i64 0, .int .i64 0, .int .i64 0] 26 (0, 0))) := Lib.hid fun V hV => ⟨(hV.block _ (by rw [HSZ.out]; omega)).trans HPW.out, (hV.block _ (by rw [HSZ.out]; omega)).trans HXW.out⟩
    have hdl : (c.drop 17).length = c.length - 17 := List.length_drop
    have HDL := Lib.hid hdl
    clear hW2 hBW hsz hdl
    go_wp2_with (first
      | (at_builtin; refine wpList_append_of _ rfl (.tmp 41) (.tmp 43) 22 rfl W2.heap.size 5 i0 (.int .u8 0) 1 Tryd.underlying22 hi0 hz0 hz1 hz2 rfl (.slice (some ⟨W2.heap.size, 0, none⟩) 0 0) 0 [] rfl HOS.out (.slice (some ⟨b, off + 17, none⟩) (c.length - 17) (cap - 17)) (c.drop 17) rfl HL3.out (fun y _ => rfl) (by rw [HDL.out]; unfold maxLen; omega) (by rw [HDL.out]; omega) (by simp) ?_; intro v7 w7 ho7 hg7; have HO7 := Lib.hid (show w7.ownsRow W2.heap.size 5 1 v7 (c.length - 17) ((c.drop 17).map byteV) by rw [← HDL.out]; simpa using ho7); have HB7 := Lib.hid (HB3.out.grown hg7 (by simp) (fun k hk => (HOS.out.lt k hk).1)); obtain ⟨a7, c7, hv7, -, -⟩ := own_open HO7.out; subst hv7; obtain ⟨hp7, hz7⟩ := HFF.out _ HB7.out; have q7 := cell_of_heap (j := 10) (u := nilS) hp7 rfl; have f7 := frozen_of_heap (j := 10) hp7; have HP8 : Hid ((w7.setCell ⟨w.heap.size + 1, 10, none⟩ (.slice a7 (c.length - 17) c7)).heap[w.heap.size + 1]? = some (.cells #[.int .i64 1, .int .i64 (x1 : Int), .int .i64 (x3 : Int), .int .i64 (x4 : Int), .bool bu, .int .i64 ((r9 : Int) - 1), .int .i64 (x10 : Int), .int .i64 (x12 : Int), .int .i64 (x14 : Int), .int .i64 (x15 : Int), .slice a7 (c.length - 17) c7, .int .i64 0, .int .i64 0, .int .i64 0, .int .i64 0, .int .i64 0, .int .i64 0, .int .i64 0, .int .i64 0, .int .i64 0] 26 (0, 0))) := Lib.hid (heap_setCell_at hp7); have HZ8 : Hid ((w7.setCell ⟨w.heap.size + 1, 10, none⟩ (.slice a7 (c.length - 17) c7)).heap[w.heap.size]? = some (.cells #[.int .i64 0, .int .i64 0, .int .i64 0, .int .i64 0, .bool false, .int .i64 0, .int .i64 0, .int .i64 0, .int .i64 0, .int .i64 0, .slice none 0 0, .int .i64 0, .int .i64 0, .int .i64 0, .int .i64 0, .int .i64 0, .int .i64 0, .int .i64 0, .int .i64 0, .int .i64 0] 26 (0, 0))) := Lib.hid (by rw [Below.heap_setCell _ _ _ _ (show w.heap.size ≠ w.heap.size + 1 by omega)]; exact hz7); clear ho7 hg7 hp7 hz7)
      | ((with_reducible show wpList _ _ _ (⟨some 46, _, _, _, _, _⟩ :: _) _ _); refine wpList_load_row rfl 26 (.tmp 5) rfl (w.heap.size + 1) rfl 26 #[.int .i64 1, .int .i64 (x1 : Int), .int .i64 (x3 : Int), .int .i64 (x4 : Int), .bool bu, .int .i64 ((r9 : Int) - 1), .int .i64 (x10 : Int), .int .i64 (x12 : Int), .int .i64 (x14 : Int), .int .i64 (x15 : Int), .slice a7 (c.length - 17) c7, .int .i64 0, .int .i64 0, .int .i64 0, .int .i64 0, .int .i64 0, .int .i64 0, .int .i64 0, .int .i64 0, .int .i64 0] (0, 0) _ HP8.out Tryd.underlying26 rfl (by kernel_rfl) ?_)
      | ((with_reducible show wpList _ _ _ (⟨none, _, _, _, _, _⟩ :: _) _ _); refine wpList_store_row rfl 26 (.tmp 4) (.tmp 46) rfl w.heap.size #[.int .i64 1, .int .i64 (x1 : Int), .int .i64 (x3 : Int), .int .i64 (x4 : Int), .bool bu, .int .i64 ((r9 : Int) - 1), .int .i64 (x10 : Int), .int .i64 (x12 : Int), .int .i64 (x14 : Int), .int .i64 (x15 : Int), .slice a7 (c.length - 17) c7, .int .i64 0, .int .i64 0, .int .i64 0, .int .i64 0, .int .i64 0, .int .i64 0, .int .i64 0, .int .i64 0, .int .i64 0] rfl rfl 26 #[.int .i64 0, .int .i64 0, .int .i64 0, .int .i64 0, .bool false, .int .i64 0, .int .i64 0, .int .i64 0, .int .i64 0, .int .i64 0, .slice none 0 0, .int .i64 0, .int .i64 0, .int .i64 0, .int .i64 0, .int .i64 0, .int .i64 0, .int .i64 0, .int .i64 0, .int .i64 0] HZ8.out (by kernel_rfl) (by rfl) (by kernel_rfl) ?_))
    have HB8 := Lib.hid (HBW.out.trans (HB7.out.mono (by rw [HSZ.out]; omega)))
    obtain ⟨hp7, hz7⟩ := HFF.out _ HB7.out
    refine bodyPost_ret (wr_row1 rfl _ _ w.heap.size 26 _ (0, 0) _ rfl (setRow_heap _ _ _ _ _ _ HZ8.out) Tryd.underlying26 rfl (by kernel_rfl)) rfl ?_
    refine ⟨_, rfl, ⟨.slice a7 (c.length - 17) c7, (HGS.out _).symm, ?_⟩, below_setRow (HB8.out.setCell (p := ⟨w.heap.size + 1, 10, none⟩) (by simp) _) (Nat.le_refl _) _⟩
    rw [HGD.out]
    refine ListAt.of_owns (f := byteV) (own_same HO7.out fun g cur hg => ?_)
    have n0 : g ≠ w.heap.size := by
      rintro rfl
      rw [hz7] at hg
      cases hg
    have n1 : g ≠ w.heap.size + 1 := by
      rintro rfl
      rw [hp7] at hg
      cases hg
    rw [setRow_other _ _ _ _ n0, Below.heap_setCell _ _ _ _ n1]
  · have d1 : decide ((17 : Int) < (c.length : Int)) = false := decide_eq_false (by omega)
    have HNIL : Hid ((gsD c 1).data = []) := Lib.hid (by rw [HGD.out]; exact List.drop_eq_nil_of_le (by omega))
    go_wp2_with (first
      | ((with_reducible show wpList _ _ _ (⟨some 46, _, _, _, _, _⟩ :: _) _ _); refine wpList_loadRow1 rfl 26 (.tmp 5) rfl rfl _ Tryd.underlying26 rfl (by kernel_rfl) ?_)
      | ((with_reducible show wpList _ _ _ (⟨none, _, _, _, _, _⟩ :: _) _ _); refine wpList_storeRowM _ rfl 26 (.tmp 4) (.tmp 46) rfl rfl rfl (by kernel_rfl) (by rfl) (by kernel_rfl) ?_))
    refine bodyPost_ret (wr_row1 rfl _ _ w.heap.size 26 _ (0, 0) _ rfl (heap_mid w _ _) Tryd.underlying26 rfl (by kernel_rfl)) rfl ?_
    exact ⟨_, rfl, ⟨nilS, (HGS.out _).symm, by rw [HNIL.out]; exact ListAt.nil _ _⟩, HF2.out _ _⟩
end Go.Proofs.YtmihpbdgilmdiaaDoor
