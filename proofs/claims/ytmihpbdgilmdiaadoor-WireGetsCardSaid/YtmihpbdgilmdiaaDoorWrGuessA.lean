/- The document's guess: the only packet of a kind that bytes can be (layer 16). (Made by genguess.py.) -/
import Derived.Test.YtmihpbdgilmdiaaDoorJ2
import Derived.Test.YtmihpbdgilmdiaaDoorCkLb
import Derived.Test.YtmihpbdgilmdiaaDoorWrBare
import Derived.Laws.CopyOwn
namespace Go.Proofs.YtmihpbdgilmdiaaDoor
open Go.RowKit Go.Extern.Stop Go.Stop Go.Extern

set_option linter.unusedVariables false in
set_option maxRecDepth 1000000 in
set_option maxHeartbeats 8000000 in
theorem rGuessA_any {w : World} (v : Value) (c : List Nat) (kd : Int) (hk : ¬ kd = 1) (h : ListAt byteV w v c) (ho : Octets c) (hR : c.length ≤ 140737488351248) : Calls Tryd.prog 34 #[v, .int .i64 kd] w fun e w' =>
    ∃ v', e = .returned v' ∧ PktAt w' v' (gsA c kd) ∧ Below w.heap.size w w' := by
  obtain ⟨i0, hi0, hz0, hz1, hz2⟩ := info_parts info_u8
  have HL := Lib.hid h
  have hlen := h.len
  have HF0 : Hid (∀ X : Obj, Below w.heap.size w (w.alloc X)) := Lib.hid fun X => (Below.refl _ _).alloc (Nat.le_refl _) X
  have HF2 : Hid (∀ X Y : Obj, Below w.heap.size w ((w.alloc X).alloc Y)) := Lib.hid fun X Y => ((Below.refl _ _).alloc (Nat.le_refl _) X).alloc (by rw [World.size_alloc]; omega) Y
  have e1 : (kd == 1) = false := by simp [hk]
  have HN1 : Hid (∀ V : World, Below w.heap.size w V → Calls Tryd.prog 58 #[v, .int .i64 1, .int .i64 2] V fun e w' => e = .returned (.int .i64 ((numA c 1 2 : Nat) : Int)) ∧ w' = V) := Lib.hid fun V hV => rNumber_any v c 1 2 (h.mono hV) ho (by decide) (by decide)
  have hb1 : numA c 1 2 < 256 ^ 2 := numA_lt c ho 1 2
  simp only [show (256 : Nat) ^ 2 = 65536 by decide] at hb1
  have HN3 : Hid (∀ V : World, Below w.heap.size w V → Calls Tryd.prog 58 #[v, .int .i64 3, .int .i64 1] V fun e w' => e = .returned (.int .i64 ((numA c 3 1 : Nat) : Int)) ∧ w' = V) := Lib.hid fun V hV => rNumber_any v c 3 1 (h.mono hV) ho (by decide) (by decide)
  have hb3 : numA c 3 1 < 256 ^ 1 := numA_lt c ho 3 1
  simp only [show (256 : Nat) ^ 1 = 256 by decide] at hb3
  have HN4 : Hid (∀ V : World, Below w.heap.size w V → Calls Tryd.prog 58 #[v, .int .i64 4, .int .i64 5] V fun e w' => e = .returned (.int .i64 ((numA c 4 5 : Nat) : Int)) ∧ w' = V) := Lib.hid fun V hV => rNumber_any v c 4 5 (h.mono hV) ho (by decide) (by decide)
  have hb4 : numA c 4 5 < 256 ^ 5 := numA_lt c ho 4 5
  simp only [show (256 : Nat) ^ 5 = 1099511627776 by decide] at hb4
  have HN9 : Hid (∀ V : World, Below w.heap.size w V → Calls Tryd.prog 58 #[v, .int .i64 9, .int .i64 4] V fun e w' => e = .returned (.int .i64 ((numA c 9 4 : Nat) : Int)) ∧ w' = V) := Lib.hid fun V hV => rNumber_any v c 9 4 (h.mono hV) ho (by decide) (by decide)
  have hb9 : numA c 9 4 < 256 ^ 4 := numA_lt c ho 9 4
  simp only [show (256 : Nat) ^ 4 = 4294967296 by decide] at hb9
  have HN13 : Hid (∀ V : World, Below w.heap.size w V → Calls Tryd.prog 58 #[v, .int .i64 13, .int .i64 1] V fun e w' => e = .returned (.int .i64 ((numA c 13 1 : Nat) : Int)) ∧ w' = V) := Lib.hid fun V hV => rNumber_any v c 13 1 (h.mono hV) ho (by decide) (by decide)
  have hb13 : numA c 13 1 < 256 ^ 1 := numA_lt c ho 13 1
  simp only [show (256 : Nat) ^ 1 = 256 by decide] at hb13
  have HN14 : Hid (∀ V : World, Below w.heap.size w V → Calls Tryd.prog 58 #[v, .int .i64 14, .int .i64 1] V fun e w' => e = .returned (.int .i64 ((numA c 14 1 : Nat) : Int)) ∧ w' = V) := Lib.hid fun V hV => rNumber_any v c 14 1 (h.mono hV) ho (by decide) (by decide)
  have hb14 : numA c 14 1 < 256 ^ 1 := numA_lt c ho 14 1
  simp only [show (256 : Nat) ^ 1 = 256 by decide] at hb14
  have HN15 : Hid (∀ V : World, Below w.heap.size w V → Calls Tryd.prog 58 #[v, .int .i64 15, .int .i64 1] V fun e w' => e = .returned (.int .i64 ((numA c 15 1 : Nat) : Int)) ∧ w' = V) := Lib.hid fun V hV => rNumber_any v c 15 1 (h.mono hV) ho (by decide) (by decide)
  have hb15 : numA c 15 1 < 256 ^ 1 := numA_lt c ho 15 1
  simp only [show (256 : Nat) ^ 1 = 256 by decide] at hb15
  have HN16 : Hid (∀ V : World, Below w.heap.size w V → Calls Tryd.prog 58 #[v, .int .i64 16, .int .i64 1] V fun e w' => e = .returned (.int .i64 ((numA c 16 1 : Nat) : Int)) ∧ w' = V) := Lib.hid fun V hV => rNumber_any v c 16 1 (h.mono hV) ho (by decide) (by decide)
  have hb16 : numA c 16 1 < 256 ^ 1 := numA_lt c ho 16 1
  simp only [show (256 : Nat) ^ 1 = 256 by decide] at hb16
  have HN17 : Hid (∀ V : World, Below w.heap.size w V → Calls Tryd.prog 58 #[v, .int .i64 17, .int .i64 1] V fun e w' => e = .returned (.int .i64 ((numA c 17 1 : Nat) : Int)) ∧ w' = V) := Lib.hid fun V hV => rNumber_any v c 17 1 (h.mono hV) ho (by decide) (by decide)
  have hb17 : numA c 17 1 < 256 ^ 1 := numA_lt c ho 17 1
  simp only [show (256 : Nat) ^ 1 = 256 by decide] at hb17
  have HN18 : Hid (∀ V : World, Below w.heap.size w V → Calls Tryd.prog 58 #[v, .int .i64 18, .int .i64 2] V fun e w' => e = .returned (.int .i64 ((numA c 18 2 : Nat) : Int)) ∧ w' = V) := Lib.hid fun V hV => rNumber_any v c 18 2 (h.mono hV) ho (by decide) (by decide)
  have hb18 : numA c 18 2 < 256 ^ 2 := numA_lt c ho 18 2
  simp only [show (256 : Nat) ^ 2 = 65536 by decide] at hb18
  have HN20 : Hid (∀ V : World, Below w.heap.size w V → Calls Tryd.prog 58 #[v, .int .i64 20, .int .i64 2] V fun e w' => e = .returned (.int .i64 ((numA c 20 2 : Nat) : Int)) ∧ w' = V) := Lib.hid fun V hV => rNumber_any v c 20 2 (h.mono hV) ho (by decide) (by decide)
  have hb20 : numA c 20 2 < 256 ^ 2 := numA_lt c ho 20 2
  simp only [show (256 : Nat) ^ 2 = 65536 by decide] at hb20
  have HN22 : Hid (∀ V : World, Below w.heap.size w V → Calls Tryd.prog 58 #[v, .int .i64 22, .int .i64 2] V fun e w' => e = .returned (.int .i64 ((numA c 22 2 : Nat) : Int)) ∧ w' = V) := Lib.hid fun V hV => rNumber_any v c 22 2 (h.mono hV) ho (by decide) (by decide)
  have hb22 : numA c 22 2 < 256 ^ 2 := numA_lt c ho 22 2
  simp only [show (256 : Nat) ^ 2 = 65536 by decide] at hb22
  obtain ⟨x1, hx1⟩ : ∃ x, x = numA c 1 2 := ⟨_, rfl⟩
  rw [← hx1] at HN1 hb1
  obtain ⟨x3, hx3⟩ : ∃ x, x = numA c 3 1 := ⟨_, rfl⟩
  rw [← hx3] at HN3 hb3
  obtain ⟨x4, hx4⟩ : ∃ x, x = numA c 4 5 := ⟨_, rfl⟩
  rw [← hx4] at HN4 hb4
  obtain ⟨x9, hx9⟩ : ∃ x, x = numA c 9 4 := ⟨_, rfl⟩
  rw [← hx9] at HN9 hb9
  obtain ⟨x13, hx13⟩ : ∃ x, x = numA c 13 1 := ⟨_, rfl⟩
  rw [← hx13] at HN13 hb13
  obtain ⟨x14, hx14⟩ : ∃ x, x = numA c 14 1 := ⟨_, rfl⟩
  rw [← hx14] at HN14 hb14
  obtain ⟨x15, hx15⟩ : ∃ x, x = numA c 15 1 := ⟨_, rfl⟩
  rw [← hx15] at HN15 hb15
  obtain ⟨x16, hx16⟩ : ∃ x, x = numA c 16 1 := ⟨_, rfl⟩
  rw [← hx16] at HN16 hb16
  obtain ⟨x17, hx17⟩ : ∃ x, x = numA c 17 1 := ⟨_, rfl⟩
  rw [← hx17] at HN17 hb17
  obtain ⟨x18, hx18⟩ : ∃ x, x = numA c 18 2 := ⟨_, rfl⟩
  rw [← hx18] at HN18 hb18
  obtain ⟨x20, hx20⟩ : ∃ x, x = numA c 20 2 := ⟨_, rfl⟩
  rw [← hx20] at HN20 hb20
  obtain ⟨x22, hx22⟩ : ∃ x, x = numA c 22 2 := ⟨_, rfl⟩
  rw [← hx22] at HN22 hb22
  have HX : Hid (x1 = numA c 1 2 ∧ x3 = numA c 3 1 ∧ x4 = numA c 4 5 ∧ x9 = numA c 9 4 ∧ x13 = numA c 13 1 ∧ x14 = numA c 14 1 ∧ x15 = numA c 15 1 ∧ x16 = numA c 16 1 ∧ x17 = numA c 17 1 ∧ x18 = numA c 18 2 ∧ x20 = numA c 20 2 ∧ x22 = numA c 22 2) := Lib.hid ⟨hx1, hx3, hx4, hx9, hx13, hx14, hx15, hx16, hx17, hx18, hx20, hx22⟩
  clear hx1 hx3 hx4 hx9 hx13 hx14 hx15 hx16 hx17 hx18 hx20 hx22
  have hw18 : IntKind.i64.wrap ((x18 : Int) + 1) = (x18 : Int) + 1 := IntWalk.i64_in _ (by omega)
  obtain ⟨ad, cap, rfl, -, -, -⟩ := h
  clear hk
  go_enter Tryd.func34, Tryd.ntmps34
  have HGS : Hid (pktV (gsA c kd) nilS = .agg #[.int .i64 kd, .int .i64 (x1 : Int), .int .i64 (x3 : Int), .int .i64 (x4 : Int), .bool false, .int .i64 0, .int .i64 0, .int .i64 0, .int .i64 0, .int .i64 0, .slice none 0 0, .int .i64 (x9 : Int), .int .i64 (x13 : Int), .int .i64 (x14 : Int), .int .i64 (x15 : Int), .int .i64 (x16 : Int), .int .i64 (x17 : Int), .int .i64 ((x18 : Int) + 1), .int .i64 (x20 : Int), .int .i64 (x22 : Int)]) := Lib.hid (by
    obtain ⟨h1, h3, h4, h9, h13, h14, h15, h16, h17, h18, h20, h22⟩ := HX.out
    unfold pktV pktC gsA
    rw [← h1, ← h3, ← h4, ← h9, ← h13, ← h14, ← h15, ← h16, ← h17, ← h18, ← h20, ← h22])
  go_wp2_with (first
    | (go_at_call 58; (first | (with_reducible refine (HN1.out _ (by first | with_reducible exact HF2.out _ _ | with_reducible exact HF0.out _)).mono ?_) | (with_reducible refine (HN3.out _ (by first | with_reducible exact HF2.out _ _ | with_reducible exact HF0.out _)).mono ?_) | (with_reducible refine (HN4.out _ (by first | with_reducible exact HF2.out _ _ | with_reducible exact HF0.out _)).mono ?_) | (with_reducible refine (HN9.out _ (by first | with_reducible exact HF2.out _ _ | with_reducible exact HF0.out _)).mono ?_) | (with_reducible refine (HN13.out _ (by first | with_reducible exact HF2.out _ _ | with_reducible exact HF0.out _)).mono ?_) | (with_reducible refine (HN14.out _ (by first | with_reducible exact HF2.out _ _ | with_reducible exact HF0.out _)).mono ?_) | (with_reducible refine (HN15.out _ (by first | with_reducible exact HF2.out _ _ | with_reducible exact HF0.out _)).mono ?_) | (with_reducible refine (HN16.out _ (by first | with_reducible exact HF2.out _ _ | with_reducible exact HF0.out _)).mono ?_) | (with_reducible refine (HN17.out _ (by first | with_reducible exact HF2.out _ _ | with_reducible exact HF0.out _)).mono ?_) | (with_reducible refine (HN18.out _ (by first | with_reducible exact HF2.out _ _ | with_reducible exact HF0.out _)).mono ?_) | (with_reducible refine (HN20.out _ (by first | with_reducible exact HF2.out _ _ | with_reducible exact HF0.out _)).mono ?_) | (with_reducible refine (HN22.out _ (by first | with_reducible exact HF2.out _ _ | with_reducible exact HF0.out _)).mono ?_)); rintro e _ ⟨rfl, rfl⟩)
    | ((with_reducible show wpList _ _ _ (⟨some 14, _, _, _, _, _⟩ :: _) _ _); refine wpList_built rfl 26 _ rfl #[.int .i64 kd, .int .i64 (x1 : Int), .int .i64 (x3 : Int), .int .i64 (x4 : Int), .bool false, .int .i64 0, .int .i64 0, .int .i64 0, .int .i64 0, .int .i64 0, .slice none 0 0, .int .i64 0, .int .i64 0, .int .i64 0, .int .i64 0, .int .i64 0, .int .i64 0, .int .i64 0, .int .i64 0, .int .i64 0] (by kernel_rfl) ?_)
    | ((with_reducible show wpList _ _ _ (⟨none, _, _, _, _, _⟩ :: _) _ _); refine wpList_storeRow1 _ rfl 26 (.tmp 5) (.tmp 14) rfl rfl rfl (by kernel_rfl) (by rfl) (by kernel_rfl) ?_)
    | ((with_reducible show wpList _ _ _ (⟨some 57, _, _, _, _, _⟩ :: _) _ _); refine wpList_built rfl 24 _ rfl #[.int .i64 (x9 : Int), .int .i64 (x13 : Int), .int .i64 (x14 : Int), .int .i64 (x15 : Int), .int .i64 (x16 : Int)] (by kernel_rfl) ?_)
    | ((with_reducible show wpList _ _ _ (⟨some 72, _, _, _, _, _⟩ :: _) _ _); refine wpList_loadRow1 rfl 26 (.tmp 5) rfl rfl _ Tryd.underlying26 rfl (by kernel_rfl) ?_)
    | ((with_reducible show wpList _ _ _ (⟨none, _, _, _, _, _⟩ :: _) _ _); refine wpList_storeRowM _ rfl 26 (.tmp 4) (.tmp 72) rfl rfl rfl (by kernel_rfl) (by rfl) (by kernel_rfl) ?_))
  refine bodyPost_ret (wr_row1 rfl _ _ w.heap.size 26 _ (0, 0) _ rfl (heap_mid w _ _) Tryd.underlying26 rfl (by kernel_rfl)) rfl ?_
  exact ⟨_, rfl, ⟨nilS, HGS.out.symm, ListAt.nil _ _⟩, HF2.out _ _⟩
end Go.Proofs.YtmihpbdgilmdiaaDoor
