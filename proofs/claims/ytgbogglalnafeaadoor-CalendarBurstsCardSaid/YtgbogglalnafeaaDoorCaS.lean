/- The document's functions of layer 18: Row, Same. -/
import Derived.Test.YtgbogglalnafeaaDoorCaR
import Derived.Test.YtgbogglalnafeaaDoorOwn
import Derived.Deep.QuietTactic
namespace Go.Proofs.YtgbogglalnafeaaDoor
open Go.RowKit Go.Extern.Stop Go.Stop Go.Extern

def stV (n : Nat) : Value := .int .u32 (n : Int)
theorem info_st : (Tryd.prog.info? 48).map (fun i => (i.zero, i.size, i.bytes)) = some (some (.int .u32 0), 1, 4) := by kernel_rfl

set_option maxRecDepth 1000000 in
theorem caSame_any {w : World} (v1 v2 : Value) (l : List Nat) (h1 : ListAt stV w v1 l) (h2 : ListAt stV w v2 l) :
    Calls Tryd.prog 20 #[v1, v2] w fun e w' => e = .returned (.bool true) ∧ Below w.heap.size w w' := by
  have hlen := h1.len
  obtain ⟨a1, cap1, rfl, hcap1, -, hcell1⟩ := h1
  obtain ⟨a2, cap2, rfl, hcap2, -, hcell2⟩ := h2
  have HC1 := Lib.hid hcell1
  have HC2 := Lib.hid hcell2
  clear hcell1 hcell2
  go_enter Tryd.func20, Tryd.ntmps20
  go_wp2
  go_loopw [5] (fun i wr => ∃ k : Nat, k ≤ l.length ∧ i = .int .i64 k ∧ Below w.heap.size w wr) (fun i _ => l.length - (intOf i).toNat)
  case atStart => exact ⟨0, Nat.zero_le _, rfl, Below.refl _ _⟩
  case round =>
    obtain ⟨k, hk, rfl, hbel⟩ := hrel
    have HB := Lib.hid hbel
    by_cases hlt : k < l.length
    · obtain ⟨b1, off1, rfl, hc1⟩ := HC1.out (by omega)
      obtain ⟨b2, off2, rfl, hc2⟩ := HC2.out (by omega)
      have hx1 : w.cell? ⟨b1, off1 + k, none⟩ = some (.int .u32 ((l[k] : Nat) : Int)) := hc1 k hlt
      have hx2 : w.cell? ⟨b2, off2 + k, none⟩ = some (.int .u32 ((l[k] : Nat) : Int)) := hc2 k hlt
      have hy1 : wr.cell? ⟨b1, off1 + k, none⟩ = some (.int .u32 ((l[k] : Nat) : Int)) := (hbel.cell (p := ⟨b1, off1 + k, none⟩) (World.block_lt_of_cell? w _ hx1)).trans hx1
      have hy2 : wr.cell? ⟨b2, off2 + k, none⟩ = some (.int .u32 ((l[k] : Nat) : Int)) := (hbel.cell (p := ⟨b2, off2 + k, none⟩) (World.block_lt_of_cell? w _ hx2)).trans hx2
      clear hbel hc1 hc2 hx1 hx2
      generalize l[k] = y at *
      have hyb : ((y : Int) != (y : Int)) = false := by simp
      go_wp2
      go_quiet (fail)
      go_wp2
      go_roundw
      case rel => exact ⟨k + 1, by omega, by go_num, below_draws HB.out _⟩
      case measure => simp [intOf]; omega
    · clear hbel
      go_wp2
      go_ret
      exact ⟨rfl, HB.out⟩

set_option linter.unusedSimpArgs false in
set_option linter.unusedVariables false in
set_option maxRecDepth 1000000 in
set_option maxHeartbeats 4000000 in
theorem caRow_any {w : World} (b u t : Nat) (hb : 2 ≤ b) (hb2 : b ≤ 4096) (hu : u < b) (ht : t < 1099511627777) : Calls Tryd.prog 21 #[.int .i64 (b : Int), .int .i64 (u : Int), .int .i64 (t : Int)] w fun e w' => ∃ v', e = .returned v' ∧ w'.ownsRow w.heap.size 48 1 v' (rowZ b u t).length ((rowZ b u t).map stV) ∧ Below w.heap.size w w' := by
  obtain ⟨i0, hi, hz0, hz1, hz2⟩ := info_parts info_st
  have HSP : Hid (∀ V : World, Calls Tryd.prog 19 #[.int .i64 (b : Int), .int .i64 (u : Int), .int .i64 (t : Int)] V fun e w' => e = .returned (.int .i64 ((stepsZ b u t : Nat) : Int)) ∧ V = w') := Lib.hid fun V => caSteps_any b u t hb hb2 hu ht
  have HBU : Hid (∀ V : World, Calls Tryd.prog 12 #[.int .i64 (b : Int), .int .i64 (u : Int), .int .i64 (t : Int)] V fun e w' => e = .returned (.bool (burstB b u t)) ∧ V = w') := Lib.hid fun V => caBurst_any b u t hb hb2 hu ht
  have hSb : stepsZ b u t ≤ 9007199254841000 := by
    unfold stepsZ
    have h1 : t / b ≤ 1099511627776 := Nat.le_trans (Nat.div_le_self t b) (by omega)
    have h2 : t / b * (b + u) ≤ 9007199254740992 := Nat.le_trans (Nat.mul_le_mul h1 (show b + u ≤ 8192 by omega)) (by decide)
    have h3 := cntZ_le (b := b) (u := u) (r := t % b) (Nat.le_of_lt (Nat.mod_lt _ (by omega))) (by omega)
    omega
  have HRZ : Hid (rowZ b u t = if burstB b u t then [stepsZ b u t % 4294967296, (stepsZ b u t + 1) % 4294967296] else [stepsZ b u t % 4294967296]) := Lib.hid rfl
  generalize stepsZ b u t = S at *
  have m1 : (S : Int).tmod 4294967296 = ((S % 4294967296 : Nat) : Int) := rfl
  have m2 : ((S : Int) + 1).tmod 4294967296 = (((S + 1) % 4294967296 : Nat) : Int) := by
    have : (S : Int) + 1 = ((S + 1 : Nat) : Int) := by omega
    rw [this]; rfl
  have b1 : S % 4294967296 < 4294967296 := Nat.mod_lt _ (by decide)
  have b2 : (S + 1) % 4294967296 < 4294967296 := Nat.mod_lt _ (by decide)
  generalize S % 4294967296 = x at *
  generalize (S + 1) % 4294967296 = y at *
  have c1 : IntKind.u32.wrap (x : Int) = (x : Int) := by rw [IntKind.wrap_u32]; omega
  have c2 : IntKind.u32.wrap (y : Int) = (y : Int) := by rw [IntKind.wrap_u32]; omega
  have c3 : (x : Int) % 4294967296 = (x : Int) := by omega
  have c4 : (y : Int) % 4294967296 = (y : Int) := by omega
  have HOS : Hid ((w.alloc (.cells #[.int .u32 (x : Int)] 48)).ownsRow w.heap.size 48 1 (.slice (some ⟨w.heap.size, 0, none⟩) 1 1) 1 [.int .u32 (x : Int)]) := Lib.hid (own_of_heap (base := w.heap.size) (n := 1) (g := w.heap.size) (e := 48) (xs := [.int .u32 (x : Int)]) (Nat.le_refl _) rfl (by decide) (heap_alloc_new w _))
  have HB0 := Lib.hid ((Below.refl w.heap.size w).alloc (Nat.le_refl _) (.cells #[.int .u32 (x : Int)] 48))
  obtain ⟨W1, hW1⟩ : ∃ W, W = w.alloc (.cells #[.int .u32 (x : Int)] 48) := ⟨_, rfl⟩
  rw [← hW1] at HOS HB0
  have HW := Lib.hid hW1
  clear hW1
  cases hB : burstB b u t with
  | false =>
    rw [hB] at HBU HRZ
    go_enter Tryd.func21, Tryd.ntmps21
    go_wp2_with fail
    refine (HSP.out _).mono ?_
    rintro e w1 ⟨rfl, rfl⟩
    go_wp2_with fail
    rw [← HW.out]
    refine (HBU.out _).mono ?_
    rintro e w1 ⟨rfl, rfl⟩
    go_wp2
    go_ret
    exact ⟨_, rfl, by rw [HRZ.out]; exact HOS.out, HB0.out⟩
  | true =>
    rw [hB] at HBU HRZ
    have HOA := Lib.hid (HOS.out.alloc (.cells #[.int .u32 (y : Int)] 48))
    have HSZ := Lib.hid HB0.out.size
    go_enter Tryd.func21, Tryd.ntmps21
    go_wp2_with fail
    refine (HSP.out _).mono ?_
    rintro e w1 ⟨rfl, rfl⟩
    go_wp2_with fail
    rw [← HW.out]
    refine (HBU.out _).mono ?_
    rintro e w1 ⟨rfl, rfl⟩
    go_wp2_with (at_builtin; refine wpList_append_own _ rfl (.tmp 21) (.tmp 26) 33 rfl w.heap.size 48 i0 (.int .u32 0) 1 4 Tryd.underlying33 hi hz0 hz1 hz2 rfl (by decide) (.slice (some ⟨w.heap.size, 0, none⟩) 1 1) 1 [.int .u32 (x : Int)] rfl HOA.out ⟨W1.heap.size, 0, none⟩ 1 1 [.int .u32 (y : Int)] rfl rfl (cell_one_new _ _ _) (fun x hx => by simp at hx; subst hx; rfl) (by unfold maxLen; omega) (by omega) (by have := HSZ.out; simp; omega) ?_; intro v5 w5 hown1 hgrow1 _; have HB5 := Lib.hid ((HB0.out.alloc HSZ.out _).grown hgrow1 (by have := HSZ.out; simp; omega) (fun k hk => (HOA.out.lt k hk).1)); have HO5 := Lib.hid hown1; clear hown1 hgrow1)
    go_ret
    exact ⟨_, rfl, by rw [HRZ.out]; exact HO5.out, HB5.out⟩
end Go.Proofs.YtgbogglalnafeaaDoor
