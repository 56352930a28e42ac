/- Package mix: Row. -/
import Derived.Test.YtgdfodpmklfhgaaDoorMiB
namespace Go.Proofs.YtgdfodpmklfhgaaDoor
open Go.RowKit Go.Extern.Stop Go.Stop Go.Extern

def rowN (x M k : Nat) : List Int := (List.range k).map fun i => ((mixN x i % M : Nat) : Int)
theorem rowN_len (x M k : Nat) : (rowN x M k).length = k := by simp [rowN]
theorem rowN_get (x M k j : Nat) (h : j < k) : (rowN x M k).getD j 0 = ((mixN x j % M : Nat) : Int) := by
  simp [rowN, List.getD_eq_getElem?_getD, h]

set_option maxRecDepth 1000000 in
set_option maxHeartbeats 4000000 in
theorem Row_in {w : World} (x M n : Nat) (h1 : 1 ≤ M) (h2 : M ≤ 1048576) (hn : n ≤ 4096) : Calls Tryd.prog 10 #[.int .u32 (x : Int), .int .i64 (M : Int), .int .i64 (n : Int)] w fun e w' =>
    ∃ v, e = .returned (.tuple #[v, .nilIface]) ∧ w'.ownsRow w.heap.size 3 1 v n ((rowN x M n).map intV) ∧ Below w.heap.size w w' := by
  obtain ⟨i0, hi, hz0, hz1, hz2⟩ := info_parts info_int
  have hnI : (n : Int) ≤ 4096 := by omega
  go_enter Tryd.func10, Tryd.ntmps10
  go_wp2_with fail
  refine (bound_in M h1 h2).mono ?_
  rintro e w1 ⟨rfl, rfl⟩
  go_wp2_with (at_make; refine wpList_make_full _ rfl _ _ 32 rfl w.heap.size 3 i0 (.int .i64 0) 1 Tryd.underlying32 hi hz0 hz1 .i64 .i64 _ _ n rfl rfl rfl rfl (by rw [hz2]; omega) (by unfold maxLen; omega) (Nat.le_refl _) ?_; intro w0 hown0 hgrow0; have hb0 := Lib.hid ((Below.refl w.heap.size w).grown hgrow0 (Nat.le_refl _) (fun k hk => by cases hk)); have ho0 := Lib.hid hown0; clear hown0 hgrow0)
  go_loopw [25] (fun i wr => ∃ k : Nat, k ≤ n ∧ i = .int .i64 k ∧ (∃ vs : List Int, vs.length = n ∧ (∀ j, j < k → vs.getD j 0 = ((mixN x j % M : Nat) : Int)) ∧ wr.ownsRow w.heap.size 3 1 (.slice (some ⟨w.heap.size, 0, none⟩) n n) n (vs.map intV)) ∧ Below w.heap.size w wr) (fun i _ => n - (intOf i).toNat)
  case atStart => exact ⟨0, Nat.zero_le _, rfl, ⟨List.replicate n 0, by simp, fun j hj => by omega, by rw [List.map_replicate]; have := ho0.out; rw [Nat.mul_one] at this; exact toList_madeCells_one (.int .i64 0) n ▸ this⟩, hb0.out⟩
  case round =>
    obtain ⟨k, hk, rfl, ⟨vs, hvl, hvs, hown⟩, hbel⟩ := hrel
    have hsz := hbel.size
    by_cases hlt : k < n
    · have hy3 : wr.cell? ⟨w.heap.size, k, none⟩ = some (.int .i64 (vs.getD k 0)) := by
        rw [hown.cellAt k (by omega)]
        simp [List.getD_eq_getElem?_getD, hvl, hlt, intV]
      have hy4 : wr.frozen? ⟨w.heap.size, k, none⟩ = false := hown.frozenAt k
      have HX : Hid (∀ r, mixN x k % M = r → ∀ j, j < k + 1 → (vs.set k (r : Int)).getD j 0 = ((mixN x j % M : Nat) : Int)) := Lib.hid fun r er j hj => by
        simp only [List.getD_eq_getElem?_getD, List.getElem?_set] at *
        by_cases e : k = j
        · subst e; rw [if_pos rfl, if_pos (by omega), ← er]; rfl
        · rw [if_neg e]; exact hvs j (by omega)
      have e1 : IntKind.u32.wrap (k : Int) = (k : Int) := by rw [IntKind.wrap_u32]; omega
      have HO := Lib.hid hown
      have HB := Lib.hid hbel
      have HL := Lib.hid hvl
      clear hown hbel hvs hvl
      generalize vs.getD k 0 = z at hy3
      go_wp2_with fail
      refine (mBelow_any x k M h1 h2).mono ?_
      rintro e w1 ⟨rfl, rfl⟩
      generalize hr : mixN x k % M = r
      have HR := Lib.hid hr
      clear hr
      go_wp2
      go_roundw
      case rel => exact ⟨k + 1, by omega, by go_num, ⟨vs.set k (r : Int), by simpa using HL.out, HX.out r HR.out, by rw [List.map_set]; exact (HO.out.stored k (.int .i64 (r : Int))).1⟩, HB.out.setCell (p := ⟨w.heap.size, k, none⟩) (Nat.le_refl _) _⟩
      case measure => simp [intOf]; omega
    · have hk' : k = n := by omega
      have HO := Lib.hid hown
      have HB := Lib.hid hbel
      have HV : Hid (vs = rowN x M n) := Lib.hid (by
        apply List.ext_getElem (by rw [rowN_len, hvl])
        intro j hj1 hj2
        have e := hvs j (by omega)
        rw [← rowN_get x M n j (by omega)] at e
        simpa [List.getD_eq_getElem?_getD, hj1, hj2] using e)
      clear hown hbel hvs hvl
      go_wp2
      go_ret2
      exact ⟨_, rfl, by have := HO.out; rw [HV.out] at this; exact this, HB.out⟩

set_option maxRecDepth 1000000 in
set_option maxHeartbeats 1000000 in
theorem Row_out {w : World} (x : Nat) (m n : Int) (h : (m < 1 ∨ 1048576 < m) ∨ (n < 0 ∨ 4096 < n)) : Calls Tryd.prog 10 #[.int .u32 (x : Int), .int .i64 m, .int .i64 n] w fun e w' => ∃ E, e = .returned (.tuple #[.slice none 0 0, E]) ∧ ErrAns 1 ⟨#[109, 105, 120, 46, 82, 111, 119]⟩ w' E ∧ Below w.heap.size w w' := by
  by_cases hm : m < 1 ∨ 1048576 < m
  · clear h
    have HM := Lib.hid hm
    clear hm
    go_enter Tryd.func10, Tryd.ntmps10
    go_wp2_with fail
    refine (bound_out m HM.out).mono ?_
    rintro e w1 ⟨rfl, rfl⟩
    go_wp2_with fail
    refine (New_ans _ 1 (by decide) _).mono ?_
    rintro e w1 ⟨E1, rfl, hc1, hb1⟩
    have HC1 := Lib.hid hc1
    have HB1 := Lib.hid hb1
    obtain ⟨u, v, rfl⟩ := hc1.some (by decide)
    clear hc1 hb1
    go_wp2
    go_ret2
    exact ⟨_, rfl, HC1.out, HB1.out⟩
  · obtain ⟨M, rfl⟩ : ∃ M : Nat, m = (M : Int) := ⟨m.toNat, by omega⟩
    have h1 : 1 ≤ M := by omega
    have h2 : M ≤ 1048576 := by omega
    have hn : n < 0 ∨ 4096 < n := h.resolve_left hm
    clear h hm
    rcases hn with hn | hn
    · have hd : decide (n < 0) = true := decide_eq_true hn
      go_enter Tryd.func10, Tryd.ntmps10
      go_wp2_with fail
      refine (bound_in M h1 h2).mono ?_
      rintro e w1 ⟨rfl, rfl⟩
      go_wp2_with fail
      refine (New_ans _ 1 (by decide) _).mono ?_
      rintro e w1 ⟨E1, rfl, hc1, hb1⟩
      have HC1 := Lib.hid hc1
      have HB1 := Lib.hid hb1
      obtain ⟨u, v, rfl⟩ := hc1.some (by decide)
      clear hc1 hb1
      go_wp2
      go_ret2
      exact ⟨_, rfl, HC1.out, HB1.out⟩
    · have hn0 : ¬ n < 0 := by omega
      have hd : decide (n < 0) = false := decide_eq_false hn0
      have hd2 : decide (4096 < n) = true := decide_eq_true hn
      go_enter Tryd.func10, Tryd.ntmps10
      go_wp2_with fail
      refine (bound_in M h1 h2).mono ?_
      rintro e w1 ⟨rfl, rfl⟩
      go_wp2_with fail
      refine (New_ans _ 1 (by decide) _).mono ?_
      rintro e w1 ⟨E1, rfl, hc1, hb1⟩
      have HC1 := Lib.hid hc1
      have HB1 := Lib.hid hb1
      obtain ⟨u, v, rfl⟩ := hc1.some (by decide)
      clear hc1 hb1
      go_wp2
      go_ret2
      exact ⟨_, rfl, HC1.out, HB1.out⟩
end Go.Proofs.YtgdfodpmklfhgaaDoor
