/- geyserref02: Same at unlike lists of numbers. -/
import Derived.Test.YtpnjjbbpcdeooaaSameI
namespace Go.Proofs.Ytpnjjbbpcdeooaa
open Go.RowKit Go.Extern.Stop Go.Stop Go.Extern

theorem first_unlike {l m : List Int} (hl : l.length = m.length) (hne : l ≠ m) : ∃ p, p < l.length ∧ l.getD p 0 ≠ m.getD p 0 ∧ ∀ j, j < p → l.getD j 0 = m.getD j 0 := by
  have h1 : ∃ q, q < l.length ∧ l.getD q 0 ≠ m.getD q 0 := by
    refine Classical.byContradiction fun hno => hne (List.ext_getElem hl fun i hi hj => ?_)
    refine Classical.byContradiction fun he => hno ⟨i, hi, ?_⟩
    rw [List.getD_eq_getElem?_getD, List.getElem?_eq_getElem hi, List.getD_eq_getElem?_getD, List.getElem?_eq_getElem hj]
    exact he
  obtain ⟨q, hq1, hq2⟩ := h1
  induction q using Nat.strongRecOn with
  | _ q ih =>
    by_cases h : ∀ j, j < q → l.getD j 0 = m.getD j 0
    · exact ⟨q, hq1, hq2, h⟩
    · obtain ⟨j, hj⟩ := Classical.not_forall.1 h
      obtain ⟨hj1, hj2⟩ := Classical.not_imp.1 hj
      exact ih j hj1 (by omega) hj2

set_option maxRecDepth 1000000 in
theorem SameI_not {w : World} (v1 v2 : Value) (l m : List Int) (h1 : ListAt intV w v1 l) (h2 : ListAt intV w v2 m) (hne : l ≠ m) :
    Calls Try.prog 13 #[v1, v2] w fun e w' => e = .returned (.bool false) ∧ Below w.heap.size w w' := by
  have hlen := h1.len
  have hlen2 := h2.len
  obtain ⟨a1, cap1, rfl, hcap1, -, hcell1⟩ := h1
  obtain ⟨a2, cap2, rfl, hcap2, -, hcell2⟩ := h2
  by_cases hll : l.length = m.length
  · obtain ⟨p, hp1, hp2, hp3⟩ := first_unlike hll hne
    have HC1 := Lib.hid hcell1
    have HC2 : Hid (0 < l.length → ∃ b off, a2 = some ⟨b, off, none⟩ ∧ ∀ j, j < l.length → w.cell? ⟨b, off + j, none⟩ = some (.int .i64 (m.getD j 0))) := Lib.hid fun h => by
      obtain ⟨b, off, e, hc⟩ := hcell2 (hll ▸ h)
      refine ⟨b, off, e, fun j hj => ?_⟩
      rw [hc j (by omega), List.getD_eq_getElem?_getD, List.getElem?_eq_getElem (by omega)]
      rfl
    have HP2 := Lib.hid hp2
    have HP3 := Lib.hid hp3
    rw [← hll]
    clear hcell1 hcell2 hp2 hp3 hcap2 hlen2 hll
    go_enter Try.func13, Try.ntmps13
    go_wp2
    go_loopw [5] (fun i wr => ∃ k : Nat, k ≤ p ∧ i = .int .i64 k ∧ Below w.heap.size w wr) (fun i _ => l.length - (intOf i).toNat)
    case atStart => exact ⟨0, Nat.zero_le _, rfl, Below.refl _ _⟩
    case round =>
      obtain ⟨k, hk, rfl, hbel⟩ := hrel
      have HB := Lib.hid hbel
      have hlt : k < l.length := by omega
      obtain ⟨b1, off1, rfl, hc1⟩ := HC1.out (by omega)
      obtain ⟨b2, off2, rfl, hc2⟩ := HC2.out (by omega)
      have hx1 : w.cell? ⟨b1, off1 + k, none⟩ = some (.int .i64 (l.getD k 0)) := by
        rw [List.getD_eq_getElem?_getD, List.getElem?_eq_getElem hlt]; exact hc1 k hlt
      have hx2 := hc2 k hlt
      have hy1 : wr.cell? ⟨b1, off1 + k, none⟩ = some (.int .i64 (l.getD k 0)) := (hbel.cell (p := ⟨b1, off1 + k, none⟩) (World.block_lt_of_cell? w _ hx1)).trans hx1
      have hy2 : wr.cell? ⟨b2, off2 + k, none⟩ = some (.int .i64 (m.getD k 0)) := (hbel.cell (p := ⟨b2, off2 + k, none⟩) (World.block_lt_of_cell? w _ hx2)).trans hx2
      clear hbel hc1 hc2 hx1 hx2
      by_cases hkp : k < p
      · rw [← HP3.out k hkp] at hy2
        generalize l.getD k 0 = y at *
        have hyb : (y != y) = false := by simp
        go_wp2
        go_quiet (fail)
        go_wp2
        go_roundw
        case rel => exact ⟨k + 1, by omega, by go_num, below_draws HB.out _⟩
        case measure => simp [intOf]; omega
      · obtain rfl : k = p := by omega
        have hyb : (l.getD k 0 != m.getD k 0) = true := bne_iff_ne.2 HP2.out
        clear HP2 HP3
        generalize l.getD k 0 = y at *
        generalize m.getD k 0 = z at *
        go_wp2
        go_quiet (fail)
        go_wp2
        go_ret
        exact ⟨rfl, below_draws HB.out _⟩
  · have hb : ((l.length : Int) != (m.length : Int)) = true := bne_iff_ne.2 (by omega)
    clear hcell1 hcell2
    go_enter Try.func13, Try.ntmps13
    go_wp2
    go_ret
    exact ⟨rfl, Below.refl _ _⟩
end Go.Proofs.Ytpnjjbbpcdeooaa
