/- The document's Same of rows of words, at like rows. -/
import Derived.Test.YticoaioeeppapaaGreatDoorG07
import Derived.Test.YticoaioeeppapaaGreatDoorG01
import Derived.Deep.QuietTactic
import Derived.BigQuiet
import Derived.WalkSmall
namespace Go.Proofs.YticoaioeeppapaaGreatDoor
open Go.RowKit Go.Extern.Stop Go.Stop Go.Extern

set_option maxRecDepth 1000000 in
theorem SameW_draws {w : World} (v1 v2 : Value) (l : List Nat) (h1 : ListAt wordV w v1 l) (h2 : ListAt wordV w v2 l) :
    Calls Tryz.prog 37 #[v1, v2] w fun e w' => e = .returned (.bool true) ∧ ∃ m, w' = w.drewN m := by
  have hlen := h1.len
  obtain ⟨a1, cap1, rfl, hcap1, -, hcell1⟩ := h1
  obtain ⟨a2, cap2, rfl, hcap2, -, hcell2⟩ := h2
  have HC1 := Lib.hid hcell1
  have HC2 := Lib.hid hcell2
  clear hcell1 hcell2
  go_enter Tryz.func37, Tryz.ntmps37
  go_wp2
  go_loopw [5] (fun i wr => ∃ k m : Nat, k ≤ l.length ∧ i = .int .i64 k ∧ w.drewN m = wr) (fun i _ => l.length - (intOf i).toNat)
  case atStart => exact ⟨0, 0, Nat.zero_le _, rfl, rfl⟩
  case round =>
    obtain ⟨k, m, hk, rfl, rfl⟩ := hrel
    by_cases hlt : k < l.length
    · obtain ⟨b1, off1, rfl, hc1⟩ := HC1.out (by omega)
      obtain ⟨b2, off2, rfl, hc2⟩ := HC2.out (by omega)
      have hx1 : w.cell? ⟨b1, off1 + k, none⟩ = some (.int .u64 (l[k] : Int)) := hc1 k hlt
      have hx2 : w.cell? ⟨b2, off2 + k, none⟩ = some (.int .u64 (l[k] : Int)) := hc2 k hlt
      clear hc1 hc2
      generalize l[k] = y at *
      have hyb : ((y : Int) != (y : Int)) = false := by simp
      go_wp2
      go_quiet (fail)
      go_wp2
      go_roundw
      case rel => exact ⟨k + 1, _, by omega, by go_num, rfl⟩
      case measure => simp [intOf]; omega
    · go_wp2
      go_ret
      exact ⟨rfl, m, rfl⟩

set_option maxRecDepth 1000000 in
theorem refSame_any {w : World} (v1 v2 : Value) (L : List (List Nat)) (h1 : MatAt wordV w v1 L) (h2 : MatAt wordV w v2 L) :
    Calls Tryz.prog 14 #[v1, v2] w fun e w' => e = .returned (.bool true) ∧ Below w.heap.size w w' := by
  have hlen := h1.len
  obtain ⟨a1, cap1, rfl, hcap1, -, hcell1⟩ := h1.opens
  obtain ⟨a2, cap2, rfl, hcap2, -, hcell2⟩ := h2.opens
  have HC1 := Lib.hid hcell1
  have HC2 := Lib.hid hcell2
  clear hcell1 hcell2 h1 h2
  go_enter Tryz.func14, Tryz.ntmps14
  go_wp2
  go_loopw [5] (fun i wr => ∃ k : Nat, k ≤ L.length ∧ i = .int .i64 k ∧ Below w.heap.size w wr) (fun i _ => L.length - (intOf i).toNat)
  case atStart => exact ⟨0, Nat.zero_le _, rfl, Below.refl _ _⟩
  case round =>
    obtain ⟨k, hk, rfl, hbel⟩ := hrel
    have HB := Lib.hid hbel
    by_cases hlt : k < L.length
    · obtain ⟨b1, off1, rfl, hc1⟩ := HC1.out (by omega)
      obtain ⟨b2, off2, rfl, hc2⟩ := HC2.out (by omega)
      obtain ⟨x1, hx1, hl1⟩ := hc1 k hlt
      obtain ⟨x2, hx2, hl2⟩ := hc2 k hlt
      have hy1 := (hbel.cell (p := ⟨b1, off1 + k, none⟩) (World.block_lt_of_cell? w _ hx1)).trans hx1
      have hy2 := (hbel.cell (p := ⟨b2, off2 + k, none⟩) (World.block_lt_of_cell? w _ hx2)).trans hx2
      have HCall : Hid (∀ nd : Nat, Calls Tryz.prog 37 #[x1, x2] (wr.drewN nd) fun e w'' => e = .returned (.bool true) ∧ ∃ m, w'' = (wr.drewN nd).drewN m) := Lib.hid fun nd =>
        SameW_draws _ _ (L.getD k []) (hl1.mono (below_draws hbel nd)) (hl2.mono (below_draws hbel nd))
      clear hbel hc1 hc2 hx1 hx2 hl1 hl2
      go_wp2
      go_quiet (exact Calls.quiet_of (HCall.out _))
      go_wp2
      go_roundw
      case rel => exact ⟨k + 1, by omega, by go_num, below_draws HB.out _⟩
      case measure => simp [intOf]; omega
    · clear hbel
      go_wp2
      go_ret
      exact ⟨rfl, HB.out⟩
end Go.Proofs.YticoaioeeppapaaGreatDoor
