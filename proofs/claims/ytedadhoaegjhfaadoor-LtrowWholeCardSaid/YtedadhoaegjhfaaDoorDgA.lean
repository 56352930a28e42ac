/- Package degree and the document's table: Of, Upto, Share, All. -/
import Derived.Test.YtedadhoaegjhfaaDoorTabPairs
import Derived.Test.YtedadhoaegjhfaaDoorSyErr
import Derived.Test.YtedadhoaegjhfaaDoorLists
namespace Go.Proofs.YtedadhoaegjhfaaDoor
open Go.RowKit Go.Extern.Stop Go.Stop Go.Extern

/-- The table: bounds and degrees. -/
def dgTab : List (Int × Int) := [(10241, 1), (491582, 2), (712794, 3), (831695, 4), (948446, 10), (1032189, 11), (1048576, 40)]
abbrev DgTab (w : World) : Prop := PairsAt w 1 dgTab

/-- The degree of a number. -/
def dgOf (v : Int) : Int := if v < 10241 then 1 else if v < 491582 then 2 else if v < 712794 then 3 else if v < 831695 then 4 else if v < 948446 then 10 else if v < 1032189 then 11 else 40

theorem dgTab_cells {w : World} (h : DgTab w) :
    (w.cell? ⟨1, 0, none⟩ = some (.int .i64 10241) ∧ w.cell? ⟨1, 1, none⟩ = some (.int .i64 1)) ∧
    (w.cell? ⟨1, 2, none⟩ = some (.int .i64 491582) ∧ w.cell? ⟨1, 3, none⟩ = some (.int .i64 2)) ∧
    (w.cell? ⟨1, 4, none⟩ = some (.int .i64 712794) ∧ w.cell? ⟨1, 5, none⟩ = some (.int .i64 3)) ∧
    (w.cell? ⟨1, 6, none⟩ = some (.int .i64 831695) ∧ w.cell? ⟨1, 7, none⟩ = some (.int .i64 4)) ∧
    (w.cell? ⟨1, 8, none⟩ = some (.int .i64 948446) ∧ w.cell? ⟨1, 9, none⟩ = some (.int .i64 10)) ∧
    (w.cell? ⟨1, 10, none⟩ = some (.int .i64 1032189) ∧ w.cell? ⟨1, 11, none⟩ = some (.int .i64 11)) ∧
    (w.cell? ⟨1, 12, none⟩ = some (.int .i64 1048576) ∧ w.cell? ⟨1, 13, none⟩ = some (.int .i64 40)) :=
  ⟨h 0 (by decide), h 1 (by decide), h 2 (by decide), h 3 (by decide), h 4 (by decide), h 5 (by decide), h 6 (by decide)⟩

theorem dgTab_le : ∀ (k : Nat) (hk : k < 7), (dgTab[k]'hk).1 ≤ 1048576 := by decide

/-- The document's rows: the first whose bound is above v. -/
theorem dgOf_hit (v : Int) (k : Nat) (hk : k < 7) (h : ∀ j (hj : j < k), (dgTab[j]'(by show j < 7; omega)).1 ≤ v) (hv : v < (dgTab[k]'hk).1) : dgOf v = (dgTab[k]'hk).2 := by
  unfold dgOf
  rcases (by omega : k = 0 ∨ k = 1 ∨ k = 2 ∨ k = 3 ∨ k = 4 ∨ k = 5 ∨ k = 6) with rfl | rfl | rfl | rfl | rfl | rfl | rfl
  · have h1 : v < 10241 := hv
    show _ = (1 : Int); split <;> omega
  · have h0 : 10241 ≤ v := h 0 (by omega)
    have h1 : v < 491582 := hv
    rw [if_neg (by omega), if_pos (by omega)]; rfl
  · have h0 : 491582 ≤ v := h 1 (by omega)
    have h1 : v < 712794 := hv
    rw [if_neg (by omega), if_neg (by omega), if_pos (by omega)]; rfl
  · have h0 : 712794 ≤ v := h 2 (by omega)
    have h1 : v < 831695 := hv
    rw [if_neg (by omega), if_neg (by omega), if_neg (by omega), if_pos (by omega)]; rfl
  · have h0 : 831695 ≤ v := h 3 (by omega)
    have h1 : v < 948446 := hv
    rw [if_neg (by omega), if_neg (by omega), if_neg (by omega), if_neg (by omega), if_pos (by omega)]; rfl
  · have h0 : 948446 ≤ v := h 4 (by omega)
    have h1 : v < 1032189 := hv
    rw [if_neg (by omega), if_neg (by omega), if_neg (by omega), if_neg (by omega), if_neg (by omega), if_pos (by omega)]; rfl
  · have h0 : 1032189 ≤ v := h 5 (by omega)
    rw [if_neg (by omega), if_neg (by omega), if_neg (by omega), if_neg (by omega), if_neg (by omega), if_neg (by omega)]; rfl

set_option maxRecDepth 1000000 in
set_option maxHeartbeats 1000000 in
theorem DgOf_in {w : World} (v : Int) (h0 : 0 ≤ v) (h1 : v < 1048576) (hT : DgTab w) :
    Calls Tryd.prog 40 #[.int .i64 v] w fun e w' => e = .returned (.tuple #[.int .i64 (dgOf v), .nilIface]) ∧ w = w' := by
  have HT := Lib.hid hT
  clear hT
  go_enter Tryd.func40, Tryd.ntmps40
  go_wp2
  go_loopw [7] (fun i wr => ∃ k : Nat, k ≤ 7 ∧ i = .int .i64 k ∧ w = wr ∧ ∀ j (hj : j < 7), j < k → (dgTab[j]'hj).1 ≤ v) (fun i _ => 7 - (intOf i).toNat)
  case atStart => exact ⟨0, by omega, rfl, rfl, fun j _ hj => by omega⟩
  case round =>
    obtain ⟨k, hk, rfl, rfl, hj⟩ := hrel
    have hk7 : k < 7 := by
      rcases Nat.lt_or_ge k 7 with h | h
      · exact h
      · have : (1048576 : Int) ≤ v := hj 6 (by omega) (by omega)
        omega
    obtain ⟨hc0, hc1⟩ := HT.out k hk7
    have HJ := Lib.hid hj
    have HH := Lib.hid (fun hv => dgOf_hit v k hk7 (fun j hjk => hj j (by omega) hjk) hv)
    clear hj
    obtain ⟨B, hB⟩ : ∃ B, (dgTab[k]'hk7).1 = B := ⟨_, rfl⟩
    obtain ⟨D, hD⟩ : ∃ D, (dgTab[k]'hk7).2 = D := ⟨_, rfl⟩
    rw [hB] at hc0
    rw [hD] at hc1
    have HBB := Lib.hid hB
    have HDD := Lib.hid hD
    clear hB hD
    by_cases hv : v < B
    · have hd : dgOf v = D := (HH.out (by rw [HBB.out]; exact hv)).trans HDD.out
      go_wp2
      go_ret2
      exact ⟨by rw [hd]; rfl, rfl⟩
    · have HN := Lib.hid hv
      go_wp2
      go_roundw
      case rel => exact ⟨k + 1, by omega, by go_num, trivial, fun j hj7 hj => by
        by_cases e : j = k
        · subst e; rw [HBB.out]; have := HN.out; omega
        · exact HJ.out j hj7 (by omega)⟩
      case measure => simp [intOf]; omega

set_option maxRecDepth 1000000 in
set_option maxHeartbeats 1000000 in
theorem DgOf_out {w : World} (v : Int) (h : v < 0 ∨ 1048576 ≤ v) (hT : DgTab w) :
    Calls Tryd.prog 40 #[.int .i64 v] w fun e w' => ∃ E, e = .returned (.tuple #[.int .i64 0, E]) ∧ ErrAns 1 ⟨#[100, 101, 103, 114, 101, 101, 46, 79, 102]⟩ w' E ∧ Below w.heap.size w w' := by
  have HT := Lib.hid hT
  clear hT
  rcases h with h | h
  · have hd0 : decide (0 ≤ v) = false := decide_eq_false (by omega)
    go_enter Tryd.func40, Tryd.ntmps40
    go_wp2_with fail
    refine (New_ans _ 1 (by decide) _).mono ?_
    rintro e w1 ⟨E1, rfl, hc1, hb1⟩
    have HC1 := Lib.hid hc1
    have HB1 := Lib.hid hb1
    obtain ⟨u, x, rfl⟩ := hc1.some (by decide)
    clear hc1 hb1
    go_wp2
    go_ret2
    exact ⟨_, rfl, HC1.out, HB1.out⟩
  · have h0 : 0 ≤ v := by omega
    go_enter Tryd.func40, Tryd.ntmps40
    go_wp2
    go_loopw [7] (fun i wr => ∃ k : Nat, k ≤ 7 ∧ i = .int .i64 k ∧ w = wr) (fun i _ => 7 - (intOf i).toNat)
    case atStart => exact ⟨0, by omega, rfl, rfl⟩
    case round =>
      obtain ⟨k, hk, rfl, rfl⟩ := hrel
      by_cases hk7 : k < 7
      · obtain ⟨hc0, hc1⟩ := HT.out k hk7
        have hle := dgTab_le k hk7
        generalize (dgTab[k]'hk7).1 = B at *
        generalize (dgTab[k]'hk7).2 = D at *
        have hv : ¬ v < B := by omega
        go_wp2
        go_roundw
        case rel => exact ⟨k + 1, by omega, by go_num, trivial⟩
        case measure => simp [intOf]; omega
      · go_wp2_with fail
        refine (New_ans _ 1 (by decide) _).mono ?_
        rintro e w1 ⟨E1, rfl, hc1, hb1⟩
        have HC1 := Lib.hid hc1
        have HB1 := Lib.hid hb1
        obtain ⟨u, x, rfl⟩ := hc1.some (by decide)
        clear hc1 hb1
        go_wp2
        go_ret2
        exact ⟨_, rfl, HC1.out, HB1.out⟩

/-- The bound of the rows ahead. -/
def dgBd (k : Nat) : Int := if k = 0 then 0 else (dgTab.getD (k - 1) (0, 0)).1
theorem dgBd_succ (k : Nat) (hk : k < 7) : dgBd (k + 1) = (dgTab[k]'hk).1 := by
  unfold dgBd
  rw [if_neg (by omega)]
  have : k + 1 - 1 = k := by omega
  rw [this, List.getD_eq_getElem?_getD, List.getElem?_eq_getElem hk]
  rfl
theorem dgBd_le : ∀ k, k < 8 → 0 ≤ dgBd k ∧ dgBd k ≤ 1048576 := by decide

/-- How many numbers have a degree; 0: there is no such degree. -/
def dgShare (d : Int) : Int := if d = 1 then 10241 else if d = 2 then 481341 else if d = 3 then 221212 else if d = 4 then 118901 else if d = 10 then 116751 else if d = 11 then 83743 else if d = 40 then 16387 else 0
theorem dgShare_hit : ∀ (k : Nat) (hk : k < 7), dgShare (dgTab[k]'hk).2 = (dgTab[k]'hk).1 - dgBd k := by decide
theorem dgShare_ne : ∀ (k : Nat) (hk : k < 7), dgShare (dgTab[k]'hk).2 ≠ 0 := by decide
theorem dgShare_none (d : Int) (h : ∀ (k : Nat) (hk : k < 7), (dgTab[k]'hk).2 ≠ d) : dgShare d = 0 := by
  have h0 : (1 : Int) ≠ d := h 0 (by omega)
  have h1 : (2 : Int) ≠ d := h 1 (by omega)
  have h2 : (3 : Int) ≠ d := h 2 (by omega)
  have h3 : (4 : Int) ≠ d := h 3 (by omega)
  have h4 : (10 : Int) ≠ d := h 4 (by omega)
  have h5 : (11 : Int) ≠ d := h 5 (by omega)
  have h6 : (40 : Int) ≠ d := h 6 (by omega)
  unfold dgShare
  rw [if_neg (by omega), if_neg (by omega), if_neg (by omega), if_neg (by omega), if_neg (by omega), if_neg (by omega), if_neg (by omega)]

/-- How many numbers have at most a degree. -/
def dgUp (d : Int) : Nat → Int
  | 0 => 0
  | k + 1 => if (dgTab.getD k (0, 0)).2 ≤ d then (dgTab.getD k (0, 0)).1 else dgUp d k
abbrev dgUpto (d : Int) : Int := dgUp d 7
theorem dgUp_hit (d : Int) (k : Nat) (hk : k < 7) (h : (dgTab[k]'hk).2 ≤ d) : dgUp d (k + 1) = (dgTab[k]'hk).1 := by
  have e : dgTab.getD k (0, 0) = dgTab[k]'hk := by rw [List.getD_eq_getElem?_getD, List.getElem?_eq_getElem hk]; rfl
  show (if (dgTab.getD k (0, 0)).2 ≤ d then (dgTab.getD k (0, 0)).1 else dgUp d k) = _
  rw [e, if_pos h]
theorem dgUp_miss (d : Int) (k : Nat) (hk : k < 7) (h : ¬ (dgTab[k]'hk).2 ≤ d) : dgUp d (k + 1) = dgUp d k := by
  have e : dgTab.getD k (0, 0) = dgTab[k]'hk := by rw [List.getD_eq_getElem?_getD, List.getElem?_eq_getElem hk]; rfl
  show (if (dgTab.getD k (0, 0)).2 ≤ d then (dgTab.getD k (0, 0)).1 else dgUp d k) = _
  rw [e, if_neg h]

end Go.Proofs.YtedadhoaegjhfaaDoor
