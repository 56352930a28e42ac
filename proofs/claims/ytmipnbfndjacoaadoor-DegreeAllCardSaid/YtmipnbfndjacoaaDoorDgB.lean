/- The document's table: Of, Share, Upto; the program's All. -/
import Derived.Test.YtmipnbfndjacoaaDoorDgA
namespace Go.Proofs.YtmipnbfndjacoaaDoor
open Go.RowKit Go.Extern.Stop Go.Stop Go.Extern

set_option maxRecDepth 1000000 in
set_option maxHeartbeats 1000000 in
theorem refOf_any {w : World} (v : Int) : Calls Tryd.prog 11 #[.int .i64 v] w fun e w' => e = .returned (.int .i64 (dgOf v)) ∧ w = w' := by
  obtain ⟨D, hD⟩ : ∃ D, dgOf v = D := ⟨_, rfl⟩
  have HD := Lib.hid hD
  rw [hD]
  unfold dgOf at hD
  go_enter Tryd.func11, Tryd.ntmps11
  split at hD
  · go_wp2
    go_ret
    exact ⟨by rw [← hD]; rfl, rfl⟩
  split at hD
  · go_wp2
    go_ret
    exact ⟨by rw [← hD]; rfl, rfl⟩
  split at hD
  · go_wp2
    go_ret
    exact ⟨by rw [← hD]; rfl, rfl⟩
  split at hD
  · go_wp2
    go_ret
    exact ⟨by rw [← hD]; rfl, rfl⟩
  split at hD
  · go_wp2
    go_ret
    exact ⟨by rw [← hD]; rfl, rfl⟩
  split at hD
  · go_wp2
    go_ret
    exact ⟨by rw [← hD]; rfl, rfl⟩
  · go_wp2
    go_ret
    exact ⟨by rw [← hD]; rfl, rfl⟩

set_option maxRecDepth 1000000 in
set_option maxHeartbeats 1000000 in
theorem refShare_any {w : World} (d : Int) : Calls Tryd.prog 13 #[.int .i64 d] w fun e w' => e = .returned (.int .i64 (dgShare d)) ∧ w = w' := by
  obtain ⟨D, hD⟩ : ∃ D, dgShare d = D := ⟨_, rfl⟩
  rw [hD]
  unfold dgShare at hD
  go_enter Tryd.func13, Tryd.ntmps13
  by_cases h1 : d = 1
  · subst h1
    go_wp2
    go_ret
    exact ⟨by rw [← hD]; rfl, rfl⟩
  rw [if_neg h1] at hD
  have e1 : (d == 1) = false := by simpa using h1
  clear h1
  by_cases h1 : d = 2
  · subst h1
    go_wp2
    go_ret
    exact ⟨by rw [← hD]; rfl, rfl⟩
  rw [if_neg h1] at hD
  have e2 : (d == 2) = false := by simpa using h1
  clear h1
  by_cases h1 : d = 3
  · subst h1
    go_wp2
    go_ret
    exact ⟨by rw [← hD]; rfl, rfl⟩
  rw [if_neg h1] at hD
  have e3 : (d == 3) = false := by simpa using h1
  clear h1
  by_cases h1 : d = 4
  · subst h1
    go_wp2
    go_ret
    exact ⟨by rw [← hD]; rfl, rfl⟩
  rw [if_neg h1] at hD
  have e4 : (d == 4) = false := by simpa using h1
  clear h1
  by_cases h1 : d = 10
  · subst h1
    go_wp2
    go_ret
    exact ⟨by rw [← hD]; rfl, rfl⟩
  rw [if_neg h1] at hD
  have e5 : (d == 10) = false := by simpa using h1
  clear h1
  by_cases h1 : d = 11
  · subst h1
    go_wp2
    go_ret
    exact ⟨by rw [← hD]; rfl, rfl⟩
  rw [if_neg h1] at hD
  have e6 : (d == 11) = false := by simpa using h1
  clear h1
  by_cases h1 : d = 40
  · subst h1
    go_wp2
    go_ret
    exact ⟨by rw [← hD]; rfl, rfl⟩
  rw [if_neg h1] at hD
  have e7 : (d == 40) = false := by simpa using h1
  clear h1
  go_wp2
  go_ret
  exact ⟨by rw [← hD]; rfl, rfl⟩

/-- The shares of the degrees 1 to n, together. -/
def dgSum : Nat → Int
  | 0 => 0
  | n + 1 => dgSum n + dgShare ((n + 1 : Nat) : Int)
theorem dgSum_end : ∀ n, n ≤ 40 → dgSum n = dgUpto (n : Int) := by decide
theorem dgUpto_over (d : Int) (h : 40 ≤ d) : dgUpto d = 1048576 := by
  show (if ((40 : Int)) ≤ d then (1048576 : Int) else _) = _
  rw [if_pos h]
theorem dgUpto_under (d : Int) (h : d ≤ 0) : dgUpto d = 0 := by
  unfold dgUpto
  have hne : ∀ k, k < 7 → ¬ (dgTab.getD k (0, 0)).2 ≤ d := fun k hk h2 => by
    have : ∀ k, k < 7 → 0 < (dgTab.getD k (0, 0)).2 := by decide
    have := this k hk
    omega
  unfold dgUp; rw [if_neg (hne 6 (by omega))]
  unfold dgUp; rw [if_neg (hne 5 (by omega))]
  unfold dgUp; rw [if_neg (hne 4 (by omega))]
  unfold dgUp; rw [if_neg (hne 3 (by omega))]
  unfold dgUp; rw [if_neg (hne 2 (by omega))]
  unfold dgUp; rw [if_neg (hne 1 (by omega))]
  unfold dgUp; rw [if_neg (hne 0 (by omega))]
  rfl
theorem dgShare_le (d : Int) : 0 ≤ dgShare d ∧ dgShare d ≤ 481341 := by unfold dgShare; repeat' split
                                                                        all_goals omega
theorem dgSum_le : ∀ n, n < 42 → 0 ≤ dgSum n ∧ dgSum n ≤ 1048576 := by decide

set_option maxRecDepth 1000000 in
set_option maxHeartbeats 1000000 in
theorem refUpto_any {w : World} (d : Int) : Calls Tryd.prog 15 #[.int .i64 d] w fun e w' => e = .returned (.int .i64 (dgUpto d)) ∧ w = w' := by
  go_enter Tryd.func15, Tryd.ntmps15
  go_wp2
  go_loopw [3, 4] (fun n k wr => ∃ m : Nat, m ≤ 40 ∧ k = .int .i64 ((m : Int) + 1) ∧ n = .int .i64 (dgSum m) ∧ w = wr ∧ ((m : Int) ≤ d ∨ m = 0)) (fun _ k _ => 41 - (intOf k).toNat)
  case atStart => exact ⟨0, by omega, rfl, rfl, rfl, .inr rfl⟩
  case round =>
    obtain ⟨m, hm, rfl, rfl, rfl, hd⟩ := hrel
    have hs := dgSum_le m (by omega)
    by_cases h1 : m < 40
    · have hd1 : decide ((m : Int) + 1 ≤ 40) = true := decide_eq_true (by omega)
      by_cases h2 : (m : Int) + 1 ≤ d
      · have hd2 : decide ((m : Int) + 1 ≤ d) = true := decide_eq_true h2
        have hsh := dgShare_le ((m : Int) + 1)
        have he : dgSum (m + 1) = dgSum m + dgShare ((m : Int) + 1) := rfl
        have HE := Lib.hid he
        have hs2 := dgSum_le (m + 1) (by omega)
        rw [he] at hs2
        have hw1 : wrap64 ((m : Int) + 1 + 1) = (m : Int) + 1 + 1 := by unfold wrap64; omega
        have hw2 : wrap64 (dgSum m + dgShare ((m : Int) + 1)) = dgSum m + dgShare ((m : Int) + 1) := by unfold wrap64; omega
        have H2 := Lib.hid h2
        clear he hd h2
        generalize dgSum m = S at *
        go_wp2_with fail
        refine (refShare_any ((m : Int) + 1)).mono ?_
        rintro e w1 ⟨rfl, rfl⟩
        generalize dgShare ((m : Int) + 1) = T at *
        go_wp2
        go_roundw
        case rel => exact ⟨m + 1, by omega, by go_num, by rw [HE.out], trivial, .inl (by have := H2.out; omega)⟩
        case measure => simp [intOf]; omega
      · have hd2 : decide ((m : Int) + 1 ≤ d) = false := decide_eq_false h2
        have HR : Hid (dgSum m = dgUpto d) := Lib.hid (by
          rcases hd with hd | rfl
          · have : d = (m : Int) := by omega
            rw [this]; exact dgSum_end m hm
          · rw [dgUpto_under d (by omega)]; rfl)
        clear hd h2
        generalize dgSum m = S at *
        go_wp2
        go_ret
        exact ⟨by rw [← HR.out]; rfl, rfl⟩
    · obtain rfl : m = 40 := by omega
      have HR : Hid (dgSum 40 = dgUpto d) := Lib.hid (by
        rw [dgUpto_over d (by omega)]; decide)
      clear hd h1
      generalize dgSum 40 = S at *
      go_wp2
      go_ret
      exact ⟨by rw [← HR.out]; rfl, rfl⟩

/-- The degrees, rising. -/
def dgAll : List Int := [1, 2, 3, 4, 10, 11, 40]
theorem dgAll_get : ∀ (k : Nat) (hk : k < 7), (dgTab[k]'hk).2 = dgAll.getD k 0 := by decide

set_option maxRecDepth 1000000 in
set_option maxHeartbeats 4000000 in
theorem All_any {w : World} (hT : DgTab w) : Calls Tryd.prog 16 #[] w fun e w' =>
    ∃ v, e = .returned v ∧ w'.ownsRow w.heap.size 3 1 v 7 (dgAll.map intV) ∧ Below w.heap.size w w' := by
  obtain ⟨i0, hi, hz0, hz1, hz2⟩ := info_parts info_int
  have HT := Lib.hid hT
  clear hT
  go_enter Tryd.func16, Tryd.ntmps16
  go_wp2_with (at_make; refine wpList_make_full _ rfl _ _ 30 rfl w.heap.size 3 i0 (.int .i64 0) 1 Tryd.underlying30 hi hz0 hz1 .i64 .i64 _ _ 7 rfl rfl rfl rfl (by rw [hz2]; omega) (by unfold maxLen; omega) (Nat.le_refl _) ?_; intro w0 hown0 hgrow0; have hb0 := Lib.hid ((Below.refl w.heap.size w).grown hgrow0 (Nat.le_refl _) (fun k hk => by cases hk)); have ho0 := Lib.hid hown0; clear hown0 hgrow0)
  go_loopw [4] (fun i wr => ∃ k : Nat, k ≤ 7 ∧ i = .int .i64 k ∧ (∃ vs : List Int, vs.length = 7 ∧ (∀ j, j < k → vs.getD j 0 = dgAll.getD j 0) ∧ wr.ownsRow w.heap.size 3 1 (.slice (some ⟨w.heap.size, 0, none⟩) 7 7) 7 (vs.map intV)) ∧ Below w.heap.size w wr) (fun i _ => 7 - (intOf i).toNat)
  case atStart => exact ⟨0, Nat.zero_le _, rfl, ⟨List.replicate 7 0, by simp, fun j hj => by omega, by rw [List.map_replicate]; have := ho0.out; rw [Nat.mul_one] at this; exact toList_madeCells_one (.int .i64 0) 7 ▸ this⟩, hb0.out⟩
  case round =>
    obtain ⟨k, hk, rfl, ⟨vs, hvl, hvs, hown⟩, hbel⟩ := hrel
    have hsz := hbel.size
    by_cases hlt : k < 7
    · have hy3 : wr.cell? ⟨w.heap.size, k, none⟩ = some (.int .i64 (vs.getD k 0)) := by
        rw [hown.cellAt k (by omega)]
        simp [List.getD_eq_getElem?_getD, hvl, hlt, intV]
      have hy4 : wr.frozen? ⟨w.heap.size, k, none⟩ = false := hown.frozenAt k
      obtain ⟨-, hc1⟩ := (HT.out.mono hbel) k hlt
      have hD := dgAll_get k hlt
      generalize (dgTab[k]'hlt).2 = D at hc1 hD
      have HX : Hid (∀ j, j < k + 1 → (vs.set k D).getD j 0 = dgAll.getD j 0) := Lib.hid fun j hj => by
        simp only [List.getD_eq_getElem?_getD, List.getElem?_set] at *
        by_cases e : k = j
        · subst e; rw [if_pos rfl, if_pos (by omega), ← hD]; rfl
        · rw [if_neg e]; exact hvs j (by omega)
      have HO := Lib.hid hown
      have HB := Lib.hid hbel
      have HL := Lib.hid hvl
      clear hown hbel hvs hvl hD
      generalize vs.getD k 0 = z at hy3
      go_wp2
      go_roundw
      case rel => exact ⟨k + 1, by omega, by go_num, ⟨vs.set k D, by simpa using HL.out, HX.out, by rw [List.map_set]; exact (HO.out.stored k (.int .i64 D)).1⟩, HB.out.setCell (p := ⟨w.heap.size, k, none⟩) (Nat.le_refl _) _⟩
      case measure => simp [intOf]; omega
    · have hk' : k = 7 := by omega
      have HO := Lib.hid hown
      have HB := Lib.hid hbel
      have HV : Hid (vs = dgAll) := Lib.hid (by
        apply List.ext_getElem (by rw [hvl]; rfl)
        intro j hj1 hj2
        have e := hvs j (by omega)
        simpa [List.getD_eq_getElem?_getD, hj1, hj2] using e)
      clear hown hbel hvs hvl
      go_wp2
      go_ret
      exact ⟨_, rfl, by have := HO.out; rw [HV.out] at this; exact this, HB.out⟩
end Go.Proofs.YtmipnbfndjacoaaDoor
