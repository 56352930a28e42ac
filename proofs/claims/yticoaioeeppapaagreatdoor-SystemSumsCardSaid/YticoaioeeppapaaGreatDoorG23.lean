import Derived.Test.YticoaioeeppapaaGreatDoorG17
import Derived.Test.YticoaioeeppapaaGreatDoorG22
import Derived.Test.YticoaioeeppapaaGreatDoorG10
import Derived.Test.YticoaioeeppapaaGreatDoorG07
import Derived.OwnWalk
import Derived.WalkSpells
import Derived.WalkLawsBesides
import Derived.Deep.LoopGhost
import Derived.Deep.QuietTactic
import Derived.Test.YticoaioeeppapaaGreatDoorG16

section
/- Package ltrow: Walk and Row where they answer. -/
namespace Go.Proofs.YticoaioeeppapaaGreatDoor
open Go.RowKit Go.Extern.Stop Go.Stop Go.Extern

theorem sort_own {w : World} {base g d : Nat} {L : List Int} (h : w.ownsRow base 3 1 (.slice (some ⟨g, 0, none⟩) d d) d (L.map intV)) (hd : d < 4611686018427387904) :
    Calls Tryz.prog 93 #[.slice (some ⟨g, 0, none⟩) d d] w fun e w' => e = .returned (.tuple #[]) ∧ w'.ownsRow base 3 1 (.slice (some ⟨g, 0, none⟩) d d) d ((L.mergeSort fun x y => decide (x ≤ y)).map intV) ∧ w.grownBy w' (some g) := by
  obtain ⟨hb, hl, hh⟩ := own_full h
  rw [List.length_map] at hl
  subst hl
  have hm : L.length ≤ maxLen := by unfold maxLen; omega
  refine (Tryz.slices_Sort_int g 0 L.length L w (holds_of_blockI hh (by rw [List.take_of_length_le (by simp)]; rfl)) (Array.getElem?_eq_some_iff.1 hh).1 hd).mono ?_
  rintro e w' ⟨rfl, n, os, rfl⟩
  exact ⟨rfl, ownsRow_sortedI (by simp) hb hh (Nat.le_refl _) hm (by simp), grownBy_sortedI _⟩

set_option maxRecDepth 1000000 in
set_option maxHeartbeats 4000000 in
theorem Row_ok {w : World} (k s h l p seed esi : Nat) (H : OfP k s h l p) (hk1 : 1 ≤ k) (hk2 : k ≤ 128) (hs : seed < 65536) (he : esi < 65536) (hT : DgTab w) :
    Calls Tryz.prog 56 #[parV k s h l p, .int .i64 (seed : Int), .int .i64 (esi : Int)] w fun e w' => ∃ v W, e = .returned (.tuple #[v, .nilIface]) ∧ IsTr l p (trS p (mixN esi seed)) (trA p (mixN esi seed)) (trD l (mixN esi seed)) W ∧ ListAt intV w' v ((risN l W).map Int.ofNat) ∧ Below w.heap.size w w' := by
  obtain ⟨b1, b2, b3, b4, b5, b6, b7⟩ := H.bounds hk1 hk2
  have hl1 : 1 ≤ l := by have := H.2.2.1; omega
  have hp2 : 2 ≤ p := H.2.2.2.two
  have hpp : IsP p := H.2.2.2.1
  obtain ⟨w0, hw0, hb0, hbx⟩ := par_laid w k s h l p
  have HW0 := Lib.hid hw0
  have HB0 := Lib.hid hb0
  have HBX := Lib.hid hbx
  have HT := Lib.hid hT
  obtain ⟨c0, c1, c2, c3, c4⟩ := hbx.cells
  obtain ⟨D, hD⟩ : ∃ D, trD l (mixN esi seed) = D := ⟨_, rfl⟩
  obtain ⟨S, hS⟩ : ∃ S, trS p (mixN esi seed) = S := ⟨_, rfl⟩
  obtain ⟨A, hA⟩ : ∃ A, trA p (mixN esi seed) = A := ⟨_, rfl⟩
  have bD := trD_bd (y := mixN esi seed) hl1
  have bS := trS_bd (y := mixN esi seed) hp2
  have bA := trA_bd (y := mixN esi seed) hp2
  rw [hD] at bD
  rw [hS] at bS
  rw [hA] at bA
  have HTR : Hid (∀ V, DgTab V → Calls Tryz.prog 53 #[.agg #[.int .i64 (k : Int), .int .i64 (s : Int), .int .i64 (h : Int), .int .i64 (l : Int), .int .i64 (p : Int)], .int .i64 (seed : Int), .int .i64 (esi : Int)] V fun e w' => e = .returned (.tuple #[.agg #[.int .i64 (D : Int), .int .i64 (S : Int), .int .i64 (A : Int)], .nilIface]) ∧ Below V.heap.size V w') := Lib.hid fun V hV => by
    have := Trip_ok (w := V) k s h l p seed esi H hk1 hk2 hs he hV
    rwa [hD, hS, hA] at this
  have HWK : Hid (∀ V, Calls Tryz.prog 92 #[.agg #[.int .i64 (k : Int), .int .i64 (s : Int), .int .i64 (h : Int), .int .i64 (l : Int), .int .i64 (p : Int)], .agg #[.int .i64 (D : Int), .int .i64 (S : Int), .int .i64 (A : Int)]] V fun e w' => ∃ g W, e = .returned (.slice (some ⟨g, 0, none⟩) D D) ∧ IsTr l p S A D W ∧ w'.ownsRow V.heap.size 3 1 (.slice (some ⟨g, 0, none⟩) D D) D ((W.map Int.ofNat).map intV) ∧ Below V.heap.size V w') := Lib.hid fun V => walk_ok k s h l p D S A hpp b6 (by omega) bS.1 bS.2 bA bD.2
  have HDE : Hid (D < 4611686018427387904 ∧ IsP p ∧ 1 ≤ S ∧ S < p) := Lib.hid ⟨by omega, hpp, bS.1, bS.2⟩
  rw [hD, hS, hA]
  clear hw0 hb0 hbx hT H hD hS hA b1 b2 b3 b4 b5 b6 b7 hl1 hp2 hpp bD bS bA
  unfold parV parC
  go_enter Tryz.func56, Tryz.ntmps56
  go_upto_region 1 with fail
  rw [← HW0.out]
  go_wp2_with fail
  refine (HTR.out _ (PairsAt.mono HT.out HB0.out)).mono ?_
  rintro e w1 ⟨rfl, hb1⟩
  obtain ⟨w2, hw2, hb2, hbt⟩ := trip_laid w1 D S A
  have HW2 := Lib.hid hw2
  have HBB := Lib.hid (hb1.trans (hb2.mono hb1.size))
  have HB2 := Lib.hid (HB0.out.trans (HBB.out.mono HB0.out.size))
  clear c0 c1 c2 c3 c4
  obtain ⟨c0, c1, c2, c3, c4⟩ := (HBX.out.mono HBB.out).cells
  obtain ⟨t0, t1, t2⟩ := hbt.cells
  clear hw2 hb1 hb2 hbt
  go_upto_region 2 with fail
  rw [← HW2.out]
  go_wp2_with fail
  refine (HWK.out _).mono ?_
  rintro e w3 ⟨g, W, rfl, hw, hown, hb3⟩
  have HW := Lib.hid hw
  have HOWN := Lib.hid hown
  have HB3 := Lib.hid (HB2.out.trans (hb3.mono HB2.out.size))
  have HS2 := Lib.hid (Nat.le_trans HB2.out.size hb3.size)
  have HG : Hid (w.heap.size ≤ g) := Lib.hid (Nat.le_trans HB2.out.size (own_full hown).1)
  clear hw hown hb3 c0 c1 c2 c3 c4 t0 t1 t2
  go_wp2_with fail
  refine (sort_own HOWN.out HDE.out.1).mono ?_
  rintro e w4 ⟨rfl, hown, hgr⟩
  have HO4 := Lib.hid hown
  have HB4 := Lib.hid (HB3.out.grown hgr HB3.out.size (fun k hk => by cases hk; exact HG.out))
  clear hown hgr
  go_wp2
  go_ret2
  exact ⟨_, W, rfl, HW.out, by have h1 := ListAt.of_owns (f := intV) HO4.out; rw [sort_ris (HW.out.nodup HDE.out.2.1 HDE.out.2.2.1 HDE.out.2.2.2) (fun x hx => HW.out.lt hx)] at h1; exact h1, HB4.out⟩
end Go.Proofs.YticoaioeeppapaaGreatDoor
end

section
/- geyserref02: Same at like lists of numbers. -/
namespace Go.Proofs.YticoaioeeppapaaGreatDoor
open Go.RowKit Go.Extern.Stop Go.Stop Go.Extern

end Go.Proofs.YticoaioeeppapaaGreatDoor
end

section
/- The document's table: Of, Share, Upto; the program's All. -/
namespace Go.Proofs.YticoaioeeppapaaGreatDoor
open Go.RowKit Go.Extern.Stop Go.Stop Go.Extern

set_option maxRecDepth 1000000 in
set_option maxHeartbeats 1000000 in
theorem refOf_any {w : World} (v : Int) : Calls Tryz.prog 127 #[.int .i64 v] w fun e w' => e = .returned (.int .i64 (dgOf v)) ∧ w = w' := by
  obtain ⟨D, hD⟩ : ∃ D, dgOf v = D := ⟨_, rfl⟩
  have HD := Lib.hid hD
  rw [hD]
  unfold dgOf at hD
  go_enter Tryz.func127, Tryz.ntmps127
  split at hD
  · go_wp2
    go_ret
    exact ⟨by rw [← hD]; rfl, rfl⟩
  split at hD
  · go_wp2
    go_ret
    exact ⟨by rw [← hD]; rfl, rfl⟩
  split at hD
  · go_wp2
    go_ret
    exact ⟨by rw [← hD]; rfl, rfl⟩
  split at hD
  · go_wp2
    go_ret
    exact ⟨by rw [← hD]; rfl, rfl⟩
  split at hD
  · go_wp2
    go_ret
    exact ⟨by rw [← hD]; rfl, rfl⟩
  split at hD
  · go_wp2
    go_ret
    exact ⟨by rw [← hD]; rfl, rfl⟩
  · go_wp2
    go_ret
    exact ⟨by rw [← hD]; rfl, rfl⟩

/-- The shares of the degrees 1 to n, together. -/
def dgSum : Nat → Int
  | 0 => 0
  | n + 1 => dgSum n + dgShare ((n + 1 : Nat) : Int)
theorem dgSum_end : ∀ n, n ≤ 40 → dgSum n = dgUpto (n : Int) := by decide
theorem dgUpto_over (d : Int) (h : 40 ≤ d) : dgUpto d = 1048576 := by
  show (if ((40 : Int)) ≤ d then (1048576 : Int) else _) = _
  rw [if_pos h]
theorem dgUpto_under (d : Int) (h : d ≤ 0) : dgUpto d = 0 := by
  unfold dgUpto
  have hne : ∀ k, k < 7 → ¬ (dgTab.getD k (0, 0)).2 ≤ d := fun k hk h2 => by
    have : ∀ k, k < 7 → 0 < (dgTab.getD k (0, 0)).2 := by decide
    have := this k hk
    omega
  unfold dgUp; rw [if_neg (hne 6 (by omega))]
  unfold dgUp; rw [if_neg (hne 5 (by omega))]
  unfold dgUp; rw [if_neg (hne 4 (by omega))]
  unfold dgUp; rw [if_neg (hne 3 (by omega))]
  unfold dgUp; rw [if_neg (hne 2 (by omega))]
  unfold dgUp; rw [if_neg (hne 1 (by omega))]
  unfold dgUp; rw [if_neg (hne 0 (by omega))]
  rfl
theorem dgShare_le (d : Int) : 0 ≤ dgShare d ∧ dgShare d ≤ 481341 := by unfold dgShare; repeat' split
                                                                        all_goals omega
theorem dgSum_le : ∀ n, n < 42 → 0 ≤ dgSum n ∧ dgSum n ≤ 1048576 := by decide

/-- The degrees, rising. -/
def dgAll : List Int := [1, 2, 3, 4, 10, 11, 40]
theorem dgAll_get : ∀ (k : Nat) (hk : k < 7), (dgTab[k]'hk).2 = dgAll.getD k 0 := by decide

end Go.Proofs.YticoaioeeppapaaGreatDoor
end
