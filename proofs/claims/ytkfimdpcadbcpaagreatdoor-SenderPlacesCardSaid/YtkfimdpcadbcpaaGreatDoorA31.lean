import Derived.OwnWalk
import Derived.WalkSpells
import Derived.WalkLawsBesides
import Derived.Deep.LoopGhost
import Derived.BigQuiet
import Derived.Test.YtkfimdpcadbcpaaGreatDoorA02
import Derived.Test.YtkfimdpcadbcpaaGreatDoorA01
import Derived.Test.YtkfimdpcadbcpaaGreatDoorA23
import Derived.Test.YtkfimdpcadbcpaaGreatDoorA08
import Derived.Test.YtkfimdpcadbcpaaGreatDoorA03
set_option linter.unusedSimpArgs false
set_option linter.unusedVariables false
set_option maxRecDepth 1000000
set_option maxHeartbeats 8000000
namespace Go.Proofs.YtkfimdpcadbcpaaGreatDoor
section
open Go.RowKit Go.Extern.Stop Go.Stop Go.Extern
def outB (n a b : Int) : Bool := decide (n < a ∨ b < n)
theorem zAE {n a b : Int} (h : n < a ∨ b < n) : outB n a b = true := decide_eq_true h
theorem zAo {n a b : Int} (h1 : a ≤ n) (h2 : n ≤ b) : outB n a b = false := decide_eq_false (by omega)
theorem zBq {w : World} (n a b : Int) : Calls Tryz.prog 114 #[.int .i64 n, .int .i64 a, .int .i64 b] w fun e w' => e = .returned (.bool (outB n a b)) ∧ w = w' := by
  by_cases h1 : n < a
  · have HM := lhd (zAE (b := b) (.inl h1))
    have d1 : decide (n < a) = true := decide_eq_true h1
    clear h1
    go_enter Tryz.func114, Tryz.ntmps114
    go_wp2
    go_ret
    exact ⟨by rw [HM.out]; rfl, rfl⟩
  have d1 : decide (n < a) = false := decide_eq_false h1
  by_cases h2 : b < n
  · have HM := lhd (zAE (a := a) (.inr h2))
    have d2 : decide (b < n) = true := decide_eq_true h2
    clear h1 h2
    go_enter Tryz.func114, Tryz.ntmps114
    go_wp2
    go_ret
    exact ⟨by rw [HM.out]; rfl, rfl⟩
  have d2 : decide (b < n) = false := decide_eq_false h2
  have HM := lhd (zAo (n := n) (a := a) (b := b) (by omega) (by omega))
  clear h1 h2
  go_enter Tryz.func114, Tryz.ntmps114
  go_wp2
  go_ret
  exact ⟨by rw [HM.out]; rfl, rfl⟩
theorem zBs {w : World} (b : Int) : Calls Tryz.prog 113 #[.int .i64 b] w fun e w' => e = .returned (.bool (outB b 2 4096)) ∧ w = w' := by
  have HO := lhd (zBq (w := w) b 2 4096)
  generalize outB b 2 4096 = B at *
  go_enter Tryz.func113, Tryz.ntmps113
  go_wp2_with fail
  with_reducible refine HO.out.mono ?_
  rintro e w1 ⟨rfl, rfl⟩
  go_wp2
  go_ret
  exact ⟨rfl, rfl⟩
theorem zAD {w : World} (t : Int) : Calls Tryz.prog 143 #[.int .i64 t] w fun e w' => e = .returned (.bool (outB t 0 1099511627775)) ∧ w = w' := by
  have HO := lhd (zBq (w := w) t 0 1099511627775)
  generalize outB t 0 1099511627775 = B at *
  go_enter Tryz.func143, Tryz.ntmps143
  go_wp2_with fail
  with_reducible refine HO.out.mono ?_
  rintro e w1 ⟨rfl, rfl⟩
  go_wp2
  go_ret
  exact ⟨rfl, rfl⟩
def noCalB (b u : Int) : Bool := outB b 2 4096 || outB u 1 (b - 1)
theorem zAx {w : World} (b u : Int) : Calls Tryz.prog 83 #[.int .i64 b, .int .i64 u] w fun e w' => e = .returned (.bool (noCalB b u)) ∧ w = w' := by
  have HB := lhd (zBs (w := w) b)
  by_cases h : 2 ≤ b ∧ b ≤ 4096
  · have hf := zAo h.1 h.2
    rw [hf] at HB
    have HM : Hid (noCalB b u = outB u 1 (b - 1)) := lhd (by unfold noCalB; rw [hf]; rfl)
    obtain ⟨h1, h2⟩ := h
    have HO := lhd (zBq (w := w) u 1 (b - 1))
    generalize outB u 1 (b - 1) = B at *
    clear hf
    go_enter Tryz.func83, Tryz.ntmps83
    go_wp2_with fail
    with_reducible refine HB.out.mono ?_
    rintro e w1 ⟨rfl, rfl⟩
    go_wp2_with fail
    with_reducible refine HO.out.mono ?_
    rintro e w1 ⟨rfl, rfl⟩
    go_wp2
    go_ret
    exact ⟨by rw [HM.out]; rfl, rfl⟩
  · have hf := zAE (n := b) (a := 2) (b := 4096) (by omega)
    rw [hf] at HB
    have HM : Hid (noCalB b u = true) := lhd (by unfold noCalB; rw [hf]; rfl)
    clear hf h
    go_enter Tryz.func83, Tryz.ntmps83
    go_wp2_with fail
    with_reducible refine HB.out.mono ?_
    rintro e w1 ⟨rfl, rfl⟩
    go_wp2
    go_ret
    exact ⟨by rw [HM.out]; rfl, rfl⟩
theorem zBY {b u t : Int} (h : CaOk b u t) : noCalB b u = false ∧ outB t 0 1099511627775 = false := by
  obtain ⟨h1, h2, h3, h4, h5, h6⟩ := h
  refine ⟨?_, zAo (by omega) (by omega)⟩
  unfold noCalB
  rw [zAo h1 h2, zAo h3 (by omega)]
  rfl
theorem zEF {b u t : Int} (h : ¬ CaOk b u t) : noCalB b u = true ∨ (noCalB b u = false ∧ outB t 0 1099511627775 = true) := by
  by_cases h1 : 2 ≤ b ∧ b ≤ 4096 ∧ 1 ≤ u ∧ u < b
  · refine .inr ⟨?_, zAE ?_⟩
    · unfold noCalB
      rw [zAo h1.1 h1.2.1, zAo h1.2.2.1 (by omega)]
      rfl
    · by_cases h0 : t < 0
      · exact .inl h0
      · refine .inr (Int.not_le.1 fun h2 => h ⟨h1.1, h1.2.1, h1.2.2.1, h1.2.2.2, by omega, by omega⟩)
  · refine .inl ?_
    unfold noCalB
    by_cases h2 : 2 ≤ b ∧ b ≤ 4096
    · rw [zAo h2.1 h2.2, zAE (n := u) (a := 1) (b := b - 1) (by omega)]; rfl
    · rw [zAE (n := b) (a := 2) (b := 4096) (by omega)]; rfl
theorem zBF {w : World} (b u t : Nat) (hb : 2 ≤ b) (hb2 : b ≤ 4096) (hu : u < b) (ht : t < 1099511627777) : Calls Tryz.prog 144 #[.int .i64 (b : Int), .int .i64 (u : Int), .int .i64 (t : Int)] w fun e w' => e = .returned (.bool (burstB b u t)) ∧ w = w' := by
  have hnz : ((b : Int) == 0) = false := by simp; omega
  have hnz2 : ¬ (b : Int) = 0 := by omega
  have hnz3 : ¬ b = 0 := by omega
  have hm : (t : Int).tmod (b : Int) = ((t % b : Nat) : Int) := Int.ofNat_tmod ..
  have hs : (b : Int) - (u : Int) = ((b - u : Nat) : Int) := by omega
  have hsw : IntKind.i64.wrap ((b - u : Nat) : Int) = ((b - u : Nat) : Int) := IntWalk.i64_in _ (by omega)
  have hd : decide (((b - u : Nat) : Int) ≤ ((t % b : Nat) : Int)) = burstB b u t := by unfold burstB; exact decide_eq_decide.2 (by omega)
  have hd2 : decide (b - u ≤ t % b) = burstB b u t := rfl
  have hdb : b - u ≤ 4096 := by omega
  generalize burstB b u t = B at *
  generalize t % b = r at *
  generalize b - u = q at *
  go_enter Tryz.func144, Tryz.ntmps144
  go_wp2
  go_ret
  exact ⟨rfl, rfl⟩
theorem zDs {w : World} (b l : Nat) (hb2 : b ≤ 4096) (hl : l ≤ 8) : Calls Tryz.prog 145 #[.int .i64 (b : Int), .int .i64 (l : Int)] w fun e w' => e = .returned (.int .i64 ((b * 2 ^ l : Nat) : Int)) ∧ w = w' := by
  have hp : (2 : Nat) ^ l ≤ 2 ^ 8 := Nat.pow_le_pow_right (by decide) hl
  have hL : (2 : Int) ^ l = ((2 ^ l : Nat) : Int) := by push_cast; rfl
  have hE : (b : Int) * ((2 ^ l : Nat) : Int) = ((b * 2 ^ l : Nat) : Int) := by push_cast; rfl
  have hEb : b * 2 ^ l ≤ 1048576 := Nat.mul_le_mul hb2 hp
  generalize b * 2 ^ l = E at *
  generalize 2 ^ l = P at *
  go_enter Tryz.func145, Tryz.ntmps145
  go_wp2
  go_ret
  exact ⟨rfl, rfl⟩
theorem zEM (b u t : Nat) : stepsZ b u t = t + t / b * u + (t % b - (b - u)) := by
  have e := Nat.div_add_mod t b
  unfold stepsZ cntZ
  rw [Nat.mul_add, Nat.mul_comm (t / b) b]
  omega
theorem zEN {b u t : Nat} (hb : 2 ≤ b) (hb2 : b ≤ 4096) (hu : u < b) (ht : t < 1099511627777) : stepsZ b u t ≤ 9007199254841000 := by
  unfold stepsZ
  have h1 : t / b ≤ 1099511627776 := Nat.le_trans (Nat.div_le_self t b) (by omega)
  have h2 : t / b * (b + u) ≤ 9007199254740992 := Nat.le_trans (Nat.mul_le_mul h1 (show b + u ≤ 8192 by omega)) (by decide)
  have h3 := zMC (b := b) (u := u) (r := t % b) (Nat.le_of_lt (Nat.mod_lt _ (by omega))) (by omega)
  omega
theorem zFZ {w : World} (b u t : Nat) (hb : 2 ≤ b) (hb2 : b ≤ 4096) (hu : u < b) (ht : t < 1099511627777) : Calls Tryz.prog 176 #[.int .i64 (b : Int), .int .i64 (u : Int), .int .i64 (t : Int)] w fun e w' => e = .returned (.int .i64 ((stepsZ b u t : Nat) : Int)) ∧ w = w' := by
  have hnz : ((b : Int) == 0) = false := by simp; omega
  have hnz2 : ¬ (b : Int) = 0 := by omega
  have hnz3 : ¬ b = 0 := by omega
  have hm : (t : Int).tmod (b : Int) = ((t % b : Nat) : Int) := Int.ofNat_tmod ..
  have hdv : (t : Int).tdiv (b : Int) = ((t / b : Nat) : Int) := Int.ofNat_tdiv ..
  have hr : t % b < b := Nat.mod_lt _ (by omega)
  have hdb : t / b ≤ 1099511627776 := Nat.le_trans (Nat.div_le_self t b) (by omega)
  have hQm : ((t / b : Nat) : Int) * (u : Int) = ((t / b * u : Nat) : Int) := by push_cast; rfl
  have hQb : t / b * u ≤ 4503599627370496 := Nat.le_trans (Nat.mul_le_mul hdb (show u ≤ 4096 by omega)) (by decide)
  have HZ := lhd (zEM b u t)
  have hZb := zEN hb hb2 hu ht
  generalize stepsZ b u t = Z at *
  generalize t / b * u = Q at *
  generalize t / b = d at *
  generalize t % b = r at *
  by_cases hc : b - u ≤ r
  · have HM : Hid ((Z : Int) = (t : Int) + (Q : Int) + ((r : Int) - ((b : Int) - (u : Int)))) := lhd (by have := HZ.out; omega)
    have hc2 : (0 : Int) ≤ (r : Int) - ((b : Int) - (u : Int)) := by omega
    have hc3 : (r : Int) - ((b : Int) - (u : Int)) ≤ 4096 := by omega
    clear HZ
    go_enter Tryz.func176, Tryz.ntmps176
    go_wp2
    go_ret
    exact ⟨by rw [HM.out]; first | rfl | (rw [Int.max_eq_left hc2]; rfl), rfl⟩
  · have HM : Hid ((Z : Int) = (t : Int) + (Q : Int)) := lhd (by have := HZ.out; omega)
    have hc2 : (r : Int) - ((b : Int) - (u : Int)) < 0 := by omega
    have hc3 : -4096 ≤ (r : Int) - ((b : Int) - (u : Int)) := by omega
    clear HZ
    go_enter Tryz.func176, Tryz.ntmps176
    go_wp2
    go_ret
    exact ⟨by rw [HM.out]; first | rfl | (rw [Int.max_eq_right (by omega), Int.add_zero]; rfl), rfl⟩
end

section
open Go.RowKit Go.Extern.Stop Go.Stop Go.Extern
theorem zDR (b : Nat) : ∀ g, syncZ b 0 g = -1
  | 0 => rfl
  | g + 1 => by
    have := zDR b g
    unfold syncZ
    rw [if_neg (fun h => Nat.lt_irrefl _ h.1), this]
theorem zDL {b t j g : Nat} (h0 : 0 < t) (hj : j ≤ g) (hd : ∀ i, i < j → t % (b * 2 ^ i) = 0) (hs : j = g ∨ ¬ t % (b * 2 ^ j) = 0) : syncZ b t g = (j : Int) - 1 := by
  have hbase : syncZ b t j = (j : Int) - 1 := by
    cases j with
    | zero => rfl
    | succ j => rw [zK1 h0 (hd j (by omega))]; omega
  rcases hs with rfl | hs
  · exact hbase
  · obtain ⟨k, rfl⟩ : ∃ k, g = j + k := ⟨g - j, by omega⟩
    clear hj
    induction k with
    | zero => exact hbase
    | succ k ih =>
      show (if 0 < t ∧ t % (b * 2 ^ (j + k)) = 0 then ((j + k : Nat) : Int) else syncZ b t (j + k)) = _
      rw [if_neg (fun h => hs ?_), ih]
      have h2 := h.2
      rw [Nat.pow_add, ← Nat.mul_assoc] at h2
      exact Nat.mod_eq_zero_of_dvd (Nat.dvd_trans (Nat.dvd_mul_right _ _) (Nat.dvd_of_mod_eq_zero h2))
theorem zNj : CaRowC := fun w b u t ib iu it => by
  have HN := lhd (zAK nameCaRow 1 w)
  by_cases hok : CaOk b u t
  · have HM := lhd hok
    have HC : Hid (∀ V : World, Calls Tryz.prog 83 #[.int .i64 b, .int .i64 u] V fun e w' => e = .returned (.bool false) ∧ V = w') := lhd fun V => by have h := zAx (w := V) b u; rwa [(zBY hok).1] at h
    have HT : Hid (∀ V : World, Calls Tryz.prog 143 #[.int .i64 t] V fun e w' => e = .returned (.bool false) ∧ V = w') := lhd fun V => by have h := zAD (w := V) t; rwa [(zBY hok).2] at h
    obtain ⟨b, u, t, rfl, rfl, rfl, h1, h2, h3, h4, h5⟩ := hok.nat
    clear hok
    have HA : Hid (∀ V : World, Calls Tryz.prog 176 #[.int .i64 (b : Int), .int .i64 (u : Int), .int .i64 (t : Int)] V fun e w' => e = .returned (.int .i64 ((stepsZ b u t : Nat) : Int)) ∧ V = w') := lhd fun V => zFZ b u t h1 h2 h4 (by omega)
    have HU : Hid (∀ V : World, Calls Tryz.prog 144 #[.int .i64 (b : Int), .int .i64 (u : Int), .int .i64 (t : Int)] V fun e w' => e = .returned (.bool (burstB b u t)) ∧ V = w') := lhd fun V => zBF b u t h1 h2 h4 (by omega)
    have e1 : ((b : Int)).toNat = b := by omega
    have e2 : ((u : Int)).toNat = u := by omega
    have e3 : ((t : Int)).toNat = t := by omega
    rw [e1, e2, e3]
    clear e1 e2 e3
    have hSb := zEN h1 h2 h4 (show t < 1099511627777 by omega)
    have HRZ : Hid (rowZ b u t = if burstB b u t then [stepsZ b u t % 4294967296, (stepsZ b u t + 1) % 4294967296] else [stepsZ b u t % 4294967296]) := lhd rfl
    generalize stepsZ b u t = S at *
    have m1 : (S : Int) % 4294967296 = ((S % 4294967296 : Nat) : Int) := rfl
    have hxy : (S + 1) % 4294967296 = (S % 4294967296 + 1) % 4294967296 := by omega
    have b1 : S % 4294967296 < 4294967296 := Nat.mod_lt _ (by decide)
    have m3 : IntKind.u32.wrap (S : Int) = ((S % 4294967296 : Nat) : Int) := by rw [IntKind.wrap_u32]; omega
    generalize S % 4294967296 = x at *
    have m2 : ((x : Int) + 1) % 4294967296 = (((S + 1) % 4294967296 : Nat) : Int) := by omega
    have m4 : IntKind.u32.wrap ((x : Int) + 1) = (((S + 1) % 4294967296 : Nat) : Int) := by rw [IntKind.wrap_u32]; omega
    generalize (S + 1) % 4294967296 = y at *
    have HOS : Hid ((w.alloc (.cells #[.int .u32 (x : Int)] 190)).ownsRow w.heap.size 190 1 (.slice (some ⟨w.heap.size, 0, none⟩) 1 1) 1 [.int .u32 (x : Int)]) := lhd (zAq (base := w.heap.size) (n := 1) (g := w.heap.size) (e := 190) (xs := [.int .u32 (x : Int)]) (Nat.le_refl _) rfl (by decide) (heap_alloc_new w _))
    have HOT : Hid ((w.alloc (.cells #[.int .u32 (x : Int), .int .u32 (y : Int)] 190)).ownsRow w.heap.size 190 1 (.slice (some ⟨w.heap.size, 0, none⟩) 2 2) 2 [.int .u32 (x : Int), .int .u32 (y : Int)]) := lhd (zAq (base := w.heap.size) (n := 2) (g := w.heap.size) (e := 190) (xs := [.int .u32 (x : Int), .int .u32 (y : Int)]) (Nat.le_refl _) rfl (by decide) (heap_alloc_new w _))
    have HB1 := lhd ((Below.refl w.heap.size w).alloc (Nat.le_refl _) (.cells #[.int .u32 (x : Int)] 190))
    have HB2 := lhd ((Below.refl w.heap.size w).alloc (Nat.le_refl _) (.cells #[.int .u32 (x : Int), .int .u32 (y : Int)] 190))
    clear hxy
    cases hB : burstB b u t with
    | false =>
      rw [hB] at HU HRZ
      clear hB
      go_enter Tryz.func146, Tryz.ntmps146
      go_wp2_with fail
      with_reducible refine (HC.out _).mono ?_
      rintro e w1 ⟨rfl, rfl⟩
      go_wp2_with fail
      with_reducible refine (HT.out _).mono ?_
      rintro e w1 ⟨rfl, rfl⟩
      go_wp2_with fail
      with_reducible refine (HA.out _).mono ?_
      rintro e w1 ⟨rfl, rfl⟩
      go_wp2_with fail
      with_reducible refine (HU.out _).mono ?_
      rintro e w1 ⟨rfl, rfl⟩
      go_wp2
      go_ret2
      exact ⟨HB1.out, .inr ⟨HM.out, _, rfl, by rw [HRZ.out]; exact HOS.out⟩⟩
    | true =>
      rw [hB] at HU HRZ
      clear hB
      go_enter Tryz.func146, Tryz.ntmps146
      go_wp2_with fail
      with_reducible refine (HC.out _).mono ?_
      rintro e w1 ⟨rfl, rfl⟩
      go_wp2_with fail
      with_reducible refine (HT.out _).mono ?_
      rintro e w1 ⟨rfl, rfl⟩
      go_wp2_with fail
      with_reducible refine (HA.out _).mono ?_
      rintro e w1 ⟨rfl, rfl⟩
      go_wp2_with fail
      with_reducible refine (HU.out _).mono ?_
      rintro e w1 ⟨rfl, rfl⟩
      go_wp2
      go_ret2
      exact ⟨HB2.out, .inr ⟨HM.out, _, rfl, by rw [HRZ.out]; exact HOT.out⟩⟩
  · have HM := lhd hok
    rcases zEF hok with h | ⟨h, h2⟩
    · have HC : Hid (∀ V : World, Calls Tryz.prog 83 #[.int .i64 b, .int .i64 u] V fun e w' => e = .returned (.bool true) ∧ V = w') := lhd fun V => by have h3 := zAx (w := V) b u; rwa [h] at h3
      clear hok h
      go_enter Tryz.func146, Tryz.ntmps146
      go_wp2_with fail
      with_reducible refine (HC.out _).mono ?_
      rintro e w1 ⟨rfl, rfl⟩
      go_wp2_with fail
      refine HN.out.mono ?_
      rintro e w1 ⟨E, rfl, hE, hb⟩
      have HE := lhd hE
      have HB := lhd hb
      clear hE hb
      go_wp2
      go_ret2
      exact ⟨HB.out, .inl ⟨HM.out, E, rfl, HE.out⟩⟩
    · have HC : Hid (∀ V : World, Calls Tryz.prog 83 #[.int .i64 b, .int .i64 u] V fun e w' => e = .returned (.bool false) ∧ V = w') := lhd fun V => by have h3 := zAx (w := V) b u; rwa [h] at h3
      have HT : Hid (∀ V : World, Calls Tryz.prog 143 #[.int .i64 t] V fun e w' => e = .returned (.bool true) ∧ V = w') := lhd fun V => by have h3 := zAD (w := V) t; rwa [h2] at h3
      clear hok h h2
      go_enter Tryz.func146, Tryz.ntmps146
      go_wp2_with fail
      with_reducible refine (HC.out _).mono ?_
      rintro e w1 ⟨rfl, rfl⟩
      go_wp2_with fail
      with_reducible refine (HT.out _).mono ?_
      rintro e w1 ⟨rfl, rfl⟩
      go_wp2_with fail
      refine HN.out.mono ?_
      rintro e w1 ⟨E, rfl, hE, hb⟩
      have HE := lhd hE
      have HB := lhd hb
      clear hE hb
      go_wp2
      go_ret2
      exact ⟨HB.out, .inl ⟨HM.out, E, rfl, HE.out⟩⟩
theorem zKF : CaBurstC := fun w b u t ib iu it => by
  have HN := lhd (zAK nameCaBurst 1 w)
  by_cases hok : CaOk b u t
  · have HM := lhd hok
    have HC : Hid (∀ V : World, Calls Tryz.prog 83 #[.int .i64 b, .int .i64 u] V fun e w' => e = .returned (.bool false) ∧ V = w') := lhd fun V => by have h := zAx (w := V) b u; rwa [(zBY hok).1] at h
    have HT : Hid (∀ V : World, Calls Tryz.prog 143 #[.int .i64 t] V fun e w' => e = .returned (.bool false) ∧ V = w') := lhd fun V => by have h := zAD (w := V) t; rwa [(zBY hok).2] at h
    obtain ⟨b, u, t, rfl, rfl, rfl, h1, h2, h3, h4, h5⟩ := hok.nat
    clear hok
    have HU : Hid (∀ V : World, Calls Tryz.prog 144 #[.int .i64 (b : Int), .int .i64 (u : Int), .int .i64 (t : Int)] V fun e w' => e = .returned (.bool (burstB b u t)) ∧ V = w') := lhd fun V => zBF b u t h1 h2 h4 (by omega)
    have e1 : ((b : Int)).toNat = b := by omega
    have e2 : ((u : Int)).toNat = u := by omega
    have e3 : ((t : Int)).toNat = t := by omega
    rw [e1, e2, e3]
    clear e1 e2 e3
    generalize burstB b u t = B at *
    go_enter Tryz.func106, Tryz.ntmps106
    go_wp2_with fail
    with_reducible refine (HC.out _).mono ?_
    rintro e w1 ⟨rfl, rfl⟩
    go_wp2_with fail
    with_reducible refine (HT.out _).mono ?_
    rintro e w1 ⟨rfl, rfl⟩
    go_wp2_with fail
    with_reducible refine (HU.out _).mono ?_
    rintro e w1 ⟨rfl, rfl⟩
    go_wp2
    go_ret2
    exact ⟨Below.refl _ _, .inr ⟨HM.out, rfl⟩⟩
  · have HM := lhd hok
    rcases zEF hok with h | ⟨h, h2⟩
    · have HC : Hid (∀ V : World, Calls Tryz.prog 83 #[.int .i64 b, .int .i64 u] V fun e w' => e = .returned (.bool true) ∧ V = w') := lhd fun V => by have h3 := zAx (w := V) b u; rwa [h] at h3
      clear hok h
      go_enter Tryz.func106, Tryz.ntmps106
      go_wp2_with fail
      with_reducible refine (HC.out _).mono ?_
      rintro e w1 ⟨rfl, rfl⟩
      go_wp2_with fail
      refine HN.out.mono ?_
      rintro e w1 ⟨E, rfl, hE, hb⟩
      have HE := lhd hE
      have HB := lhd hb
      clear hE hb
      go_wp2
      go_ret2
      exact ⟨HB.out, .inl ⟨HM.out, E, rfl, HE.out⟩⟩
    · have HC : Hid (∀ V : World, Calls Tryz.prog 83 #[.int .i64 b, .int .i64 u] V fun e w' => e = .returned (.bool false) ∧ V = w') := lhd fun V => by have h3 := zAx (w := V) b u; rwa [h] at h3
      have HT : Hid (∀ V : World, Calls Tryz.prog 143 #[.int .i64 t] V fun e w' => e = .returned (.bool true) ∧ V = w') := lhd fun V => by have h3 := zAD (w := V) t; rwa [h2] at h3
      clear hok h h2
      go_enter Tryz.func106, Tryz.ntmps106
      go_wp2_with fail
      with_reducible refine (HC.out _).mono ?_
      rintro e w1 ⟨rfl, rfl⟩
      go_wp2_with fail
      with_reducible refine (HT.out _).mono ?_
      rintro e w1 ⟨rfl, rfl⟩
      go_wp2_with fail
      refine HN.out.mono ?_
      rintro e w1 ⟨E, rfl, hE, hb⟩
      have HE := lhd hE
      have HB := lhd hb
      clear hE hb
      go_wp2
      go_ret2
      exact ⟨HB.out, .inl ⟨HM.out, E, rfl, HE.out⟩⟩
theorem zMh : CaSyncC := fun w b g t ib ix it => by
  have HN := lhd (zAK nameCaSync 1 w)
  by_cases c1 : 2 ≤ b ∧ b ≤ 4096
  · have HC : Hid (∀ V : World, Calls Tryz.prog 113 #[.int .i64 b] V fun e w' => e = .returned (.bool false) ∧ V = w') := lhd fun V => by have h3 := zBs (w := V) b; rwa [zAo c1.1 c1.2] at h3
    by_cases c2 : 1 ≤ g ∧ g ≤ 8
    · have HO : Hid (∀ V : World, Calls Tryz.prog 114 #[.int .i64 g, .int .i64 1, .int .i64 8] V fun e w' => e = .returned (.bool false) ∧ V = w') := lhd fun V => by have h3 := zBq (w := V) g 1 8; rwa [zAo c2.1 c2.2] at h3
      by_cases c3 : 0 ≤ t ∧ t < 1099511627776
      · have HT : Hid (∀ V : World, Calls Tryz.prog 143 #[.int .i64 t] V fun e w' => e = .returned (.bool false) ∧ V = w') := lhd fun V => by have h3 := zAD (w := V) t; rwa [zAo c3.1 (by omega)] at h3
        have HM : Hid (CaOk b 1 t ∧ 1 ≤ g ∧ g ≤ 8) := lhd ⟨⟨c1.1, c1.2, by decide, by omega, c3.1, c3.2⟩, c2.1, c2.2⟩
        obtain ⟨c11, c12⟩ := c1
        obtain ⟨c21, c22⟩ := c2
        obtain ⟨c31, c32⟩ := c3
        obtain ⟨b, rfl⟩ := Int.eq_ofNat_of_zero_le (show 0 ≤ b by omega)
        obtain ⟨g, rfl⟩ := Int.eq_ofNat_of_zero_le (show 0 ≤ g by omega)
        obtain ⟨t, rfl⟩ := Int.eq_ofNat_of_zero_le c31
        have HI : Hid (∀ (V : World) (l : Nat), l ≤ 8 → Calls Tryz.prog 145 #[.int .i64 (b : Int), .int .i64 (l : Int)] V fun e w' => e = .returned (.int .i64 ((b * 2 ^ l : Nat) : Int)) ∧ V = w') := lhd fun V l hl => zDs b l (by omega) hl
        have HE : Hid (∀ j, b * 2 ^ (j + 1) = 2 * (b * 2 ^ j)) := lhd fun j => by rw [Nat.pow_succ, ← Nat.mul_assoc, Nat.mul_comm]
        have HP : Hid (∀ j, j ≤ 8 → 2 ≤ b * 2 ^ j ∧ b * 2 ^ j ≤ 1048576) := lhd fun j hj => by
          have h1 : (2 : Nat) ^ j ≤ 2 ^ 8 := Nat.pow_le_pow_right (by decide) hj
          have h2 : 1 ≤ (2 : Nat) ^ j := Nat.two_pow_pos j
          exact ⟨by have := Nat.mul_le_mul (show 2 ≤ b by omega) h2; omega, by have := Nat.mul_le_mul (show b ≤ 4096 by omega) h1; omega⟩
        have e1 : ((b : Int)).toNat = b := by omega
        have e2 : ((g : Int)).toNat = g := by omega
        have e3 : ((t : Int)).toNat = t := by omega
        rw [e1, e2, e3]
        clear e1 e2 e3
        go_enter Tryz.func107, Tryz.ntmps107
        go_wp2_with fail
        with_reducible refine (HC.out _).mono ?_
        rintro e w1 ⟨rfl, rfl⟩
        go_wp2_with fail
        with_reducible refine (HO.out _).mono ?_
        rintro e w1 ⟨rfl, rfl⟩
        go_wp2_with fail
        with_reducible refine (HT.out _).mono ?_
        rintro e w1 ⟨rfl, rfl⟩
        go_wp2_with fail
        go_loopw [8] (fun n wr => ∃ j : Nat, j ≤ g ∧ n = .int .i64 ((j : Int) - 1) ∧ (∀ i, i < j → t % (b * 2 ^ i) = 0) ∧ (0 < t ∨ j = 0) ∧ w = wr) (fun n _ => g - (intOf n + 1).toNat)
        case atStart => exact ⟨0, Nat.zero_le _, rfl, fun i hi => absurd hi (Nat.not_lt_zero _), .inr rfl, rfl⟩
        case round =>
          obtain ⟨j, hj, rfl, hall, h0, rfl⟩ := hrel
          have HALL := lhd hall
          clear hall
          obtain ⟨v, hv⟩ : ∃ v : Int, v = (j : Int) - 1 := ⟨_, rfl⟩
          rw [← hv]
          have HV := lhd hv
          have hv1 : v + 1 = (j : Int) := by omega
          have hvb : -1 ≤ v ∧ v ≤ 7 := by omega
          obtain ⟨hvb1, hvb2⟩ := hvb
          clear hv
          by_cases hp : 0 < t
          · have d2 : decide ((0 : Int) < (t : Int)) = true := decide_eq_true (by omega)
            by_cases hlt : j < g
            · have d1 : decide ((j : Int) < (g : Int)) = true := decide_eq_true (by omega)
              have HI1 := lhd (HI.out w j (by omega))
              obtain ⟨p1, p2⟩ := HP.out j (by omega)
              by_cases h1 : t % (b * 2 ^ j) = 0
              · have HA2 : Hid (∀ i, i < j + 1 → t % (b * 2 ^ i) = 0) := lhd fun i hi => by
                  rcases Nat.lt_succ_iff_lt_or_eq.1 hi with h | rfl
                  · exact HALL.out i h
                  · exact h1
                generalize b * 2 ^ j = E at HI1 p1 p2 h1
                have hnz : ((E : Int) == 0) = false := by simp; omega
                have hnz2 : ¬ (E : Int) = 0 := by omega
                have hnz3 : ¬ E = 0 := by omega
                have hm : (t : Int).tmod (E : Int) = ((t % E : Nat) : Int) := Int.ofNat_tmod ..
                rw [h1] at hm
                clear h1
                go_wp2_with fail
                with_reducible refine HI1.out.mono ?_
                rintro e w1 ⟨rfl, rfl⟩
                go_wp2_with fail
                go_roundw
                case rel => exact ⟨j + 1, hlt, by have := HV.out; exact congrArg (Value.int IntKind.i64) (by omega), HA2.out, .inl hp, trivial⟩
                case measure => have := HV.out; simp [intOf]; omega
              · have HS : Hid (syncZ b t g = v) := lhd (by rw [zDL hp hj (fun i hi => HALL.out i hi) (.inr h1)]; exact HV.out.symm)
                generalize b * 2 ^ j = E at HI1 p1 p2 h1
                have hnz : ((E : Int) == 0) = false := by simp; omega
                have hnz2 : ¬ (E : Int) = 0 := by omega
                have hnz3 : ¬ E = 0 := by omega
                have hm : (t : Int).tmod (E : Int) = ((t % E : Nat) : Int) := Int.ofNat_tmod ..
                have d3 : (((t % E : Nat) : Int) == 0) = false := by simp; omega
                generalize t % E = r at *
                go_wp2_with fail
                with_reducible refine HI1.out.mono ?_
                rintro e w1 ⟨rfl, rfl⟩
                go_wp2
                go_ret2
                exact ⟨Below.refl _ _, .inr ⟨HM.out, by rw [HS.out]; rfl⟩⟩
            · have d1 : decide ((j : Int) < (g : Int)) = false := decide_eq_false (by omega)
              have HS : Hid (syncZ b t g = v) := lhd (by rw [zDL hp hj (fun i hi => HALL.out i hi) (.inl (by omega))]; exact HV.out.symm)
              go_wp2
              go_ret2
              exact ⟨Below.refl _ _, .inr ⟨HM.out, by rw [HS.out]; rfl⟩⟩
          · have d2 : decide ((0 : Int) < (t : Int)) = false := decide_eq_false (by omega)
            have HS : Hid (syncZ b t g = v) := lhd (by
              have ht : t = 0 := by omega
              rw [ht, zDR]
              have := HV.out
              have : j = 0 := h0.resolve_left hp
              omega)
            go_wp2
            go_ret2
            exact ⟨Below.refl _ _, .inr ⟨HM.out, by rw [HS.out]; rfl⟩⟩
      · have HT : Hid (∀ V : World, Calls Tryz.prog 143 #[.int .i64 t] V fun e w' => e = .returned (.bool true) ∧ V = w') := lhd fun V => by have h3 := zAD (w := V) t; rwa [zAE (n := t) (a := 0) (b := 1099511627775) (by omega)] at h3
        have HM : Hid (¬ (CaOk b 1 t ∧ 1 ≤ g ∧ g ≤ 8)) := lhd fun h => c3 ⟨h.1.2.2.2.2.1, h.1.2.2.2.2.2⟩
        clear c1 c2 c3
        go_enter Tryz.func107, Tryz.ntmps107
        go_wp2_with fail
        with_reducible refine (HC.out _).mono ?_
        rintro e w1 ⟨rfl, rfl⟩
        go_wp2_with fail
        with_reducible refine (HO.out _).mono ?_
        rintro e w1 ⟨rfl, rfl⟩
        go_wp2_with fail
        with_reducible refine (HT.out _).mono ?_
        rintro e w1 ⟨rfl, rfl⟩
        go_wp2_with fail
        refine HN.out.mono ?_
        rintro e w1 ⟨E, rfl, hE, hb⟩
        have HE := lhd hE
        have HB := lhd hb
        clear hE hb
        go_wp2
        go_ret2
        exact ⟨HB.out, .inl ⟨HM.out, E, rfl, HE.out⟩⟩
    · have HO : Hid (∀ V : World, Calls Tryz.prog 114 #[.int .i64 g, .int .i64 1, .int .i64 8] V fun e w' => e = .returned (.bool true) ∧ V = w') := lhd fun V => by have h3 := zBq (w := V) g 1 8; rwa [zAE (n := g) (a := 1) (b := 8) (by omega)] at h3
      have HM : Hid (¬ (CaOk b 1 t ∧ 1 ≤ g ∧ g ≤ 8)) := lhd fun h => c2 h.2
      clear c1 c2
      go_enter Tryz.func107, Tryz.ntmps107
      go_wp2_with fail
      with_reducible refine (HC.out _).mono ?_
      rintro e w1 ⟨rfl, rfl⟩
      go_wp2_with fail
      with_reducible refine (HO.out _).mono ?_
      rintro e w1 ⟨rfl, rfl⟩
      go_wp2_with fail
      refine HN.out.mono ?_
      rintro e w1 ⟨E, rfl, hE, hb⟩
      have HE := lhd hE
      have HB := lhd hb
      clear hE hb
      go_wp2
      go_ret2
      exact ⟨HB.out, .inl ⟨HM.out, E, rfl, HE.out⟩⟩
  · have HC : Hid (∀ V : World, Calls Tryz.prog 113 #[.int .i64 b] V fun e w' => e = .returned (.bool true) ∧ V = w') := lhd fun V => by have h3 := zBs (w := V) b; rwa [zAE (n := b) (a := 2) (b := 4096) (by omega)] at h3
    have HM : Hid (¬ (CaOk b 1 t ∧ 1 ≤ g ∧ g ≤ 8)) := lhd fun h => c1 ⟨h.1.1, h.1.2.1⟩
    clear c1
    go_enter Tryz.func107, Tryz.ntmps107
    go_wp2_with fail
    with_reducible refine (HC.out _).mono ?_
    rintro e w1 ⟨rfl, rfl⟩
    go_wp2_with fail
    refine HN.out.mono ?_
    rintro e w1 ⟨E, rfl, hE, hb⟩
    have HE := lhd hE
    have HB := lhd hb
    clear hE hb
    go_wp2
    go_ret2
    exact ⟨HB.out, .inl ⟨HM.out, E, rfl, HE.out⟩⟩
end

section
open Go.RowKit Go.Extern.Stop Go.Stop Go.Extern
theorem zG6 : CaCheckC := fun w b u ib iu => by
  have HN := lhd (zAK nameCaCheck 1 w)
  by_cases hok : CaOk b u 0
  · have HM := lhd (caN_zero.2 hok)
    have HC : Hid (∀ V : World, Calls Tryz.prog 83 #[.int .i64 b, .int .i64 u] V fun e w' => e = .returned (.bool false) ∧ V = w') := lhd fun V => by have h := zAx (w := V) b u; rwa [(zBY hok).1] at h
    clear hok
    go_enter Tryz.func52, Tryz.ntmps52
    go_wp2_with fail
    with_reducible refine (HC.out _).mono ?_
    rintro e w1 ⟨rfl, rfl⟩
    go_wp2
    go_ret
    exact ⟨_, rfl, by rw [HM.out]; exact ErrAns.none _ _, Below.refl _ _⟩
  · have HM := lhd (zMq hok)
    have HC : Hid (∀ V : World, Calls Tryz.prog 83 #[.int .i64 b, .int .i64 u] V fun e w' => e = .returned (.bool true) ∧ V = w') := lhd fun V => by
      have h := zAx (w := V) b u
      rcases zEF hok with h1 | ⟨h1, h2⟩
      · rwa [h1] at h
      · exact absurd h2 (by decide)
    clear hok
    go_enter Tryz.func52, Tryz.ntmps52
    go_wp2_with fail
    with_reducible refine (HC.out _).mono ?_
    rintro e w1 ⟨rfl, rfl⟩
    go_wp2_with fail
    refine HN.out.mono ?_
    rintro e w1 ⟨E, rfl, hE, hb⟩
    have HE := lhd hE
    have HB := lhd hb
    clear hE hb
    go_wp2
    go_ret
    exact ⟨E, rfl, by rw [HM.out]; exact HE.out, HB.out⟩
end

section
open Go.RowKit Go.Extern.Stop Go.Stop Go.Extern
theorem zCE (a b : Nat) (ha : a < 9223372036854775808) (hb : b < 9223372036854775808) : bits .and .i64 (a : Int) (b : Int) = ((a &&& b : Nat) : Int) := by
  have hx : a &&& b < 2 ^ 63 := Nat.and_lt_two_pow _ (by omega)
  have h1 : (BitVec.ofInt 64 (a : Int)).toNat = a := by
    rw [BitVec.ofInt_natCast, BitVec.toNat_ofNat]; exact Nat.mod_eq_of_lt (by omega)
  have h2 : (BitVec.ofInt 64 (b : Int)).toNat = b := by
    rw [BitVec.ofInt_natCast, BitVec.toNat_ofNat]; exact Nat.mod_eq_of_lt (by omega)
  show IntKind.i64.wrap ((BitVec.ofInt 64 (a : Int) &&& BitVec.ofInt 64 (b : Int)).toNat : Int) = _
  rw [BitVec.toNat_and, h1, h2, IntKind.wrap_i64]
  omega
theorem zCK (a b : Nat) (ha : a < 9223372036854775808) (hb : b < 9223372036854775808) : bits .or .i64 (a : Int) (b : Int) = ((a ||| b : Nat) : Int) := by
  have hx : a ||| b < 2 ^ 63 := Nat.or_lt_two_pow (by omega) (by omega)
  have h1 : (BitVec.ofInt 64 (a : Int)).toNat = a := by
    rw [BitVec.ofInt_natCast, BitVec.toNat_ofNat]; exact Nat.mod_eq_of_lt (by omega)
  have h2 : (BitVec.ofInt 64 (b : Int)).toNat = b := by
    rw [BitVec.ofInt_natCast, BitVec.toNat_ofNat]; exact Nat.mod_eq_of_lt (by omega)
  show IntKind.i64.wrap ((BitVec.ofInt 64 (a : Int) ||| BitVec.ofInt 64 (b : Int)).toNat : Int) = _
  rw [BitVec.toNat_or, h1, h2, IntKind.wrap_i64]
  omega
theorem zMD (v j : Nat) : (revN j v * 2) ||| ((v / 2 ^ j) &&& 1) = revN (j + 1) v := by
  rw [zB8, Nat.and_one_is_mod]
  generalize revN j v = r
  have h2 : v / 2 ^ j % 2 < 2 := Nat.mod_lt _ (by decide)
  generalize v / 2 ^ j % 2 = b at *
  have h := Nat.shiftLeft_add_eq_or_of_lt (i := 1) (a := r) (b := b) (by simpa using h2)
  rw [Nat.shiftLeft_eq, Nat.pow_one] at h
  omega
theorem zDt {w : World} (v b : Nat) (hb : b ≤ 16) (hv : v < 65536) : Calls Tryz.prog 223 #[.int .i64 (v : Int), .int .i64 (b : Int)] w fun e w' => e = .returned (.int .i64 ((revN b v : Nat) : Int)) ∧ w = w' := by
  go_enter Tryz.func223, Tryz.ntmps223
  go_wp2_with fail
  go_loopw [5, 8] (fun n i wr => ∃ j : Nat, j ≤ b ∧ i = .int .i64 (j : Int) ∧ n = .int .i64 ((revN j v : Nat) : Int) ∧ w = wr) (fun _ i _ => b - (intOf i).toNat)
  case atStart => exact ⟨0, by omega, rfl, by simp [revN], rfl⟩
  case round =>
    obtain ⟨j, hj, rfl, rfl, rfl⟩ := hrel
    by_cases hlt : j < b
    · have d1 : decide ((j : Int) < (b : Int)) = true := decide_eq_true (by omega)
      have hr1 := zC0 j v
      have hpw : 2 ^ j ≤ 2 ^ 15 := zAl (by omega)
      have HS := lhd (zMD v j)
      have HD : Hid ((v : Int) / 2 ^ j = ((v / 2 ^ j : Nat) : Int)) := lhd (by simp)
      have hq : v / 2 ^ j ≤ v := Nat.div_le_self ..
      generalize hre : revN j v = r at *
      generalize v / 2 ^ j = q at *
      have hand := zCE q 1 (by omega) (by omega)
      have hor := zCK (r * 2) (q &&& 1) (by omega) (by have := @Nat.and_le_right q 1; omega)
      have hnum : Hid (bits .or .i64 ((r : Int) * 2) (bits .and .i64 ((v : Int) / 2 ^ j) 1) = ((revN (j + 1) v : Nat) : Int)) := lhd (by
        rw [HD.out, show bits BinOp.and IntKind.i64 (q : Int) 1 = ((q &&& 1 : Nat) : Int) from hand, show (r : Int) * 2 = ((r * 2 : Nat) : Int) by push_cast; rfl, hor, HS.out])
      go_wp2
      go_roundw
      case rel => exact ⟨j + 1, hlt, by go_num, by rw [hnum.out], trivial⟩
      case measure => simp [intOf]; omega
    · obtain rfl : j = b := by omega
      have d1 : decide ((j : Int) < (j : Int)) = false := decide_eq_false (by omega)
      go_wp2
      go_ret
      exact ⟨rfl, rfl⟩
theorem zCv {w : World} (g m l s : Nat) (hg : g = m + l + 1) (h8 : g ≤ 8) (hs : s < 4294967296) : Calls Tryz.prog 205 #[.int .i64 (g : Int), .int .i64 (l : Int), .int .u32 (s : Int)] w fun e w' => e = .returned (.tuple #[.int .i64 ((levF m s * 2 ^ l : Nat) : Int), .int .i64 ((2 ^ l : Nat) : Int)]) ∧ w = w' := by
  have e1 : (g : Int) - 1 - (l : Int) = (m : Int) := by omega
  have hlg : l < g := by omega
  have hm8 : m ≤ 7 := by omega
  have HR : Hid (∀ V : World, Calls Tryz.prog 223 #[.int .i64 ((s % 2 ^ m : Nat) : Int), .int .i64 (m : Int)] V fun e w' => e = .returned (.int .i64 ((levF m s : Nat) : Int)) ∧ V = w') := lhd fun V => by
    have hp : 2 ^ m ≤ 2 ^ 7 := zAl (by omega)
    have hsm : s % 2 ^ m < 2 ^ m := Nat.mod_lt _ (Nat.two_pow_pos m)
    exact zDt (s % 2 ^ m) m (by omega) (by omega)
  have hl1 := zEr m s
  have hpm : 2 ^ m ≤ 2 ^ 7 := zAl (by omega)
  have hpl : 2 ^ l ≤ 2 ^ 7 := zAl (by omega)
  have hp0 : 0 < 2 ^ m := Nat.two_pow_pos m
  have hx0 := Nat.mod_lt s hp0
  have hM : (2 : Int) ^ m = ((2 ^ m : Nat) : Int) := by push_cast; rfl
  have hL : (2 : Int) ^ l = ((2 ^ l : Nat) : Int) := by push_cast; rfl
  have hsx : (s : Int) % ((2 ^ m : Nat) : Int) = ((s % 2 ^ m : Nat) : Int) := (Int.natCast_emod ..).symm
  have hFP : levF m s * 2 ^ l ≤ 127 * 128 := Nat.mul_le_mul (by omega) hpl
  have hFQ : ((levF m s : Nat) : Int) * ((2 ^ l : Nat) : Int) = ((levF m s * 2 ^ l : Nat) : Int) := by push_cast; rfl
  generalize levF m s * 2 ^ l = R at *
  generalize levF m s = F at *
  generalize s % 2 ^ m = x at *
  generalize 2 ^ m = P at *
  generalize 2 ^ l = Q at *
  have hPn : ((P : Int) == 0) = false := by simp; omega
  have hPe : ¬ (P : Int) = 0 := by omega
  clear hg
  go_enter Tryz.func205, Tryz.ntmps205
  go_wp2_with fail
  with_reducible refine (HR.out w).mono ?_
  rintro e w1 ⟨rfl, rfl⟩
  go_wp2
  go_ret2
  exact ⟨rfl, rfl⟩
end

section
open Go.RowKit Go.Extern.Stop Go.Stop Go.Extern
theorem zJq {g l : Int} (h : mayB g l = true) : 1 ≤ g ∧ g ≤ 8 ∧ 0 ≤ l ∧ l < g := of_decide_eq_true h
theorem zBi {w : World} (g l : Int) (_ : I64 g) (_ : I64 l) : Calls Tryz.prog 55 #[.int .i64 g, .int .i64 l] w fun e w' => e = .returned (.int .i64 (if mayB g l then ((rateN l.toNat : Nat) : Int) else 0)) ∧ w = w' := by
  by_cases h1 : g < 1
  · have hm : mayB g l = false := decide_eq_false fun h => by omega
    rw [hm]
    go_enter Tryz.func55, Tryz.ntmps55
    go_wp2
    go_ret
    exact ⟨rfl, rfl⟩
  by_cases h2 : g > 8
  · have hm : mayB g l = false := decide_eq_false fun h => by omega
    rw [hm]
    go_enter Tryz.func55, Tryz.ntmps55
    go_wp2
    go_ret
    exact ⟨rfl, rfl⟩
  by_cases h3 : l < 0
  · have hm : mayB g l = false := decide_eq_false fun h => by omega
    rw [hm]
    go_enter Tryz.func55, Tryz.ntmps55
    go_wp2
    go_ret
    exact ⟨rfl, rfl⟩
  by_cases h4 : l ≥ g
  · have hm : mayB g l = false := decide_eq_false fun h => by omega
    rw [hm]
    go_enter Tryz.func55, Tryz.ntmps55
    go_wp2
    go_ret
    exact ⟨rfl, rfl⟩
  have hm : mayB g l = true := decide_eq_true ⟨by omega, by omega, by omega, by omega⟩
  rw [hm]
  obtain ⟨k, rfl⟩ := Int.eq_ofNat_of_zero_le (show 0 ≤ l by omega)
  cases k with
  | zero =>
    go_enter Tryz.func55, Tryz.ntmps55
    go_wp2
    go_ret
    exact ⟨rfl, rfl⟩
  | succ k =>
    have hp : 2 ^ k ≤ 2 ^ 7 := zAl (by omega)
    have hk0 : (((k + 1 : Nat) : Int) == 0) = false := by simp; omega
    have hke : ¬ ((k + 1 : Nat) : Int) = 0 := by omega
    have hk1 : ((k + 1 : Nat) : Int) - 1 = (k : Int) := by omega
    have hL : (2 : Int) ^ k = ((2 ^ k : Nat) : Int) := by push_cast; rfl
    have HE : Hid (rateN ((k + 1 : Nat) : Int).toNat = 2 ^ k) := lhd rfl
    rw [HE.out]
    generalize 2 ^ k = P at *
    generalize hK : ((k + 1 : Nat) : Int) = K at *
    clear hK HE
    go_enter Tryz.func55, Tryz.ntmps55
    go_wp2
    go_ret
    exact ⟨rfl, rfl⟩
theorem zKa : StRateC := fun w g l hg hl => by
  refine (zBi g l hg hl).mono ?_
  rintro e w' ⟨rfl, rfl⟩
  exact ⟨rfl, Below.refl _ _⟩
end
end Go.Proofs.YtkfimdpcadbcpaaGreatDoor
