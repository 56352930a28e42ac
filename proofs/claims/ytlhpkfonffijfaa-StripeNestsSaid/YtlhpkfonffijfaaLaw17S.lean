/- The seventeenth layer's law StripeNests (plain seat). -/
import Derived.Test.YtlhpkfonffijfaaLaw17
namespace Go.Proofs.Ytlhpkfonffijfaa
open Go.RowKit Go.Extern.Stop Go.Stop Go.Extern

theorem st_wrapU_nonneg (n : Int) : 0 ≤ IntKind.u64.wrap n := by rw [IntKind.wrap_u64]; omega
theorem st_mod (n : Int) (k : Nat) (hk : 0 < k) : ∃ a : Nat, (IntKind.u64.wrap n).tmod (k : Int) = (a : Int) ∧ a < k := by
  have h0 := st_wrapU_nonneg n
  have h1 := Int.tmod_lt_of_pos (IntKind.u64.wrap n) (b := (k : Int)) (by omega)
  have h2 := Int.tmod_nonneg (k : Int) h0
  exact ⟨((IntKind.u64.wrap n).tmod (k : Int)).toNat, by omega, by omega⟩
/-- how a level's chunks, the level below's and the layer's lie -/
theorem nest_at (m b s : Nat) (h : m + b + 1 ≤ 7) : ∃ A P t : Nat, 0 < P ∧ A + 2 * P ≤ 128 ∧ (t = 0 ∨ t = 1) ∧ levF m s * 2 ^ (b + 1) = A ∧ 2 ^ (b + 1) = 2 * P ∧ 2 ^ b = P ∧ levF (m + 1) s * 2 ^ b = A + t * P ∧ layL m s (b + 1) = List.range' (A + (1 - t) * P) P := by
  refine ⟨levF m s * 2 ^ (b + 1), 2 ^ b, s / 2 ^ m % 2, Nat.two_pow_pos b, ?_, by omega, rfl, by rw [Nat.pow_succ, Nat.mul_comm], rfl, ?_, ?_⟩
  · have h1 := levL_end m (b + 1) s
    have h2 : (2 : Nat) ^ (m + (b + 1)) ≤ 2 ^ 7 := st_pow_le (by omega)
    rw [show 2 * 2 ^ b = 2 ^ (b + 1) by rw [Nat.pow_succ, Nat.mul_comm]]
    omega
  · rw [levF_succ, Nat.add_mul, Nat.pow_succ, ← Nat.mul_assoc, Nat.mul_comm 2 (levF m s), Nat.mul_assoc, Nat.mul_assoc, Nat.mul_comm 2]
  · show List.range' ((2 * levF m s + (1 - s / 2 ^ m % 2)) * 2 ^ b) (2 ^ b) = _
    congr 1
    rw [Nat.add_mul, Nat.pow_succ, Nat.mul_comm 2 (levF m s), Nat.mul_assoc, Nat.mul_comm 2]

set_option linter.unusedSimpArgs false in
set_option linter.unusedVariables false in
set_option maxRecDepth 1000000 in
set_option maxHeartbeats 8000000 in
theorem nests17 (hR : StRateC) (hC : StChunksC) (hL : StLevelC) {w : World} (g l : Int) (s : Nat) (ig : I64 g) (il : I64 l) (hs : s < 4294967296) :
    Calls Try.prog 5 #[.int .i64 g, .int .i64 l, .int .u32 (s : Int)] w fun e w' => e = .returned (.bool true) ∧ Below w.heap.size w w' := by
  obtain ⟨a, ha, ha7⟩ := st_mod g 7 (by decide)
  obtain ⟨b, hb, hba⟩ := st_mod l (1 + a) (by omega)
  obtain ⟨m, hm⟩ : ∃ m, m = a - b := ⟨_, rfl⟩
  have ha' : (IntKind.u64.wrap g).tmod 7 = (a : Int) := ha
  have e1 : IntKind.i64.wrap (a : Int) = (a : Int) := IntWalk.i64_in _ (by omega)
  have e2 : IntKind.i64.wrap (2 + (a : Int)) = ((2 + a : Nat) : Int) := by rw [IntWalk.i64_in _ (by omega)]; omega
  have e2b : (2 : Int) + (a : Int) = ((2 + a : Nat) : Int) := by omega
  have e3 : IntKind.i64.wrap (((2 + a : Nat) : Int) - 1) = ((1 + a : Nat) : Int) := by rw [IntWalk.i64_in _ (by omega)]; omega
  have e3b : ((2 + a : Nat) : Int) - 1 = ((1 + a : Nat) : Int) := by omega
  have e4 : IntKind.u64.wrap ((1 + a : Nat) : Int) = ((1 + a : Nat) : Int) := by rw [IntKind.wrap_u64]; omega
  have e5 : IntKind.i64.wrap (b : Int) = (b : Int) := IntWalk.i64_in _ (by omega)
  have e6 : IntKind.i64.wrap (1 + (b : Int)) = ((1 + b : Nat) : Int) := by rw [IntWalk.i64_in _ (by omega)]; omega
  have e6b : (1 : Int) + (b : Int) = ((1 + b : Nat) : Int) := by omega
  have e7 : IntKind.i64.wrap (((1 + b : Nat) : Int) - 1) = (b : Int) := by rw [IntWalk.i64_in _ (by omega)]; omega
  have e7b : ((1 + b : Nat) : Int) - 1 = (b : Int) := by omega
  have hnz : (((1 + a : Nat) : Int) == 0) = false := by simp; omega
  have hnz2 : ¬ ((1 + a : Nat) : Int) = 0 := by omega
  have hnz3 : ¬ (1 + a = 0) := by omega
  have HGA : Hid (2 + a = m + (b + 1) + 1) := Lib.hid (by omega)
  obtain ⟨A, P, t, hP, hAP, ht, n1, n2, n3, n4, n5⟩ := nest_at m b s (by omega)
  have HL1 : Hid (∀ V : World, Calls Try.prog 12 #[.int .i64 ((2 + a : Nat) : Int), .int .i64 ((1 + b : Nat) : Int), .int .u32 (s : Int)] V fun e w' => e = .returned (.tuple #[.int .i64 (A : Int), .int .i64 ((2 * P : Nat) : Int), .nilIface]) ∧ Below V.heap.size V w') := Lib.hid fun V => by
    refine (hL V _ _ s ⟨by omega, by omega⟩ ⟨by omega, by omega⟩ hs).mono ?_
    have k1 : (((2 + a : Nat) : Int) - 1 - ((1 + b : Nat) : Int)).toNat = m := by omega
    rw [k1, Int.toNat_natCast, Nat.add_comm 1 b, n1, n2]
    rintro e w' ⟨hb', ⟨h, -⟩ | ⟨-, rfl⟩⟩
    · rw [show mayB ((2 + a : Nat) : Int) ((b + 1 : Nat) : Int) = true from decide_eq_true (by omega)] at h
      cases h
    · exact ⟨rfl, hb'⟩
  have HL2 : Hid (∀ V : World, Calls Try.prog 12 #[.int .i64 ((2 + a : Nat) : Int), .int .i64 (b : Int), .int .u32 (s : Int)] V fun e w' => e = .returned (.tuple #[.int .i64 ((A + t * P : Nat) : Int), .int .i64 (P : Int), .nilIface]) ∧ Below V.heap.size V w') := Lib.hid fun V => by
    refine (hL V _ _ s ⟨by omega, by omega⟩ ⟨by omega, by omega⟩ hs).mono ?_
    have k1 : (((2 + a : Nat) : Int) - 1 - (b : Int)).toNat = m + 1 := by omega
    rw [k1, Int.toNat_natCast, n3, ← n4, n3]
    rintro e w' ⟨hb', ⟨h, -⟩ | ⟨-, rfl⟩⟩
    · rw [show mayB ((2 + a : Nat) : Int) (b : Int) = true from decide_eq_true (by omega)] at h
      cases h
    · exact ⟨rfl, hb'⟩
  have HCC : Hid (∀ V : World, Calls Try.prog 9 #[.int .i64 ((2 + a : Nat) : Int), .int .i64 ((1 + b : Nat) : Int), .int .u32 (s : Int)] V fun e w' => ∃ v', e = .returned (.tuple #[v', .nilIface]) ∧ w'.ownsRow V.heap.size 3 1 v' P ((List.range' (A + (1 - t) * P) P).map cutV) ∧ Below V.heap.size V w') := Lib.hid fun V => by
    refine (hC V _ _ s ⟨by omega, by omega⟩ ⟨by omega, by omega⟩ hs).mono ?_
    have k1 : (((2 + a : Nat) : Int) - 1 - ((1 + b : Nat) : Int)).toNat = m := by omega
    rw [k1, Int.toNat_natCast, Nat.add_comm 1 b, n5]
    rintro e w' ⟨hb', ⟨h, -⟩ | ⟨-, v', rfl, ho⟩⟩
    · rw [show mayB ((2 + a : Nat) : Int) ((b + 1 : Nat) : Int) = true from decide_eq_true (by omega)] at h
      cases h
    · exact ⟨v', rfl, by simpa using ho, hb'⟩
  have HAW : Hid (∀ V : World, Calls Try.prog 8 #[] V fun e w' => e = .returned (.bool true) ∧ Below V.heap.size V w') := Lib.hid fun V => awake17 hR hC
  have htP : t * P = 0 ∧ (1 - t) * P = P ∨ t * P = P ∧ (1 - t) * P = 0 := by
    rcases ht with rfl | rfl
    · exact .inl ⟨by simp, by simp⟩
    · exact .inr ⟨by simp, by simp⟩
  have HGE : Hid (∀ j, j < P → ((List.range' (A + (1 - t) * P) P).map cutV)[j]? = some (.int .i64 ((A + (1 - t) * P + j : Nat) : Int))) := Lib.hid fun j hj => by
    rw [List.getElem?_map, List.getElem?_range' hj]
    simp [cutV]
  generalize t * P = X at *
  generalize (1 - t) * P = Y at *
  obtain ⟨G, hG⟩ : ∃ G, G = 2 + a := ⟨_, rfl⟩
  obtain ⟨H, hH⟩ : ∃ H, H = 1 + a := ⟨_, rfl⟩
  obtain ⟨L, hL'⟩ : ∃ L, L = 1 + b := ⟨_, rfl⟩
  obtain ⟨Q, hQ⟩ : ∃ Q, Q = 2 * P := ⟨_, rfl⟩
  obtain ⟨LO, hLO⟩ : ∃ LO, LO = A + X := ⟨_, rfl⟩
  rw [← hG] at e2 e2b e3 e3b HL1 HL2 HCC
  rw [← hH] at e3 e3b e4 hnz hnz2 hnz3 hb
  rw [← hL'] at e6 e6b e7 e7b HL1 HCC
  rw [← hQ] at HL1
  rw [← hLO] at HL2
  have q1 : (2 : Int) * (P : Int) = (Q : Int) := by omega
  have q1w : IntKind.i64.wrap (2 * (P : Int)) = (Q : Int) := by rw [IntWalk.i64_in _ (by omega)]; omega
  have q1x : IntKind.i64.wrap (Q : Int) = (Q : Int) := IntWalk.i64_in _ (by omega)
  have q2 : ((Q : Int) != (Q : Int)) = false := by simp
  have q3 : ((P : Int) != (P : Int)) = false := by simp
  have q4 : decide ((LO : Int) < (A : Int)) = false := decide_eq_false (by omega)
  obtain ⟨S1, hS1⟩ : ∃ S, S = LO + P := ⟨_, rfl⟩
  obtain ⟨S2, hS2⟩ : ∃ S, S = A + Q := ⟨_, rfl⟩
  have q5 : (LO : Int) + (P : Int) = (S1 : Int) := by omega
  have q6 : (A : Int) + (Q : Int) = (S2 : Int) := by omega
  have q5w : IntKind.i64.wrap (S1 : Int) = (S1 : Int) := IntWalk.i64_in _ (by omega)
  have q6w : IntKind.i64.wrap (S2 : Int) = (S2 : Int) := IntWalk.i64_in _ (by omega)
  have q7 : decide ((S2 : Int) < (S1 : Int)) = false := decide_eq_false (by omega)
  have gb1 : G ≤ 8 := by omega
  have gb2 : H ≤ 8 := by omega
  have gb3 : L ≤ 8 := by omega
  have gb4 : b ≤ 8 := by omega
  have gb5 : a ≤ 8 := by omega
  have gb6 : 1 ≤ H := by omega
  have gb7 : 1 ≤ L := by omega
  have gb8 : 1 ≤ G := by omega
  have gw1 : IntKind.i64.wrap (G : Int) = (G : Int) := IntWalk.i64_in _ (by omega)
  have gw2 : IntKind.i64.wrap (H : Int) = (H : Int) := IntWalk.i64_in _ (by omega)
  have gw3 : IntKind.i64.wrap (L : Int) = (L : Int) := IntWalk.i64_in _ (by omega)
  have nb1 : Q ≤ 256 := by omega
  have nb2 : LO ≤ 256 := by omega
  have nb3 : S1 ≤ 512 := by omega
  have nb4 : S2 ≤ 512 := by omega
  have nb5 : A ≤ 128 := by omega
  have nb6 : P ≤ 128 := by omega
  have nq4 : ¬ LO < A := by omega
  have nq7 : ¬ S2 < S1 := by omega
  have HS1 := Lib.hid hS1
  have HS2 := Lib.hid hS2
  have HLO := Lib.hid hLO
  have HQ := Lib.hid hQ
  have htP' := Lib.hid htP
  clear n1 n2 n3 n4 n5 hR hC hL ha hm ha7 hba hG hH hL' hQ hLO hS1 hS2 ht htP
  go_enter Try.func5, Try.ntmps5
  go_wp2_with fail
  with_reducible refine (HL1.out _).mono ?_
  rintro e w1 ⟨rfl, hb1⟩
  have HB1 := Lib.hid hb1
  clear hb1
  go_wp2_with fail
  with_reducible refine (HL2.out _).mono ?_
  rintro e w2 ⟨rfl, hb2⟩
  have HB2 := Lib.hid (HB1.out.trans (hb2.mono HB1.out.size))
  clear hb2
  go_wp2_with fail
  with_reducible refine (HCC.out _).mono ?_
  rintro e w3 ⟨v3, rfl, ho3, hb3⟩
  have HB3 := Lib.hid (HB2.out.trans (hb3.mono HB2.out.size))
  have HO3 := Lib.hid ho3
  obtain ⟨a3, c3, hv3, -, hg3⟩ := own_open ho3
  subst hv3
  obtain ⟨g3, rfl⟩ := hg3 hP
  clear hb3 ho3 hg3
  go_wp2_with fail
  go_loopw [15] (fun i wr => ∃ j : Nat, j ≤ P ∧ i = .int .i64 (j : Int) ∧ wr = w3) (fun i _ => P - (intOf i).toNat)
  case atStart => exact ⟨0, Nat.zero_le _, rfl, rfl⟩
  case round =>
    obtain ⟨j, hj, rfl, rfl⟩ := hrel
    by_cases hlt : j < P
    · have d2 : decide ((j : Int) < (P : Int)) = true := decide_eq_true (by omega)
      have hx : wr.cell? ⟨g3, j, none⟩ = some (.int .i64 ((A + Y + j : Nat) : Int)) := by
        rw [HO3.out.cellAt j (by omega)]
        exact HGE.out j hlt
      obtain ⟨y, hy⟩ : ∃ y, y = A + Y + j := ⟨_, rfl⟩
      rw [← hy] at hx
      have y1 : decide ((y : Int) < (A : Int)) = false := decide_eq_false (by omega)
      have y2 : decide ((S2 : Int) ≤ (y : Int)) = false := decide_eq_false (by have := HS2.out; have := HQ.out; rcases htP'.out with h | h <;> omega)
      have z1 : ¬ y < A := by omega
      have z2 : ¬ S2 ≤ y := by have := HS2.out; have := HQ.out; rcases htP'.out with h | h <;> omega
      by_cases hz : LO ≤ y
      · have y3 : decide ((LO : Int) ≤ (y : Int)) = true := decide_eq_true (by omega)
        have y4 : decide ((y : Int) < (S1 : Int)) = false := decide_eq_false (by have := HS1.out; have := HLO.out; rcases htP'.out with h | h <;> omega)
        have z4 : ¬ y < S1 := by have := HS1.out; have := HLO.out; rcases htP'.out with h | h <;> omega
        clear hy
        go_wp2_with fail
        go_roundw
        case rel => exact ⟨j + 1, by omega, by go_num, trivial⟩
        case measure => simp [intOf]; omega
      · have y3 : decide ((LO : Int) ≤ (y : Int)) = false := decide_eq_false (by omega)
        clear hy
        go_wp2_with fail
        go_roundw
        case rel => exact ⟨j + 1, by omega, by go_num, trivial⟩
        case measure => simp [intOf]; omega
    · obtain rfl : j = P := by omega
      have d2 : decide ((j : Int) < (j : Int)) = false := decide_eq_false (by omega)
      go_wp2_with fail
      refine (HAW.out _).mono ?_
      rintro e w4 ⟨rfl, hb4⟩
      have HB4 := Lib.hid (HB3.out.trans (hb4.mono HB3.out.size))
      clear hb4
      go_wp2
      go_ret
      exact ⟨rfl, HB4.out⟩
end Go.Proofs.Ytlhpkfonffijfaa
