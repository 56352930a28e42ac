import Derived.Test.YtkfimdpcadbcpaaGreatDoorChecked
import Derived.WalkKit
import Derived.ProofKit
import Derived.OpenShut
import Derived.Deep.DeepHandedRow
import Derived.Deep.Strs
import Derived.LaidHandle
import Derived.Laws.Bits128
import Derived.Lib.BitFns
import Derived.Lib.TrailingZeros
import Derived.Laws.Bits64b
import Derived.Lib.Hide
import Derived.Laws.AppendOwn
import Derived.Laws.OwnMore
import Derived.Laws.MakeOwn
import Derived.BigQuiet
import Derived.WalkSmall
import Derived.Deep.QuietTactic
import Derived.Laws.ShiftsVar
import Derived.Laws.CopyOwn
import Derived.Deep.Cut
import Derived.LaidEql
import Derived.Stop.Asserts
import Derived.RowKitTokens
import Derived.Elder7
import Derived.Defers
import Derived.Recover
import Derived.Laws.Pointers
import Derived.Laws.AppendOwnNone
import Derived.Deep.Draws
import Derived.Deep.RegionHeld3
import Derived.OwnWalk
import Derived.WalkSpells
import Derived.WalkLawsBesides
import Derived.Deep.LoopGhost
import Derived.Deep.RegionHeld
import Derived.Laws.BytesArg
import Derived.ChangeSlices
import Derived.SizedLaws
import Derived.Deep.Matrix
import Derived.Deep.Grids
import Derived.Lib.SmallJoins
import Derived.Deep.AppendLies
import Derived.Deep.RegionLaw
import Derived.Maps.AppendAt
import Derived.Deep.Fields
import Derived.Lib.AppendZerosOnto
import Derived.Lib.AppendZeros
import Derived.Laws.Append
import Derived.Test.YtkfimdpcadbcpaaGreatDoorA33
set_option linter.unusedSimpArgs false
set_option linter.unusedVariables false
set_option maxRecDepth 1000000
set_option maxHeartbeats 8000000
namespace Go.Proofs.YtkfimdpcadbcpaaGreatDoor
section
open Go.RowKit Go.Extern.Stop Go.Stop Go.Extern
theorem yAh {w : World} (k : Nat) (hk : k ≤ 31) : Calls Tryz.prog 24 #[.int .i64 (k : Int)] w fun e w' => e = .returned (.int .i64 ((2 ^ k : Nat) : Int)) ∧ w = w' := by
  go_enter Tryz.func24, Tryz.ntmps24
  go_wp2_with fail
  go_loopw [3, 4] (fun n i wr => ∃ j : Nat, j ≤ k ∧ i = .int .i64 (j : Int) ∧ n = .int .i64 ((2 ^ j : Nat) : Int) ∧ w = wr) (fun _ i _ => k - (intOf i).toNat)
  case atStart => exact ⟨0, by omega, rfl, rfl, rfl⟩
  case round =>
    obtain ⟨j, hj, rfl, rfl, rfl⟩ := hrel
    by_cases hlt : j < k
    · have d1 : decide ((j : Int) < (k : Int)) = true := decide_eq_true (by omega)
      have hle : 2 ^ j ≤ 2 ^ 30 := zAl (by omega)
      have HS : Hid (2 ^ (j + 1) = 2 ^ j * 2) := lhd (Nat.pow_succ 2 j)
      generalize 2 ^ j = x at *
      go_wp2
      go_roundw
      case rel => exact ⟨j + 1, hlt, by go_num, by rw [HS.out]; go_num, trivial⟩
      case measure => simp [intOf]; omega
    · obtain rfl : j = k := by omega
      have d1 : decide ((j : Int) < (j : Int)) = false := decide_eq_false (by omega)
      go_wp2
      go_ret
      exact ⟨rfl, rfl⟩
end

section
theorem yAv {s b : Nat} (_ : 0 < b) : symT s b = if 0 < s % b ∨ s = 0 then s / b + 1 else s / b := by
  unfold symT upN
  by_cases h0 : s = 0
  · subst h0; simp
  · have e := Nat.div_add_mod s b
    generalize s / b = q at *
    generalize s % b = r at *
    by_cases h : 0 < r
    · rw [if_pos h, if_pos (.inl h)]; omega
    · rw [if_neg h, if_neg (by omega)]
      have : q ≠ 0 := fun h' => by rw [h', Nat.mul_zero] at e; omega
      omega
end

section
open Go.RowKit Go.Extern.Stop Go.Stop Go.Extern
theorem ErrAns.mono {k : Int} {c : ByteArray} {w w' : World} {E : Value} (h : ErrAns k c w E) (hb : Below w.heap.size w w') : ErrAns k c w' E := by
  rcases h with h | ⟨h1, ls, h2⟩
  · exact .inl h
  · exact .inr ⟨h1, ls, h2.mono hb⟩
end

section
open Go.RowKit Go.Extern.Stop Go.Stop Go.Extern
theorem yAi {w : World} (s b : Nat) (hb : 1 ≤ b) (hs : s ≤ 9223372036854775807) :
    Calls Tryz.prog 56 #[.int .i64 (s : Int), .int .i64 (b : Int)] w fun e w' => e = .returned (.int .i64 ((symT s b : Nat) : Int)) ∧ w = w' := by
  have h0 : ¬ (b : Int) = 0 := by omega
  have hz : ((b : Int) == 0) = false := by simpa using h0
  have hle := zEA (s := s) hb
  have hT := yAv (s := s) hb
  have HT := lhd hT
  clear hT
  go_enter Tryz.func56, Tryz.ntmps56
  go_wp2_with fail
  · rename_i h1 h2
    go_ret
    have h' : ¬ 0 < s % b := fun k => by have := (zJo s b).2 k; omega
    refine ⟨?_, rfl⟩
    show Ending.returned (Value.int .i64 (wrap64 (wrap64 ((s : Int) / (b : Int)) + 1))) = _
    have hs0 : s = 0 := by
      rcases h2 with h2 | h2
      · omega
      · have : (s : Int) = 0 := by simpa using h2
        omega
    subst hs0
    rw [zGV 0 b hs, HT.out, if_pos (.inr rfl)]
    simp [wrap64]
  · rename_i h1 h2
    go_ret
    have h' : ¬ 0 < s % b := fun k => by have := (zJo s b).2 k; omega
    refine ⟨?_, rfl⟩
    show Ending.returned (Value.int .i64 (wrap64 ((s : Int) / (b : Int)))) = _
    have hs0 : ¬ s = 0 := by
      intro hs0; subst hs0; simp at h2
    rw [zGV s b hs, HT.out, if_neg (by omega)]
  · rename_i h1
    go_ret
    have h' : 0 < s % b := (zJo s b).1 h1
    refine ⟨?_, rfl⟩
    show Ending.returned (Value.int .i64 (wrap64 (wrap64 ((s : Int) / (b : Int)) + 1))) = _
    have hT := HT.out
    rw [if_pos (.inl h')] at hT
    rw [hT] at hle ⊢
    rw [zGV s b hs]
    generalize s / b = q at *
    have : s ≠ 0 := fun h0 => by rw [h0] at h'; simp at h'
    congr 2
    unfold wrap64; omega
end

section
open Go.RowKit Go.Extern.Stop Go.Stop Go.Extern
theorem yAk {w : World} (s b n l q i : Int) (hq : 0 ≤ q) (hq2 : q ≤ 128) : Calls Tryz.prog 35 #[plV s b n l q, .int .i64 i] w fun e w' => e = .returned (.int .i64 (if i < l then q + 1 else q)) ∧ Below w.heap.size w w' := by
  unfold plV plC
  by_cases h : i < l
  · have d1 : decide (i < l) = true := decide_eq_true h
    rw [if_pos h]
    go_enter Tryz.func35, Tryz.ntmps35
    go_wp2
    go_ret
    exact ⟨rfl, (Below.refl _ _).alloc (Nat.le_refl _) _⟩
  · have d1 : decide (i < l) = false := decide_eq_false h
    rw [if_neg h]
    go_enter Tryz.func35, Tryz.ntmps35
    go_wp2
    go_ret
    exact ⟨rfl, (Below.refl _ _).alloc (Nat.le_refl _) _⟩
end

section
open Go.RowKit Go.Extern.Stop Go.Stop Go.Extern
theorem yAu {w : World} (s b m : Int) (h : OutOf s b m) : Calls Tryz.prog 34 #[.int .i64 s, .int .i64 b, .int .i64 m] w fun e w' => e = .returned (.tuple #[plV 0 0 0 0 0, .int .i64 1]) ∧ Below w.heap.size w w' := by
  obtain ⟨w0, hw0, hb0, hbx⟩ := zAv w 0 0 0 0 0
  have HW0 := lhd hw0
  have HB2 := lhd hb0
  have HBX2 := lhd hbx
  have c0 := zAa (j := 0) (u := .int .i64 0) hbx rfl
  have c1 := zAa (j := 1) (u := .int .i64 0) hbx rfl
  have c2 := zAa (j := 2) (u := .int .i64 0) hbx rfl
  have c3 := zAa (j := 3) (u := .int .i64 0) hbx rfl
  have c4 := zAa (j := 4) (u := .int .i64 0) hbx rfl
  have f0 := zAb (j := 0) hbx
  have f1 := zAb (j := 1) hbx
  have f2 := zAb (j := 2) hbx
  have f3 := zAb (j := 3) hbx
  have f4 := zAb (j := 4) hbx
  clear hw0 hb0 hbx
  unfold OutOf at h
  go_enter Tryz.func34, Tryz.ntmps34
  go_upto_region 1 with fail
  rw [← HW0.out]
  go_wp2_with fail
  all_goals first | (exfalso; omega) | skip
  all_goals
    refine bodyPost_ret (zGl rfl _ _ w.heap.size 37 _ (0, 0) _ rfl (HBX2.out.done _ _ _ _ _) Tryz.underlying37 rfl (by kernel_rfl)) rfl ?_
    exact ⟨rfl, PlBox.below HB2.out (Nat.le_refl _) _ _ _ _ _⟩
theorem yAt {w : World} (s b m : Nat) (hs : s ≤ 9223372036854775807) (b1 : 1 ≤ b) (b2 : b ≤ 64) (m1 : 1 ≤ m) (m2 : m ≤ 128) :
    Calls Tryz.prog 34 #[.int .i64 (s : Int), .int .i64 (b : Int), .int .i64 (m : Int)] w fun e w' =>
      (16 < upN m (symT s b) ∧ e = .returned (.tuple #[plV 0 0 0 0 0, .int .i64 3]) ∧ Below w.heap.size w w') ∨
      (upN m (symT s b) ≤ 16 ∧ e = .returned (.tuple #[plV s b (upN m (symT s b) : Nat) (symT s b % upN m (symT s b) : Nat) (symT s b / upN m (symT s b) : Nat), .int .i64 0]) ∧ Below w.heap.size w w') := by
  obtain ⟨w0, hw0, hb0, hbx⟩ := zAv w 0 0 0 0 0
  have HW0 := lhd hw0
  have HB0 := lhd hb0
  have HBX2 := lhd hbx
  have HSY : Hid (∀ V : World, Calls Tryz.prog 56 #[.int .i64 (s : Int), .int .i64 (b : Int)] V fun e w' => e = .returned (.int .i64 ((symT s b : Nat) : Int)) ∧ V = w') := lhd fun V => yAi s b b1 hs
  have hT : symT s b ≤ 9223372036854775807 := by have := zEA (s := s) b1; omega
  have hn1 : 1 ≤ upN m (symT s b) := zL3 m1 (zEE s b)
  have d1 : decide ((s : Int) < 0) = false := decide_eq_false (by omega)
  have d2 : decide ((b : Int) < 1) = false := decide_eq_false (by omega)
  have d3 : decide (64 < (b : Int)) = false := decide_eq_false (by omega)
  have d4 : decide ((m : Int) < 1) = false := decide_eq_false (by omega)
  have d5 : decide (128 < (m : Int)) = false := decide_eq_false (by omega)
  have HU : Hid (∀ k, upN m (symT s b) ≤ k ↔ symT s b ≤ k * m) := lhd fun k => zL6 m1
  generalize upN m (symT s b) = n at *
  generalize symT s b = T at *
  have hz3 : ¬ n = 0 := by omega
  have HQ : Hid ((T : Int) / (n : Int) = ((T / n : Nat) : Int) ∧ (T : Int) % (n : Int) = ((T % n : Nat) : Int) ∧ (T : Int).tdiv (n : Int) = ((T / n : Nat) : Int) ∧ (T : Int).tmod (n : Int) = ((T % n : Nat) : Int)) := lhd ⟨by simp, by simp, rfl, rfl⟩
  have hq2 : T / n ≤ 9223372036854775807 := Nat.le_trans (Nat.div_le_self _ _) hT
  have hr2 : T % n ≤ 9223372036854775807 := Nat.le_trans (Nat.mod_le _ _) hT
  generalize T / n = q at *
  generalize T % n = r at *
  have c0 := zAa (j := 0) (u := .int .i64 0) hbx rfl
  have c1 := zAa (j := 1) (u := .int .i64 0) hbx rfl
  have c2 := zAa (j := 2) (u := .int .i64 0) hbx rfl
  have c3 := zAa (j := 3) (u := .int .i64 0) hbx rfl
  have c4 := zAa (j := 4) (u := .int .i64 0) hbx rfl
  have f0 := zAb (j := 0) hbx
  have f1 := zAb (j := 1) hbx
  have f2 := zAb (j := 2) hbx
  have f3 := zAb (j := 3) hbx
  have f4 := zAb (j := 4) hbx
  clear hw0 hb0 hbx
  go_enter Tryz.func34, Tryz.ntmps34
  go_wp2_with fail
  rw [← HW0.out]
  refine (HSY.out w0).mono ?_
  rintro e w1 ⟨rfl, rfl⟩
  go_wp2_with fail
  go_loopw [9] (fun i wr => ∃ k : Nat, i = .int .i64 (k : Int) ∧ 1 ≤ k ∧ k ≤ 17 ∧ k ≤ n ∧ w0 = wr) (fun i _ => 17 - (intOf i).toNat)
  case atStart => exact ⟨1, rfl, by omega, by omega, hn1, rfl⟩
  case round =>
    obtain ⟨k, rfl, k1, k17, kn, rfl⟩ := hrel
    have hkm : k * m ≤ 17 * 128 := Nat.mul_le_mul k17 m2
    have hI : (k : Int) * (m : Int) = ((k * m : Nat) : Int) := by rw [Int.natCast_mul]
    have hk1 : (k : Int) * (m : Int) ≤ 2176 := by rw [hI]; omega
    have hk0 : 0 ≤ (k : Int) * (m : Int) := by rw [hI]; omega
    by_cases h17 : k = 17
    · subst h17
      clear hI hkm hk1 hk0
      go_wp2
      refine bodyPost_ret (zGl rfl _ _ w.heap.size 37 _ (0, 0) _ rfl (HBX2.out.done _ _ _ _ _) Tryz.underlying37 rfl (by kernel_rfl)) rfl ?_
      exact .inl ⟨by omega, rfl, PlBox.below HB0.out (Nat.le_refl _) _ _ _ _ _⟩
    have hd : decide ((k : Int) ≤ 16) = true := decide_eq_true (by omega)
    by_cases ht : T ≤ k * m
    · have e1 : decide ((T : Int) ≤ (k : Int) * (m : Int)) = true := decide_eq_true (by rw [hI]; omega)
      obtain rfl : n = k := by have := (HU.out k).2 ht; omega
      have hn16 : Hid (n ≤ 16) := lhd (by omega)
      have hz : ¬ (n : Int) = 0 := by omega
      have hz2 : ((n : Int) == 0) = false := by simpa using hz
      obtain ⟨hq, hr, hq3, hr3⟩ := HQ.out
      clear hI hkm ht h17 HU
      go_upto_region 8 with fail
      go_region
      go_wp2
      refine bodyPost_ret (zGl rfl _ _ w.heap.size 37 _ (0, 0) _ rfl (HBX2.out.done _ _ _ _ _) Tryz.underlying37 rfl (by kernel_rfl)) rfl ?_
      exact .inr ⟨hn16.out, rfl, (PlBox.below HB0.out (Nat.le_refl _) _ _ _ _ _).drew⟩
    · have e1 : decide ((T : Int) ≤ (k : Int) * (m : Int)) = false := decide_eq_false (by rw [hI]; omega)
      have hkn : k + 1 ≤ n := by
        rcases Nat.lt_or_ge k n with h | h
        · omega
        · exact absurd ((HU.out k).1 h) ht
      clear hI hkm ht HU
      go_wp2
      go_roundw
      case rel => exact ⟨k + 1, by go_num, by omega, by omega, hkn, trivial⟩
      case measure => simp [intOf]; omega
end

section
open Go.RowKit Go.Extern.Stop Go.Stop Go.Extern Go.Joins Go.Deep Go.WideShapes Go.ChangeShapes Go.ChangeAt
section
variable {H : Type} {enc : TypeId × Value → H}
theorem yAg {P : Program} {W : World} {fs : Array Field} {xs : List (DataW H × List MemPlace)} {cs : List Value} {n : Nat} (hff : ∀ (i : Nat) (f : Field), fs[i]? = some f → DataW.trod enc P W 0 (fun _ => true) true n f.type ((cs.drop f.offset).take (P.cellsOf f.type)) = xs[i]?)
    (i : Nat) (f : Field) (hf : fs[i]? = some f) {k : Nat} (hk : P.cellsOf f.type = k) {y : DataW H × List MemPlace} (hy : xs[i]? = some y) : DataW.trod enc P W 0 (fun _ => true) true n f.type ((cs.drop f.offset).take k) = some y := by rw [← hk, hff i f hf, hy]
theorem yAc {u : TypeId} {W : World} {n : Nat} {c : Value} {y : DataW H × List MemPlace} (hu : Tryz.prog.underlying u = some (.int .i64)) (hg : DataW.trod enc Tryz.prog W 0 (fun _ => true) true n u [c] = some y) : ∃ m : Int, c = .int .i64 m ∧ I64 m := by
  obtain ⟨m, hm, -, hw⟩ := DataW.trod_int hu hg
  exact ⟨m, by simpa using hm, by simpa [Lit.wf, IntKind.min, IntKind.max, IntKind.signed, IntKind.bits] using hw⟩
theorem cfg_open {b0 : Nat} {v : Value} {d : DataW H} {ps : List MemPlace} {W : World}
    (hv : Value.okWide Tryz.prog W .any b0 23 v) (h : DataW.Trod enc Tryz.prog W 0 (fun _ => true) true 23 v d ps) :
    ∃ c : Cfg, v = cfgV c ∧ CfgI c := by
  have k1 : Tryz.prog.cellsOf 3 = 1 := by kernel_rfl
  have hC : Tryz.prog.cellsOf 23 = 8 := by kernel_rfl
  obtain ⟨cs, rfl, hsz⟩ := okWide_struct Tryz.underlying23 hv
  obtain ⟨fuel, hf⟩ := h
  obtain ⟨xs, n, _, hx, hl, hlen, hff⟩ := DataW.trod_struct Tryz.underlying23 hf
  obtain ⟨l⟩ := cs
  have hl8 : l.length = 8 := hsz.trans hC
  clear hv hf hl hsz
  match l, hl8 with
  | [c0, c1, c2, c3, c4, c5, c6, c7], _ =>
    match xs, hlen with
    | [y0, y1, y2, y3, y4, y5, y6, y7], _ =>
      have g0 : DataW.trod enc Tryz.prog W 0 (fun _ => true) true n 3 [c0] = some y0 := by
        have := yAg hff 0 _ rfl k1 rfl
        exact this
      have g1 : DataW.trod enc Tryz.prog W 0 (fun _ => true) true n 3 [c1] = some y1 := by
        have := yAg hff 1 _ rfl k1 rfl
        exact this
      have g2 : DataW.trod enc Tryz.prog W 0 (fun _ => true) true n 3 [c2] = some y2 := by
        have := yAg hff 2 _ rfl k1 rfl
        exact this
      have g3 : DataW.trod enc Tryz.prog W 0 (fun _ => true) true n 3 [c3] = some y3 := by
        have := yAg hff 3 _ rfl k1 rfl
        exact this
      have g4 : DataW.trod enc Tryz.prog W 0 (fun _ => true) true n 3 [c4] = some y4 := by
        have := yAg hff 4 _ rfl k1 rfl
        exact this
      have g5 : DataW.trod enc Tryz.prog W 0 (fun _ => true) true n 3 [c5] = some y5 := by
        have := yAg hff 5 _ rfl k1 rfl
        exact this
      have g6 : DataW.trod enc Tryz.prog W 0 (fun _ => true) true n 3 [c6] = some y6 := by
        have := yAg hff 6 _ rfl k1 rfl
        exact this
      have g7 : DataW.trod enc Tryz.prog W 0 (fun _ => true) true n 3 [c7] = some y7 := by
        have := yAg hff 7 _ rfl k1 rfl
        exact this
      clear hff
      obtain ⟨m0, rfl, w0⟩ := yAc Tryz.underlying3 g0
      obtain ⟨m1, rfl, w1⟩ := yAc Tryz.underlying3 g1
      obtain ⟨m2, rfl, w2⟩ := yAc Tryz.underlying3 g2
      obtain ⟨m3, rfl, w3⟩ := yAc Tryz.underlying3 g3
      obtain ⟨m4, rfl, w4⟩ := yAc Tryz.underlying3 g4
      obtain ⟨m5, rfl, w5⟩ := yAc Tryz.underlying3 g5
      obtain ⟨m6, rfl, w6⟩ := yAc Tryz.underlying3 g6
      obtain ⟨m7, rfl, w7⟩ := yAc Tryz.underlying3 g7
      exact ⟨⟨m0, m1, m2, m3, m4, m5, m6, m7⟩, rfl, ⟨w0, w1, w2, w3, w4, w5, w6, w7⟩⟩
end
end

section
open Go.RowKit Go.Extern.Stop Go.Stop Go.Extern
theorem yAd {w : World} (b u t : Int) (ib : I64 b) (iu : I64 u) (it : I64 t) : Calls Tryz.prog 33 #[.int .i64 b, .int .i64 u, .int .i64 t] w fun e w' => e = .returned (.int .i64 (caN b u t)) ∧ w = w' := by
  have HZ : Hid (CaOk b u t → caN b u t = 0) := lhd fun h => caN_zero.2 h
  have HO : Hid (¬ CaOk b u t → caN b u t = 1) := lhd zMq
  by_cases c0 : b < 2
  · have d0 : decide (b < 2) = true := decide_eq_true c0
    have HN := lhd (HO.out (by rintro ⟨h1, h2, h3, h4, h5, h6⟩; omega))
    clear c0
    go_enter Tryz.func33, Tryz.ntmps33
    go_wp2
    go_ret
    exact ⟨by rw [HN.out]; rfl, rfl⟩
  · have d0 : decide (b < 2) = false := decide_eq_false c0
    by_cases c1 : 4096 < b
    · have d1 : decide (4096 < b) = true := decide_eq_true c1
      have HN := lhd (HO.out (by rintro ⟨h1, h2, h3, h4, h5, h6⟩; omega))
      clear c0 c1
      go_enter Tryz.func33, Tryz.ntmps33
      go_wp2
      go_ret
      exact ⟨by rw [HN.out]; rfl, rfl⟩
    · have d1 : decide (4096 < b) = false := decide_eq_false c1
      by_cases c2 : u < 1
      · have d2 : decide (u < 1) = true := decide_eq_true c2
        have HN := lhd (HO.out (by rintro ⟨h1, h2, h3, h4, h5, h6⟩; omega))
        clear c0 c1 c2
        go_enter Tryz.func33, Tryz.ntmps33
        go_wp2
        go_ret
        exact ⟨by rw [HN.out]; rfl, rfl⟩
      · have d2 : decide (u < 1) = false := decide_eq_false c2
        by_cases c3 : b ≤ u
        · have d3 : decide (b ≤ u) = true := decide_eq_true c3
          have HN := lhd (HO.out (by rintro ⟨h1, h2, h3, h4, h5, h6⟩; omega))
          clear c0 c1 c2 c3
          go_enter Tryz.func33, Tryz.ntmps33
          go_wp2
          go_ret
          exact ⟨by rw [HN.out]; rfl, rfl⟩
        · have d3 : decide (b ≤ u) = false := decide_eq_false c3
          by_cases c4 : t < 0
          · have d4 : decide (t < 0) = true := decide_eq_true c4
            have HN := lhd (HO.out (by rintro ⟨h1, h2, h3, h4, h5, h6⟩; omega))
            clear c0 c1 c2 c3 c4
            go_enter Tryz.func33, Tryz.ntmps33
            go_wp2
            go_ret
            exact ⟨by rw [HN.out]; rfl, rfl⟩
          · have d4 : decide (t < 0) = false := decide_eq_false c4
            by_cases c5 : 1099511627776 ≤ t
            · have d5 : decide (1099511627776 ≤ t) = true := decide_eq_true c5
              have HN := lhd (HO.out (by rintro ⟨h1, h2, h3, h4, h5, h6⟩; omega))
              clear c0 c1 c2 c3 c4 c5
              go_enter Tryz.func33, Tryz.ntmps33
              go_wp2
              go_ret
              exact ⟨by rw [HN.out]; rfl, rfl⟩
            · have d5 : decide (1099511627776 ≤ t) = false := decide_eq_false c5
              have HN := lhd (HZ.out ⟨by omega, by omega, by omega, by omega, by omega, by omega⟩)
              clear c0 c1 c2 c3 c4 c5
              go_enter Tryz.func33, Tryz.ntmps33
              go_wp2
              go_ret
              exact ⟨by rw [HN.out]; rfl, rfl⟩
end

section
open Go.RowKit Go.Extern.Stop Go.Stop Go.Extern
theorem yAr {w : World} {s b n l q : Nat} (h : PlanOk s b n l q) (i : Nat) : Calls Tryz.prog 35 #[.agg #[.int .i64 (s : Int), .int .i64 (b : Int), .int .i64 (n : Int), .int .i64 (l : Int), .int .i64 (q : Int)], .int .i64 (i : Int)] w fun e w' => e = .returned (.int .i64 ((cntP l q i : Nat) : Int)) ∧ Below w.heap.size w w' := by
  refine (yAk (s : Int) (b : Int) (n : Int) (l : Int) (q : Int) (i : Int) (by omega) (by have := h.q128; omega)).mono ?_
  rintro e w' ⟨rfl, hb⟩
  rw [zGN]
  exact ⟨rfl, hb⟩
end
end Go.Proofs.YtkfimdpcadbcpaaGreatDoor
