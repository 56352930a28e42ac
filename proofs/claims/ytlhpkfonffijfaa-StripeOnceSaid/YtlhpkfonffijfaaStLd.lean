/- Package stripe: Chunks. -/
import Derived.Test.YtlhpkfonffijfaaStLc
namespace Go.Proofs.Ytlhpkfonffijfaa
open Go.RowKit Go.Extern.Stop Go.Stop Go.Extern

theorem st_box {w : World} {B : Nat} {v : Value} (h : w.ownsRow B 3 1 v 0 []) (hB : B ≤ w.heap.size) : RowBox (w.alloc (.cells #[v] 25)) B w.heap.size [] :=
  ⟨⟨v, heap_alloc_new _ _, owns_kept h ((Below.refl _ _).alloc (Nat.le_refl _) _)⟩, hB⟩

set_option linter.unusedSimpArgs false in
set_option linter.unusedVariables false in
set_option maxRecDepth 1000000 in
set_option maxHeartbeats 4000000 in
theorem stChunks_no {w : World} (g l : Int) (s : Nat) (hg : I64 g) (hl : I64 l) (hs : s < 4294967296) (hm : mayB g l = false) : Calls Try.prog 9 #[.int .i64 g, .int .i64 l, .int .u32 (s : Int)] w fun e w' => Below w.heap.size w w' ∧ ∃ E, e = .returned (.tuple #[nilS, E]) ∧ ErrAns 1 nameStChunks w' E := by
  have HR : Hid (∀ V : World, Calls Try.prog 10 #[.int .i64 g, .int .i64 l] V fun e w' => e = .returned (.int .i64 (if mayB g l then ((rateN l.toNat : Nat) : Int) else 0)) ∧ V = w') := Lib.hid fun V => stRate_same g l hg hl
  rw [hm] at HR
  have HN := Lib.hid (New_both nameStChunks 1 w)
  go_enter Try.func9, Try.ntmps9
  go_wp2_with fail
  with_reducible refine (HR.out w).mono ?_
  rintro e w1 ⟨rfl, rfl⟩
  go_wp2_with fail
  refine HN.out.mono ?_
  rintro e w1 ⟨E, rfl, hE, hb⟩
  have HE := Lib.hid hE
  have HB := Lib.hid hb
  clear hE hb
  go_wp2
  go_ret2
  exact ⟨HB.out, E, rfl, HE.out⟩

set_option linter.unusedSimpArgs false in
set_option linter.unusedVariables false in
set_option maxRecDepth 1000000 in
set_option maxHeartbeats 4000000 in
theorem stChunks_zero {w : World} (g m s : Nat) (hg : g = m + 0 + 1) (h8 : g ≤ 8) (hs : s < 4294967296) : Calls Try.prog 9 #[.int .i64 (g : Int), .int .i64 0, .int .u32 (s : Int)] w fun e w' => Below w.heap.size w w' ∧ ∃ v', e = .returned (.tuple #[v', .nilIface]) ∧ w'.ownsRow w.heap.size 3 1 v' (layL m s 0).length ((layL m s 0).map cutV) := by
  obtain ⟨i0, hi, hz0, hz1, hz2⟩ := info_parts info_int
  have HR : Hid (∀ V : World, Calls Try.prog 10 #[.int .i64 (g : Int), .int .i64 0] V fun e w' => e = .returned (.int .i64 1) ∧ V = w') := Lib.hid fun V => by
    have h := stRate_same (w := V) (g : Int) 0 ⟨by omega, by omega⟩ ⟨by omega, by omega⟩
    rw [show mayB (g : Int) 0 = true from decide_eq_true ⟨by omega, by omega, by omega, by omega⟩] at h
    exact h
  have HS : Hid (∀ V : World, Calls Try.prog 17 #[.int .i64 (g : Int), .int .i64 0, .int .u32 (s : Int)] V fun e w' => e = .returned (.tuple #[.int .i64 ((levF m s * 2 ^ 0 : Nat) : Int), .int .i64 1]) ∧ V = w') := Lib.hid fun V => stSpan_any g m 0 s hg (by omega) hs
  have HL : Hid (layL m s 0 = [] ++ List.range' (levF m s * 2 ^ 0) (levF m s * 2 ^ 0 + 1 - levF m s * 2 ^ 0)) := Lib.hid (by
    rw [Nat.add_sub_cancel_left]
    rfl)
  have hFb : levF m s * 2 ^ 0 ≤ 128 := by
    have h1 := levF_lt m s
    have h2 : 2 ^ m ≤ 2 ^ 7 := st_pow_le (by omega)
    omega
  generalize levF m s * 2 ^ 0 = F at *
  clear hg
  go_enter Try.func9, Try.ntmps9
  go_wp2_with fail
  with_reducible refine (HR.out w).mono ?_
  rintro e w1 ⟨rfl, rfl⟩
  go_wp2_with (at_make; refine wpList_make_own _ rfl _ _ 25 rfl w.heap.size 3 i0 (.int .i64 0) 1 Try.underlying25 hi hz0 hz1 .i64 .i64 _ 1 rfl rfl rfl (by rw [hz2]; omega) (by unfold maxLen; omega) (Nat.le_refl _) ?_; intro w0 hown0 hgrow0; have hb0 := Lib.hid ((Below.refl w.heap.size w).grown hgrow0 (Nat.le_refl _) (fun k hk => by cases hk)); have ho0 := Lib.hid hown0; clear hown0 hgrow0)
  have HRB := Lib.hid (st_box (v := .slice (some ⟨w.heap.size, 0, none⟩) 0 1) ho0.out hb0.out.size)
  have HB1 := Lib.hid (hb0.out.alloc hb0.out.size (.cells #[.slice (some ⟨w.heap.size, 0, none⟩) 0 1] 25))
  clear ho0 hb0
  with_reducible refine (HS.out _).mono ?_
  rintro e w1 ⟨rfl, rfl⟩
  have HG : Hid (∀ V : World, RowBox V w.heap.size w0.heap.size [] → Below w.heap.size w V → Calls Try.prog 16 #[.int .i64 (F : Int), .int .i64 ((F : Int) + 1), .pointer (some ⟨w0.heap.size, 0, none⟩)] V fun e w' => (∃ v, e = .returned v) ∧ RowBox w' w.heap.size w0.heap.size ([] ++ List.range' F (F + 1 - F)) ∧ Below w.heap.size V w') :=
    Lib.hid fun V h1 h2 => by
      have h := stGather_any w0.heap.size w.heap.size F (F + 1) [] h1 h2.size (by decide) (by omega) (by omega)
      rwa [show ((F + 1 : Nat) : Int) = (F : Int) + 1 by push_cast; rfl] at h
  go_wp2_with fail
  with_reducible refine (HG.out _ HRB.out HB1.out).mono ?_
  rintro e w2 ⟨⟨v2, rfl⟩, hr2, hb2⟩
  have HB2 := Lib.hid (HB1.out.trans hb2)
  obtain ⟨v3, hbox, how⟩ := hr2.ex
  rw [← HL.out] at how
  have HO := Lib.hid how
  have hc := cell_of_heap (j := 0) (u := v3) hbox rfl
  obtain ⟨a3, c3, hv3, -, -⟩ := own_open how
  clear hr2 hb2 hbox how
  subst hv3
  go_wp2
  go_ret2
  exact ⟨HB2.out, _, rfl, HO.out⟩

set_option linter.unusedSimpArgs false in
set_option linter.unusedVariables false in
set_option maxRecDepth 1000000 in
set_option maxHeartbeats 4000000 in
theorem stChunks_more {w : World} (g m l s : Nat) (hg : g = m + (l + 1) + 1) (h8 : g ≤ 8) (hs : s < 4294967296) : Calls Try.prog 9 #[.int .i64 (g : Int), .int .i64 ((l + 1 : Nat) : Int), .int .u32 (s : Int)] w fun e w' => Below w.heap.size w w' ∧ ∃ v', e = .returned (.tuple #[v', .nilIface]) ∧ w'.ownsRow w.heap.size 3 1 v' (layL m s (l + 1)).length ((layL m s (l + 1)).map cutV) := by
  obtain ⟨i0, hi, hz0, hz1, hz2⟩ := info_parts info_int
  have HR : Hid (∀ V : World, Calls Try.prog 10 #[.int .i64 (g : Int), .int .i64 ((l + 1 : Nat) : Int)] V fun e w' => e = .returned (.int .i64 ((2 ^ l : Nat) : Int)) ∧ V = w') := Lib.hid fun V => by
    have h := stRate_same (w := V) (g : Int) ((l + 1 : Nat) : Int) ⟨by omega, by omega⟩ ⟨by omega, by omega⟩
    rw [show mayB (g : Int) ((l + 1 : Nat) : Int) = true from decide_eq_true ⟨by omega, by omega, by omega, by omega⟩] at h
    exact h
  have HS : Hid (∀ V : World, Calls Try.prog 17 #[.int .i64 (g : Int), .int .i64 ((l + 1 : Nat) : Int), .int .u32 (s : Int)] V fun e w' => e = .returned (.tuple #[.int .i64 ((levF m s * 2 ^ (l + 1) : Nat) : Int), .int .i64 ((2 ^ (l + 1) : Nat) : Int)]) ∧ V = w') := Lib.hid fun V => stSpan_any g m (l + 1) s hg (by omega) hs
  have HT : Hid (∀ V : World, Calls Try.prog 17 #[.int .i64 (g : Int), .int .i64 (l : Int), .int .u32 (s : Int)] V fun e w' => e = .returned (.tuple #[.int .i64 ((levF (m + 1) s * 2 ^ l : Nat) : Int), .int .i64 ((2 ^ l : Nat) : Int)]) ∧ V = w') := Lib.hid fun V => stSpan_any g (m + 1) l s (by omega) (by omega) hs
  have hend := levL_end m (l + 1) s
  have hpe : 2 ^ (m + (l + 1)) ≤ 2 ^ 7 := st_pow_le (by omega)
  have hH0 : 0 < 2 ^ l := Nat.two_pow_pos l
  have hf := levF_succ m s
  have hb2 : s / 2 ^ m % 2 < 2 := Nat.mod_lt _ (by decide)
  have hA : levF m s * 2 ^ (l + 1) = 2 * (levF m s * 2 ^ l) := by rw [Nat.pow_succ, ← Nat.mul_assoc, Nat.mul_comm]
  have hM : 2 ^ (l + 1) = 2 * 2 ^ l := by rw [Nat.pow_succ, Nat.mul_comm]
  have hB : levF (m + 1) s * 2 ^ l = 2 * (levF m s * 2 ^ l) + (s / 2 ^ m % 2) * 2 ^ l := by rw [hf, Nat.add_mul, Nat.mul_assoc]
  have hlay : layL m s (l + 1) = List.range' (2 * (levF m s * 2 ^ l) + (1 - s / 2 ^ m % 2) * 2 ^ l) (2 ^ l) := by
    show List.range' ((2 * levF m s + (1 - s / 2 ^ m % 2)) * 2 ^ l) (2 ^ l) = _
    rw [Nat.add_mul, Nat.mul_assoc]
  generalize layL m s (l + 1) = L at *
  generalize levF m s * 2 ^ (l + 1) = A at *
  generalize 2 ^ (l + 1) = M at *
  generalize levF (m + 1) s * 2 ^ l = C at *
  generalize levF m s * 2 ^ l = D at *
  generalize s / 2 ^ m % 2 = b at *
  generalize 2 ^ l = H at *
  have hL : L = ([] ++ List.range' A (C - A)) ++ List.range' (C + H) (A + M - (C + H)) ∧ A ≤ C ∧ C + H ≤ A + M ∧ (C - A) ≤ 128 := by
    obtain rfl | rfl : b = 0 ∨ b = 1 := by omega
    · have e1 : C - A = 0 := by omega
      have e2 : A + M - (C + H) = H := by omega
      refine ⟨?_, by omega, by omega, by omega⟩
      rw [hlay, e1, e2, show C + H = 2 * D + (1 - 0) * H by omega]
      rfl
    · have e1 : C - A = H := by omega
      have e2 : A + M - (C + H) = 0 := by omega
      refine ⟨?_, by omega, by omega, by omega⟩
      rw [hlay, e1, e2, show A = 2 * D + (1 - 1) * H by omega]
      simp
  obtain ⟨hL1, hL2, hL3, hL4⟩ := hL
  have HL := Lib.hid hL1
  have hK1 : ((l + 1 : Nat) : Int) - 1 = (l : Int) := by omega
  have hK8 : ((l + 1 : Nat) : Int) ≤ 7 := by omega
  have hK2 : 1 ≤ ((l + 1 : Nat) : Int) := by omega
  have hA8 : A ≤ 128 := by omega
  have hC8 : C ≤ 128 := by omega
  have hH8 : H ≤ 128 := by omega
  have hM8 : M ≤ 128 := by omega
  generalize ((l + 1 : Nat) : Int) = K at *
  have hK0 : (K == 0) = false := by simp; omega
  have hKe : ¬ K = 0 := by omega
  have hH1 : ((H : Int) == 0) = false := by simp; omega
  have hHe : ¬ (H : Int) = 0 := by omega
  clear hg hlay hA hM hB hf hb2 hend hpe hL1
  go_enter Try.func9, Try.ntmps9
  go_wp2_with fail
  with_reducible refine (HR.out w).mono ?_
  rintro e w1 ⟨rfl, rfl⟩
  go_wp2_with (at_make; refine wpList_make_own _ rfl _ _ 25 rfl w.heap.size 3 i0 (.int .i64 0) 1 Try.underlying25 hi hz0 hz1 .i64 .i64 _ H rfl rfl rfl (by rw [hz2]; omega) (by unfold maxLen; omega) (Nat.le_refl _) ?_; intro w0 hown0 hgrow0; have hb0 := Lib.hid ((Below.refl w.heap.size w).grown hgrow0 (Nat.le_refl _) (fun k hk => by cases hk)); have ho0 := Lib.hid hown0; clear hown0 hgrow0)
  have HRB := Lib.hid (st_box (v := .slice (some ⟨w.heap.size, 0, none⟩) 0 H) ho0.out hb0.out.size)
  have HB1 := Lib.hid (hb0.out.alloc hb0.out.size (.cells #[.slice (some ⟨w.heap.size, 0, none⟩) 0 H] 25))
  clear ho0 hb0
  with_reducible refine (HS.out _).mono ?_
  rintro e w1 ⟨rfl, rfl⟩
  have HG : Hid (∀ V : World, RowBox V w.heap.size w0.heap.size [] → Below w.heap.size w V → Calls Try.prog 16 #[.int .i64 (A : Int), .int .i64 (C : Int), .pointer (some ⟨w0.heap.size, 0, none⟩)] V fun e w' => (∃ v, e = .returned v) ∧ RowBox w' w.heap.size w0.heap.size ([] ++ List.range' A (C - A)) ∧ Below w.heap.size V w') :=
    Lib.hid fun V h1 h2 => stGather_any w0.heap.size w.heap.size A C [] h1 h2.size (by decide) (by omega) (by omega)
  have HG2 : Hid (∀ V : World, RowBox V w.heap.size w0.heap.size ([] ++ List.range' A (C - A)) → Below w.heap.size w V → Calls Try.prog 16 #[.int .i64 ((C : Int) + (H : Int)), .int .i64 ((A : Int) + (M : Int)), .pointer (some ⟨w0.heap.size, 0, none⟩)] V fun e w' => (∃ v, e = .returned v) ∧ RowBox w' w.heap.size w0.heap.size (([] ++ List.range' A (C - A)) ++ List.range' (C + H) (A + M - (C + H))) ∧ Below w.heap.size V w') :=
    Lib.hid fun V h1 h2 => by
      have h := stGather_any w0.heap.size w.heap.size (C + H) (A + M) _ h1 h2.size (by simp; omega) (by omega) (by omega)
      rwa [show ((C + H : Nat) : Int) = (C : Int) + (H : Int) by push_cast; rfl, show ((A + M : Nat) : Int) = (A : Int) + (M : Int) by push_cast; rfl] at h
  go_wp2_with fail
  with_reducible refine (HT.out _).mono ?_
  rintro e w1 ⟨rfl, rfl⟩
  go_wp2_with fail
  with_reducible refine (HG.out _ HRB.out HB1.out).mono ?_
  rintro e w2 ⟨⟨v2, rfl⟩, hr2, hb2⟩
  have HB2 := Lib.hid (HB1.out.trans hb2)
  have HR2 := Lib.hid hr2
  clear hr2 hb2
  go_wp2_with fail
  with_reducible refine (HG2.out _ HR2.out HB2.out).mono ?_
  rintro e w3 ⟨⟨v2, rfl⟩, hr2, hb2⟩
  have HB3 := Lib.hid (HB2.out.trans hb2)
  obtain ⟨v3, hbox, how⟩ := hr2.ex
  rw [← HL.out] at how
  have HO := Lib.hid how
  have hc := cell_of_heap (j := 0) (u := v3) hbox rfl
  obtain ⟨a3, c3, hv3, -, -⟩ := own_open how
  clear hr2 hb2 hbox how
  subst hv3
  go_wp2
  go_ret2
  exact ⟨HB3.out, _, rfl, HO.out⟩

theorem stChunksC : StChunksC := fun w g l s hg hl hs => by
  cases hm : mayB g l with
  | false =>
    refine (stChunks_no g l s hg hl hs hm).mono ?_
    rintro e w' ⟨h1, h2⟩
    exact ⟨h1, .inl ⟨rfl, h2⟩⟩
  | true =>
    obtain ⟨p1, p2, p3, p4⟩ := mayB_ok hm
    obtain ⟨k, rfl⟩ := Int.eq_ofNat_of_zero_le p3
    obtain ⟨G, rfl⟩ := Int.eq_ofNat_of_zero_le (show 0 ≤ g by omega)
    obtain ⟨m, hmd⟩ : ∃ m, G = m + k + 1 := ⟨G - k - 1, by omega⟩
    rw [show ((G : Int) - 1 - (k : Int)).toNat = m by omega, show ((k : Int)).toNat = k by omega]
    cases k with
    | zero =>
      refine (stChunks_zero G m s hmd (by omega) hs).mono ?_
      rintro e w' ⟨h1, h2⟩
      exact ⟨h1, .inr ⟨rfl, h2⟩⟩
    | succ l =>
      refine (stChunks_more G m l s hmd (by omega) hs).mono ?_
      rintro e w' ⟨h1, h2⟩
      exact ⟨h1, .inr ⟨rfl, h2⟩⟩
end Go.Proofs.Ytlhpkfonffijfaa
