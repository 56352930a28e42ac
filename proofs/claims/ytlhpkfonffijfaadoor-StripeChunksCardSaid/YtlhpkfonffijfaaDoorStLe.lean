/- Package stripe: Esis. -/
import Derived.Test.YtlhpkfonffijfaaDoorStLd
namespace Go.Proofs.YtlhpkfonffijfaaDoor
open Go.RowKit Go.Extern.Stop Go.Stop Go.Extern

set_option linter.unusedSimpArgs false in
set_option linter.unusedVariables false in
set_option maxRecDepth 1000000 in
set_option maxHeartbeats 4000000 in
theorem stEsis_no {w : World} (g n l : Int) (s : Nat) (hg : I64 g) (hn : I64 n) (hl : I64 l) (hs : s < 4294967296) (hm : mayB g l = false) : Calls Tryd.prog 19 #[.int .i64 g, .int .i64 n, .int .i64 l, .int .u32 (s : Int)] w fun e w' => Below w.heap.size w w' ∧ ∃ E, e = .returned (.tuple #[nilS, E]) ∧ ErrAns 1 nameStEsis w' E := by
  have HC := Lib.hid (stChunks_no (w := w) g l s hg hl hs hm)
  go_enter Tryd.func19, Tryd.ntmps19
  go_wp2_with fail
  with_reducible refine HC.out.mono ?_
  rintro e w1 ⟨hb, E, rfl, hE⟩
  have HB1 := Lib.hid hb
  have HE := Lib.hid hE
  obtain ⟨u, x, rfl⟩ := hE.some (by decide)
  clear hb hE
  go_wp2_with fail
  refine (Wrap_ans nameStEsis nameStChunks 1 _ _ (by decide) HE.out).mono ?_
  rintro e w2 ⟨E', rfl, hE, hb⟩
  have HE2 := Lib.hid hE
  have HB := Lib.hid (HB1.out.trans (hb.mono HB1.out.size))
  clear hE hb
  go_wp2
  go_ret2
  exact ⟨HB.out, E', rfl, HE2.out⟩

set_option linter.unusedSimpArgs false in
set_option linter.unusedVariables false in
set_option maxRecDepth 1000000 in
set_option maxHeartbeats 4000000 in
theorem stEsis_out {w : World} (g l s : Nat) (n : Int) (hg : g ≤ 8) (hl : l ≤ 8) (hn : I64 n) (F : List Nat) (hno : n < 1 ∨ n > 65536)
    (hc : ∀ V : World, Calls Tryd.prog 12 #[.int .i64 (g : Int), .int .i64 (l : Int), .int .u32 (s : Int)] V fun e w' => Below V.heap.size V w' ∧ ∃ v', e = .returned (.tuple #[v', .nilIface]) ∧ w'.ownsRow V.heap.size 3 1 v' F.length (F.map cutV)) :
    Calls Tryd.prog 19 #[.int .i64 (g : Int), .int .i64 n, .int .i64 (l : Int), .int .u32 (s : Int)] w fun e w' => Below w.heap.size w w' ∧ ∃ E, e = .returned (.tuple #[nilS, E]) ∧ ErrAns 1 nameStEsis w' E := by
  have HC := Lib.hid hc
  clear hc
  by_cases h1 : n < 1
  · clear hno
    go_enter Tryd.func19, Tryd.ntmps19
    go_wp2_with fail
    with_reducible refine (HC.out w).mono ?_
    rintro e w1 ⟨hb1, v1, rfl, ho1⟩
    have HB1 := Lib.hid hb1
    have HO1 := Lib.hid ho1
    obtain ⟨a1, c1, hv1, -, hg1⟩ := own_open ho1
    subst hv1
    have HG1 := Lib.hid hg1
    clear ho1 hb1 hg1
    go_wp2_with fail
    refine (New_both nameStEsis 1 _).mono ?_
    rintro e w2 ⟨E, rfl, hE, hb⟩
    have HE := Lib.hid hE
    have HB := Lib.hid (HB1.out.trans (hb.mono HB1.out.size))
    clear hE hb
    go_wp2
    go_ret2
    exact ⟨HB.out, E, rfl, HE.out⟩
  · have h2 : n > 65536 := by omega
    clear hno
    go_enter Tryd.func19, Tryd.ntmps19
    go_wp2_with fail
    with_reducible refine (HC.out w).mono ?_
    rintro e w1 ⟨hb1, v1, rfl, ho1⟩
    have HB1 := Lib.hid hb1
    have HO1 := Lib.hid ho1
    obtain ⟨a1, c1, hv1, -, hg1⟩ := own_open ho1
    subst hv1
    have HG1 := Lib.hid hg1
    clear ho1 hb1 hg1
    go_wp2_with fail
    refine (New_both nameStEsis 1 _).mono ?_
    rintro e w2 ⟨E, rfl, hE, hb⟩
    have HE := Lib.hid hE
    have HB := Lib.hid (HB1.out.trans (hb.mono HB1.out.size))
    clear hE hb
    go_wp2
    go_ret2
    exact ⟨HB.out, E, rfl, HE.out⟩

set_option linter.unusedSimpArgs false in
set_option linter.unusedVariables false in
set_option maxRecDepth 1000000 in
set_option maxHeartbeats 4000000 in
theorem stEsis_form {w : World} (g l s n k P y : Nat) (F : List Nat) (hk : (g : Int) - 1 = (k : Int)) (hg : g ≤ 8) (hl : l ≤ 8) (hPk : 2 ^ k = P) (hn1 : 1 ≤ n) (hn : n ≤ 65536) (hy : n % P = y) (hy0 : y ≠ 0)
    (hc : ∀ V : World, Calls Tryd.prog 12 #[.int .i64 (g : Int), .int .i64 (l : Int), .int .u32 (s : Int)] V fun e w' => Below V.heap.size V w' ∧ ∃ v', e = .returned (.tuple #[v', .nilIface]) ∧ w'.ownsRow V.heap.size 3 1 v' F.length (F.map cutV)) :
    Calls Tryd.prog 19 #[.int .i64 (g : Int), .int .i64 (n : Int), .int .i64 (l : Int), .int .u32 (s : Int)] w fun e w' => Below w.heap.size w w' ∧ ∃ E, e = .returned (.tuple #[nilS, E]) ∧ ErrAns 2 nameStEsis w' E := by
  have HC := Lib.hid hc
  clear hc
  have hK1 : (g : Int) - 1 = (k : Int) := hk
  have hL2 : (2 : Int) ^ k = (P : Int) := by rw [← hPk]; push_cast; rfl
  have hP : 0 < P := by rw [← hPk]; exact Nat.two_pow_pos k
  have hP2 : P ≤ 128 := by rw [← hPk]; exact Nat.le_trans (st_pow_le (n := 7) (by omega)) (by decide)
  have hPn : ((P : Int) == 0) = false := by simp; omega
  have hPe : ¬ (P : Int) = 0 := by omega
  have hPz : ¬ P = 0 := by omega
  have hmod : (n : Int).tmod (P : Int) = (y : Int) := by rw [← hy]; exact Int.ofNat_tmod ..
  have hyn : ((y : Int) == 0) = false := by simp; omega
  have hye : ¬ (y : Int) = 0 := by omega
  clear hPk hy
  go_enter Tryd.func19, Tryd.ntmps19
  go_wp2_with fail
  with_reducible refine (HC.out w).mono ?_
  rintro e w1 ⟨hb1, v1, rfl, ho1⟩
  have HB1 := Lib.hid hb1
  have HO1 := Lib.hid ho1
  obtain ⟨a1, c1, hv1, -, hg1⟩ := own_open ho1
  subst hv1
  have HG1 := Lib.hid hg1
  clear ho1 hb1 hg1
  go_wp2_with fail
  refine (New_both nameStEsis 2 _).mono ?_
  rintro e w2 ⟨E, rfl, hE, hb⟩
  have HE := Lib.hid hE
  have HB := Lib.hid (HB1.out.trans (hb.mono HB1.out.size))
  clear hE hb
  go_wp2
  go_ret2
  exact ⟨HB.out, E, rfl, HE.out⟩

set_option linter.unusedSimpArgs false in
set_option linter.unusedVariables false in
set_option maxRecDepth 1000000 in
set_option maxHeartbeats 4000000 in
theorem stEsis_ok {w : World} (g l s n k P z : Nat) (F : List Nat) (hk : (g : Int) - 1 = (k : Int)) (hg : g ≤ 8) (hl : l ≤ 8) (hPk : 2 ^ k = P) (hn1 : 1 ≤ n) (hn : n ≤ 65536) (hy : n % P = 0) (hz : n / P = z) (hF : F.length ≤ 128) (hFb : ∀ c ∈ F, c < 128)
    (hc : ∀ V : World, Calls Tryd.prog 12 #[.int .i64 (g : Int), .int .i64 (l : Int), .int .u32 (s : Int)] V fun e w' => Below V.heap.size V w' ∧ ∃ v', e = .returned (.tuple #[v', .nilIface]) ∧ w'.ownsRow V.heap.size 3 1 v' F.length (F.map cutV)) :
    Calls Tryd.prog 19 #[.int .i64 (g : Int), .int .i64 (n : Int), .int .i64 (l : Int), .int .u32 (s : Int)] w fun e w' => Below w.heap.size w w' ∧ ∃ v', e = .returned (.tuple #[v', .nilIface]) ∧ w'.ownsRow w.heap.size 3 1 v' (stEsiTo z F).length ((stEsiTo z F).map cutV) := by
  obtain ⟨i0, hi, hz0, hz1, hz2⟩ := info_parts info_int
  have HC := Lib.hid hc
  clear hc
  have hK1 : (g : Int) - 1 = (k : Int) := hk
  have hL2 : (2 : Int) ^ k = (P : Int) := by rw [← hPk]; push_cast; rfl
  have hP : 0 < P := by rw [← hPk]; exact Nat.two_pow_pos k
  have hP2 : P ≤ 128 := by rw [← hPk]; exact Nat.le_trans (st_pow_le (n := 7) (by omega)) (by decide)
  have hPn : ((P : Int) == 0) = false := by simp; omega
  have hPe : ¬ (P : Int) = 0 := by omega
  have hPz : ¬ P = 0 := by omega
  have hmod : (n : Int).tmod (P : Int) = 0 := by have := Int.ofNat_tmod n P; rw [hy] at this; exact this.symm
  have hdiv : (n : Int).tdiv (P : Int) = (z : Int) := by rw [← hz]; exact Int.ofNat_tdiv ..
  have hzb : z ≤ 65536 := by rw [← hz]; exact Nat.le_trans (Nat.div_le_self n P) hn
  obtain ⟨N, hN⟩ : ∃ N, N = F.length * z := ⟨_, rfl⟩
  have hNi : (F.length : Int) * (z : Int) = (N : Int) := by rw [hN]; push_cast; rfl
  have hNb : N ≤ 8388608 := by rw [hN]; exact Nat.le_trans (Nat.mul_le_mul hF hzb) (by decide)
  have HT0 : Hid (stEsiTo z (F.take 0) = []) := Lib.hid rfl
  have HTS : Hid (∀ j, j < F.length → stEsiTo z (F.take (j + 1)) = stEsiTo z (F.take j) ++ (List.range z).map fun k => F.getD j 0 * z + k) := Lib.hid (stEsiTo_one z F)
  have HTE : Hid (stEsiTo z (F.take F.length) = stEsiTo z F) := Lib.hid (by rw [List.take_length])
  have HTL : Hid (∀ j, j ≤ F.length → (stEsiTo z (F.take j)).length = j * z) := Lib.hid fun j hj => by rw [stEsiTo_length, List.length_take, Nat.min_eq_left hj]
  have HFB : Hid (∀ j, j < F.length → F.getD j 0 < 128) := Lib.hid fun j hj => hFb _ (by rw [List.getD_eq_getElem?_getD, List.getElem?_eq_getElem hj]; exact List.getElem_mem hj)
  have HJZ : Hid (∀ j, j ≤ 128 → j * z ≤ 8388608) := Lib.hid fun j hj => Nat.le_trans (Nat.mul_le_mul hj hzb) (by decide)
  clear hFb hz hy hPk hN
  go_enter Tryd.func19, Tryd.ntmps19
  go_wp2_with fail
  with_reducible refine (HC.out w).mono ?_
  rintro e w1 ⟨hb1, v1, rfl, ho1⟩
  have HB1 := Lib.hid hb1
  have HO1 := Lib.hid ho1
  obtain ⟨a1, c1, hv1, -, hg1⟩ := own_open ho1
  subst hv1
  have HG1 := Lib.hid hg1
  clear ho1 hb1 hg1
  go_wp2_with (at_make; refine wpList_make_own _ rfl _ _ 32 rfl w1.heap.size 3 i0 (.int .i64 0) 1 Tryd.underlying32 hi hz0 hz1 .i64 .i64 _ N rfl rfl rfl (by rw [hz2]; omega) (by unfold maxLen; omega) (Nat.le_refl _) ?_; intro w2 hown0 hgrow0; have HBE2 := Lib.hid ((Below.refl w1.heap.size w1).grown hgrow0 (Nat.le_refl _) (fun k hk => by cases hk)); have HOS := Lib.hid hown0; clear hown0 hgrow0)
  go_loopw [14, 54] (fun v i wr => ∃ j : Nat, j ≤ F.length ∧ i = .int .i64 (j : Int) ∧ wr.ownsRow w1.heap.size 3 1 v (stEsiTo z (F.take j)).length ((stEsiTo z (F.take j)).map cutV) ∧ Below w1.heap.size w1 wr) (fun _ i _ => F.length - (intOf i).toNat)
  case atStart => exact ⟨0, Nat.zero_le _, rfl, by rw [HT0.out]; exact HOS.out, HBE2.out⟩
  case round =>
    obtain ⟨j, hj, rfl, hown, hbel⟩ := hrel
    have HB := Lib.hid hbel
    have HOW := Lib.hid hown
    by_cases hlt : j < F.length
    · have d1 : decide ((j : Int) < (F.length : Int)) = true := decide_eq_true (by omega)
      obtain ⟨g1, rfl⟩ := HG1.out (by omega)
      have HX1 : Hid (∀ V, Below w1.heap.size w1 V → V.cell? ⟨g1, j, none⟩ = some (.int .i64 ((F.getD j 0 : Nat) : Int))) := Lib.hid fun V hV => by
        have h := (owns_kept HO1.out hV).cellAt j (by omega)
        rw [h]
        simp [cutV, List.getD_eq_getElem?_getD, hlt]
      have hst := HTS.out j hlt
      have hql := HTL.out j hj
      have hqb := HJZ.out j (by omega)
      have hxb := HFB.out j hlt
      have hyb := HJZ.out (F.getD j 0) (by omega)
      clear hown hbel
      generalize F.getD j 0 = x at *
      generalize hE : stEsiTo z (F.take j) = E0 at *
      rw [hql] at HOW
      obtain ⟨q, hq⟩ : ∃ q, q = j * z := ⟨_, rfl⟩
      rw [← hq] at HOW hqb hql
      obtain ⟨y, hy⟩ : ∃ y, y = x * z := ⟨_, rfl⟩
      rw [← hy] at hyb
      simp only [← hy] at hst
      have hxz : (x : Int) * (z : Int) = (y : Int) := by rw [hy]; push_cast; rfl
      have HST := Lib.hid hst
      have HQL := Lib.hid hql
      clear hq hy hst hql hE
      have hx0 := HX1.out wr HB.out
      obtain ⟨wo, hwo⟩ : ∃ wo, wo = wr := ⟨_, rfl⟩
      subst hwo
      go_wp2_with fail
      go_loopw [14, 59] (fun v i wr' => ∃ t : Nat, t ≤ z ∧ i = .int .i64 (t : Int) ∧ wr'.ownsRow w1.heap.size 3 1 v (q + t) ((E0 ++ (List.range t).map fun k => y + k).map cutV) ∧ Below w1.heap.size w1 wr') (fun _ i _ => z - (intOf i).toNat)
      case atStart => exact ⟨0, Nat.zero_le _, rfl, by simpa using HOW.out, HB.out⟩
      case round =>
        obtain ⟨t, ht, rfl, hown, hbel⟩ := hrel
        have HB2 := Lib.hid hbel
        have HOW2 := Lib.hid hown
        clear hown hbel
        by_cases htl : t < z
        · have d2 : decide ((t : Int) < (z : Int)) = true := decide_eq_true (by omega)
          have hyw : IntKind.i64.wrap (y : Int) = (y : Int) := IntWalk.i64_in _ (by omega)
          have hyt : IntKind.i64.wrap ((y : Int) + (t : Int)) = (y : Int) + (t : Int) := IntWalk.i64_in _ (by omega)
          have HO4 := Lib.hid (HOW2.out.alloc (.cells #[.int .i64 ((y : Int) + (t : Int))] 3))
          have HSZ := Lib.hid HB2.out.size
          have HSN : Hid ((E0 ++ (List.range (t + 1)).map fun k => y + k).map cutV = (E0 ++ (List.range t).map fun k => y + k).map cutV ++ [.int .i64 ((y : Int) + (t : Int))]) := Lib.hid (by
            rw [List.range_succ]
            simp [cutV])
          go_wp2_with (at_builtin; refine wpList_append_own _ rfl (.tmp 62) (.tmp 68) 32 rfl w1.heap.size 3 i0 (.int .i64 0) 1 8 Tryd.underlying32 hi hz0 hz1 hz2 rfl (by decide) u14 (q + t) ((E0 ++ (List.range t).map fun k => y + k).map cutV) rfl HO4.out ⟨wr.heap.size, 0, none⟩ 1 1 [.int .i64 ((y : Int) + (t : Int))] rfl rfl (cell_one_new _ _ _) (fun x hx => by simp at hx; subst hx; rfl) (by unfold maxLen; omega) (by omega) (by have := HSZ.out; simp; omega) ?_; intro v5 w5 hown1 hgrow1 _; have HB5 := Lib.hid ((HB2.out.alloc HSZ.out _).grown hgrow1 (by have := HSZ.out; simp; omega) (fun k hk => (HO4.out.lt k hk).1)); have HO5 := Lib.hid hown1; clear hown1 hgrow1)
          go_roundw
          case rel => exact ⟨t + 1, by omega, by go_num, by rw [HSN.out]; exact HO5.out, HB5.out⟩
          case measure => simp [intOf]; omega
        · obtain rfl : t = z := by omega
          have d2 : decide ((t : Int) < (t : Int)) = false := decide_eq_false (by omega)
          have HLN : Hid ((stEsiTo t (F.take (j + 1))).length = q + t) := Lib.hid (by rw [HST.out, List.length_append, HQL.out, List.length_map, List.length_range])
          go_wp2_with fail
          go_roundw
          case rel => exact ⟨j + 1, by omega, by go_num, by rw [HLN.out, HST.out]; exact HOW2.out, HB2.out⟩
          case measure => simp [intOf]; omega
    · obtain rfl : j = F.length := by omega
      have d1 : decide ((F.length : Int) < (F.length : Int)) = false := decide_eq_false (by omega)
      rw [HTE.out] at HOW
      clear hown hbel
      go_wp2
      go_ret2
      exact ⟨HB1.out.trans (HB.out.mono HB1.out.size), _, rfl, ownsRow_base HOW.out HB1.out.size⟩

theorem stEsisC : StEsisC := fun w g n l s hg hn hl hs => by
  cases hm : mayB g l with
  | false =>
    have hE : stEsiN g n l = 1 := by unfold stEsiN; rw [if_neg (by rw [hm]; simp)]
    rw [hE]
    refine (stEsis_no g n l s hg hn hl hs hm).mono ?_
    rintro e w' ⟨h1, h2⟩
    exact ⟨h1, .inl ⟨by decide, h2⟩⟩
  | true =>
    obtain ⟨p1, p2, p3, p4⟩ := mayB_ok hm
    obtain ⟨k, rfl⟩ := Int.eq_ofNat_of_zero_le p3
    obtain ⟨G, rfl⟩ := Int.eq_ofNat_of_zero_le (show 0 ≤ g by omega)
    obtain ⟨m, hmd⟩ : ∃ m, G = m + k + 1 := ⟨G - k - 1, by omega⟩
    have e1 : ((G : Int) - 1 - (k : Int)).toNat = m := by omega
    have e2 : ((k : Int)).toNat = k := by omega
    have e3 : ((G : Int) - 1).toNat = m + k := by omega
    have hc : ∀ V : World, Calls Tryd.prog 12 #[.int .i64 (G : Int), .int .i64 (k : Int), .int .u32 (s : Int)] V fun e w' => Below V.heap.size V w' ∧ ∃ v', e = .returned (.tuple #[v', .nilIface]) ∧ w'.ownsRow V.heap.size 3 1 v' (layL m s k).length ((layL m s k).map cutV) := fun V => by
      refine (stChunksC V G k s hg hl hs).mono ?_
      rintro e w' ⟨h1, ⟨h2, -⟩ | ⟨-, h2⟩⟩
      · rw [hm] at h2; cases h2
      · rw [e1, e2] at h2
        exact ⟨h1, h2⟩
    by_cases hr : 1 ≤ n ∧ n ≤ 65536
    · obtain ⟨x, rfl⟩ := Int.eq_ofNat_of_zero_le (show 0 ≤ n by omega)
      have hE : stEsiN (G : Int) (x : Int) (k : Int) = if x % 2 ^ (m + k) = 0 then 0 else 2 := by
        unfold stEsiN
        rw [if_pos ⟨hm, hr.1, hr.2⟩, e3]
        rfl
      rw [hE, e1, e2, e3, show ((x : Int)).toNat = x by omega]
      by_cases hy : x % 2 ^ (m + k) = 0
      · rw [if_pos hy]
        refine (stEsis_ok (w := w) G k s x (m + k) (2 ^ (m + k)) (x / 2 ^ (m + k)) (layL m s k) (by omega) (by omega) (by omega) rfl (by omega) (by omega) hy rfl (by rw [layL_length]; have := rateN_le (l := k) (by omega); omega) (fun c hc => by have h1 := layL_lt m s k c hc; have h2 : 2 ^ (m + k) ≤ 2 ^ 7 := st_pow_le (by omega); omega) hc).mono ?_
        rintro e w' ⟨h1, h2⟩
        exact ⟨h1, .inr ⟨rfl, h2⟩⟩
      · rw [if_neg hy]
        refine (stEsis_form (w := w) G k s x (m + k) (2 ^ (m + k)) _ (layL m s k) (by omega) (by omega) (by omega) rfl (by omega) (by omega) rfl hy hc).mono ?_
        rintro e w' ⟨h1, h2⟩
        exact ⟨h1, .inl ⟨by decide, h2⟩⟩
    · have hE : stEsiN (G : Int) n (k : Int) = 1 := by unfold stEsiN; rw [if_neg (fun h => hr h.2)]
      rw [hE]
      refine (stEsis_out (w := w) G k s n (by omega) (by omega) hn (layL m s k) (by omega) hc).mono ?_
      rintro e w' ⟨h1, h2⟩
      exact ⟨h1, .inl ⟨by decide, h2⟩⟩
end Go.Proofs.YtlhpkfonffijfaaDoor
