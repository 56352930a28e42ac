/- The document's functions of layer 17: Check, Esis. -/
import Derived.Test.YtlhpkfonffijfaaDoorStCh
namespace Go.Proofs.YtlhpkfonffijfaaDoor
open Go.RowKit Go.Extern.Stop Go.Stop Go.Extern

/-- why there are no encoding symbols -/
def stEsiN (g n l : Int) : Int := if mayB g l = true ∧ 1 ≤ n ∧ n ≤ 65536 then (if n.toNat % 2 ^ (g - 1).toNat = 0 then 0 else 2) else 1
/-- encoding symbols of some chunks -/
def stEsiTo (z : Nat) (L : List Nat) : List Nat := L.flatMap fun c => (List.range z).map fun k => c * z + k
/-- a layer's encoding symbols -/
def stEsiL (m l s z : Nat) : List Nat := stEsiTo z (layL m s l)
theorem stEsiTo_one (z : Nat) (F : List Nat) (j : Nat) (h : j < F.length) : stEsiTo z (F.take (j + 1)) = stEsiTo z (F.take j) ++ (List.range z).map fun k => F.getD j 0 * z + k := by
  unfold stEsiTo
  rw [List.take_add_one, List.getElem?_eq_getElem h, List.flatMap_append, List.getD_eq_getElem?_getD, List.getElem?_eq_getElem h]
  simp
theorem stEsiTo_length (z : Nat) : ∀ F : List Nat, (stEsiTo z F).length = F.length * z
  | [] => by simp [stEsiTo]
  | c :: F => by
    have := stEsiTo_length z F
    unfold stEsiTo at *
    rw [List.flatMap_cons, List.length_append, this, List.length_map, List.length_range, List.length_cons, Nat.succ_mul, Nat.add_comm]
theorem mayB_nat {g l : Int} (h : mayB g l = true) : ∃ g' l' m : Nat, g = g' ∧ l = l' ∧ g' = m + l' + 1 ∧ g' ≤ 8 := by
  have h := of_decide_eq_true h
  exact ⟨g.toNat, l.toNat, g.toNat - 1 - l.toNat, by omega, by omega, by omega, by omega⟩

set_option linter.unusedSimpArgs false in
set_option linter.unusedVariables false in
set_option maxRecDepth 1000000 in
set_option maxHeartbeats 4000000 in
theorem stCheck_any {w : World} (g n l : Int) (hg : I64 g) (hn : I64 n) (hl : I64 l) : Calls Tryd.prog 20 #[.int .i64 g, .int .i64 n, .int .i64 l] w fun e w' => e = .returned (.int .i64 (stEsiN g n l)) ∧ w = w' := by
  have HM : Hid (∀ V : World, Calls Tryd.prog 13 #[.int .i64 g, .int .i64 l] V fun e w' => e = .returned (.bool (mayB g l)) ∧ V = w') := Lib.hid fun V => stMay_any g l hg hl
  cases hm : mayB g l with
  | false =>
    have HE : Hid (stEsiN g n l = 1) := Lib.hid (by unfold stEsiN; rw [if_neg (by rw [hm]; simp)])
    rw [hm] at HM
    go_enter Tryd.func20, Tryd.ntmps20
    go_wp2_with fail
    refine (HM.out _).mono ?_
    rintro e w1 ⟨rfl, rfl⟩
    go_wp2
    go_ret
    exact ⟨by rw [HE.out]; rfl, rfl⟩
  | true =>
    obtain ⟨g', l', m, hge, hle, hgm, hg8⟩ := mayB_nat hm
    by_cases h1 : n < 1
    · have d1 : decide (n < 1) = true := decide_eq_true h1
      have HE : Hid (stEsiN g n l = 1) := Lib.hid (by unfold stEsiN; rw [if_neg (by omega)])
      rw [hm] at HM
      clear hge hle hgm hg8
      go_enter Tryd.func20, Tryd.ntmps20
      go_wp2_with fail
      refine (HM.out _).mono ?_
      rintro e w1 ⟨rfl, rfl⟩
      go_wp2
      go_ret
      exact ⟨by rw [HE.out]; rfl, rfl⟩
    · have d1 : decide (n < 1) = false := decide_eq_false h1
      by_cases h2 : 65536 < n
      · have d2 : decide (65536 < n) = true := decide_eq_true h2
        have HE : Hid (stEsiN g n l = 1) := Lib.hid (by unfold stEsiN; rw [if_neg (by omega)])
        rw [hm] at HM
        clear hge hle hgm hg8
        go_enter Tryd.func20, Tryd.ntmps20
        go_wp2_with fail
        refine (HM.out _).mono ?_
        rintro e w1 ⟨rfl, rfl⟩
        go_wp2
        go_ret
        exact ⟨by rw [HE.out]; rfl, rfl⟩
      · have d2 : decide (65536 < n) = false := decide_eq_false h2
        obtain ⟨k, hk⟩ : ∃ k : Nat, k = g' - 1 := ⟨_, rfl⟩
        have HP : Hid (∀ V : World, Calls Tryd.prog 8 #[.int .i64 (k : Int)] V fun e w' => e = .returned (.int .i64 ((2 ^ k : Nat) : Int)) ∧ V = w') := Lib.hid fun V => stPower_any k (by omega)
        have hgk : g - 1 = (k : Int) := by omega
        have hgb1 : 1 ≤ g := by omega
        have hgb2 : g ≤ 8 := by omega
        have hkb : k ≤ 7 := by omega
        have hgw : IntKind.i64.wrap (g - 1) = (k : Int) := by rw [IntWalk.i64_in _ (by omega), hgk]
        have hkw : IntKind.i64.wrap (k : Int) = (k : Int) := IntWalk.i64_in _ (by omega)
        obtain ⟨y, hy⟩ : ∃ y : Nat, n = (y : Int) := ⟨n.toNat, by omega⟩
        have HE : Hid (stEsiN g n l = if y % 2 ^ k = 0 then 0 else 2) := Lib.hid (by
          unfold stEsiN
          rw [if_pos ⟨hm, by omega, by omega⟩, hgk, hy]
          rfl)
        have hp : 0 < 2 ^ k := Nat.two_pow_pos k
        have hpb : 2 ^ k ≤ 2 ^ 7 := st_pow_le (by omega)
        rw [hm] at HM
        generalize 2 ^ k = P at *
        have hPn : ((P : Int) == 0) = false := by simp; omega
        have hPe : ¬ (P : Int) = 0 := by omega
        have hPz : ¬ P = 0 := by omega
        have hmod : (y : Int).tmod (P : Int) = ((y % P : Nat) : Int) := Int.ofNat_tmod ..
        subst hy
        clear hge hle hgm hg8 hk hg hl hn
        by_cases h3 : y % P = 0
        · have d3 : (((y % P : Nat) : Int) != 0) = false := by simp [h3]
          rw [if_pos h3] at HE
          clear h3
          generalize y % P = r at *
          go_enter Tryd.func20, Tryd.ntmps20
          go_wp2_with fail
          refine (HM.out _).mono ?_
          rintro e w1 ⟨rfl, rfl⟩
          go_wp2_with fail
          with_reducible refine (HP.out _).mono ?_
          rintro e w1 ⟨rfl, rfl⟩
          go_wp2
          go_ret
          exact ⟨by rw [HE.out]; rfl, rfl⟩
        · have d3 : (((y % P : Nat) : Int) != 0) = true := by simp; omega
          rw [if_neg h3] at HE
          clear h3
          generalize y % P = r at *
          go_enter Tryd.func20, Tryd.ntmps20
          go_wp2_with fail
          refine (HM.out _).mono ?_
          rintro e w1 ⟨rfl, rfl⟩
          go_wp2_with fail
          with_reducible refine (HP.out _).mono ?_
          rintro e w1 ⟨rfl, rfl⟩
          go_wp2
          go_ret
          exact ⟨by rw [HE.out]; rfl, rfl⟩

set_option linter.unusedSimpArgs false in
set_option linter.unusedVariables false in
set_option maxRecDepth 1000000 in
set_option maxHeartbeats 4000000 in
theorem stEsis_gen {w : World} (g l s n k P z : Nat) (F : List Nat) (hk : (g : Int) - 1 = (k : Int)) (hg : g ≤ 8) (hn : n ≤ 65536) (hP : 0 < P) (hP2 : P ≤ 128) (hz : n / P = z) (hF : F.length ≤ 128) (hFb : ∀ c ∈ F, c < 128)
    (hc : ∀ V : World, Calls Tryd.prog 16 #[.int .i64 (g : Int), .int .i64 (l : Int), .int .u32 (s : Int)] V fun e w' => ∃ v', e = .returned v' ∧ w'.ownsRow V.heap.size 3 1 v' F.length (F.map cutV) ∧ Below V.heap.size V w')
    (hp : ∀ V : World, Calls Tryd.prog 8 #[.int .i64 (k : Int)] V fun e w' => e = .returned (.int .i64 (P : Int)) ∧ V = w') :
    Calls Tryd.prog 21 #[.int .i64 (g : Int), .int .i64 (n : Int), .int .i64 (l : Int), .int .u32 (s : Int)] w fun e w' => ∃ v', e = .returned v' ∧ w'.ownsRow w.heap.size 3 1 v' (stEsiTo z F).length ((stEsiTo z F).map cutV) ∧ Below w.heap.size w w' := by
  obtain ⟨i0, hi, hz0, hz1, hz2⟩ := info_parts info_int
  have HC := Lib.hid hc
  have HP := Lib.hid hp
  have hzb : z ≤ 65536 := by rw [← hz]; exact Nat.le_trans (Nat.div_le_self n P) hn
  have hPn : ((P : Int) == 0) = false := by simp; omega
  have hPe : ¬ (P : Int) = 0 := by omega
  have hPz : ¬ P = 0 := by omega
  have hdiv : (n : Int).tdiv (P : Int) = (z : Int) := by rw [← hz]; exact Int.ofNat_tdiv ..
  have HT0 : Hid (stEsiTo z (F.take 0) = []) := Lib.hid rfl
  have HTS : Hid (∀ j, j < F.length → stEsiTo z (F.take (j + 1)) = stEsiTo z (F.take j) ++ (List.range z).map fun k => F.getD j 0 * z + k) := Lib.hid (stEsiTo_one z F)
  have HTE : Hid (stEsiTo z (F.take F.length) = stEsiTo z F) := Lib.hid (by rw [List.take_length])
  have HTL : Hid (∀ j, j ≤ F.length → (stEsiTo z (F.take j)).length = j * z) := Lib.hid fun j hj => by rw [stEsiTo_length, List.length_take, Nat.min_eq_left hj]
  have HFB : Hid (∀ j, j < F.length → F.getD j 0 < 128) := Lib.hid fun j hj => hFb _ (by rw [List.getD_eq_getElem?_getD, List.getElem?_eq_getElem hj]; exact List.getElem_mem hj)
  have HJZ : Hid (∀ j, j ≤ 128 → j * z ≤ 8388608) := Lib.hid fun j hj => Nat.le_trans (Nat.mul_le_mul hj hzb) (by decide)
  clear hc hp hFb hz
  go_enter Tryd.func21, Tryd.ntmps21
  go_wp2_with fail
  with_reducible refine (HC.out w).mono ?_
  rintro e w1 ⟨v1, rfl, ho1, hb1⟩
  have HB1 := Lib.hid hb1
  have HO1 := Lib.hid ho1
  obtain ⟨a1, c1, hv1, -, hg1⟩ := own_open ho1
  subst hv1
  have HG1 := Lib.hid hg1
  clear ho1 hb1 hg1
  go_wp2_with fail
  with_reducible refine (HP.out w1).mono ?_
  rintro e w2 ⟨rfl, rfl⟩
  have HBE2 := Lib.hid ((Below.refl w1.heap.size w1).alloc (Nat.le_refl _) (.cells #[] 3))
  have HOS := Lib.hid (World.ownsRow_made (base := w1.heap.size) (e := 3) (size := 1) w1 #[] 0 (Nat.le_refl _) (by decide) rfl)
  go_wp2_with fail
  go_loopw [11, 12] (fun v i wr => ∃ j : Nat, j ≤ F.length ∧ i = .int .i64 (j : Int) ∧ wr.ownsRow w1.heap.size 3 1 v (stEsiTo z (F.take j)).length ((stEsiTo z (F.take j)).map cutV) ∧ Below w1.heap.size w1 wr) (fun _ i _ => F.length - (intOf i).toNat)
  case atStart => exact ⟨0, Nat.zero_le _, rfl, by rw [HT0.out]; exact HOS.out, HBE2.out⟩
  case round =>
    obtain ⟨j, hj, rfl, hown, hbel⟩ := hrel
    have HB := Lib.hid hbel
    have HOW := Lib.hid hown
    by_cases hlt : j < F.length
    · have d1 : decide ((j : Int) < (F.length : Int)) = true := decide_eq_true (by omega)
      obtain ⟨g1, rfl⟩ := HG1.out (by omega)
      have HX1 : Hid (∀ V, Below w1.heap.size w1 V → V.cell? ⟨g1, j, none⟩ = some (.int .i64 ((F.getD j 0 : Nat) : Int))) := Lib.hid fun V hV => by
        have h := (owns_kept HO1.out hV).cellAt j (by omega)
        rw [h]
        simp [cutV, List.getD_eq_getElem?_getD, hlt]
      have hst := HTS.out j hlt
      have hql := HTL.out j hj
      have hqb := HJZ.out j (by omega)
      have hxb := HFB.out j hlt
      have hyb := HJZ.out (F.getD j 0) (by omega)
      clear hown hbel
      generalize F.getD j 0 = x at *
      generalize hE : stEsiTo z (F.take j) = E0 at *
      rw [hql] at HOW
      obtain ⟨q, hq⟩ : ∃ q, q = j * z := ⟨_, rfl⟩
      rw [← hq] at HOW hqb hql
      obtain ⟨y, hy⟩ : ∃ y, y = x * z := ⟨_, rfl⟩
      rw [← hy] at hyb
      simp only [← hy] at hst
      have hxz : (x : Int) * (z : Int) = (y : Int) := by rw [hy]; push_cast; rfl
      have HST := Lib.hid hst
      have HQL := Lib.hid hql
      clear hq hy hst hql hE
      obtain ⟨wo, hwo⟩ : ∃ wo, wo = wr := ⟨_, rfl⟩
      subst hwo
      go_wp2_with fail
      go_loopw [11, 13] (fun v i wr' => ∃ t : Nat, t ≤ z ∧ i = .int .i64 (t : Int) ∧ wr'.ownsRow w1.heap.size 3 1 v (q + t) ((E0 ++ (List.range t).map fun k => y + k).map cutV) ∧ Below w1.heap.size w1 wr') (fun _ i _ => z - (intOf i).toNat)
      case atStart => exact ⟨0, Nat.zero_le _, rfl, by simpa using HOW.out, HB.out⟩
      case round =>
        obtain ⟨t, ht, rfl, hown, hbel⟩ := hrel
        have HB2 := Lib.hid hbel
        have HOW2 := Lib.hid hown
        clear hown hbel
        by_cases htl : t < z
        · have d2 : decide ((t : Int) < (z : Int)) = true := decide_eq_true (by omega)
          have hx1 := HX1.out wr HB2.out
          have hyw : IntKind.i64.wrap (y : Int) = (y : Int) := IntWalk.i64_in _ (by omega)
          have hyt : IntKind.i64.wrap ((y : Int) + (t : Int)) = (y : Int) + (t : Int) := IntWalk.i64_in _ (by omega)
          have HO4 := Lib.hid (HOW2.out.alloc (.cells #[.int .i64 ((y : Int) + (t : Int))] 3))
          have HSZ := Lib.hid HB2.out.size
          have HSN : Hid ((E0 ++ (List.range (t + 1)).map fun k => y + k).map cutV = (E0 ++ (List.range t).map fun k => y + k).map cutV ++ [.int .i64 ((y : Int) + (t : Int))]) := Lib.hid (by
            rw [List.range_succ]
            simp [cutV])
          go_wp2_with (at_builtin; refine wpList_append_own _ rfl (.tmp 35) (.tmp 44) 32 rfl w1.heap.size 3 i0 (.int .i64 0) 1 8 Tryd.underlying32 hi hz0 hz1 hz2 rfl (by decide) u11 (q + t) ((E0 ++ (List.range t).map fun k => y + k).map cutV) rfl HO4.out ⟨wr.heap.size, 0, none⟩ 1 1 [.int .i64 ((y : Int) + (t : Int))] rfl rfl (cell_one_new _ _ _) (fun x hx => by simp at hx; subst hx; rfl) (by unfold maxLen; omega) (by omega) (by have := HSZ.out; simp; omega) ?_; intro v5 w5 hown1 hgrow1 _; have HB5 := Lib.hid ((HB2.out.alloc HSZ.out _).grown hgrow1 (by have := HSZ.out; simp; omega) (fun k hk => (HO4.out.lt k hk).1)); have HO5 := Lib.hid hown1; clear hown1 hgrow1)
          go_roundw
          case rel => exact ⟨t + 1, by omega, by go_num, by rw [HSN.out]; exact HO5.out, HB5.out⟩
          case measure => simp [intOf]; omega
        · obtain rfl : t = z := by omega
          have d2 : decide ((t : Int) < (t : Int)) = false := decide_eq_false (by omega)
          have HLN : Hid ((stEsiTo t (F.take (j + 1))).length = q + t) := Lib.hid (by rw [HST.out, List.length_append, HQL.out, List.length_map, List.length_range])
          go_wp2_with fail
          go_roundw
          case rel => exact ⟨j + 1, by omega, by go_num, by rw [HLN.out, HST.out]; exact HOW2.out, HB2.out⟩
          case measure => simp [intOf]; omega
    · obtain rfl : j = F.length := by omega
      have d1 : decide ((F.length : Int) < (F.length : Int)) = false := decide_eq_false (by omega)
      rw [HTE.out] at HOW
      clear hown hbel
      go_wp2
      go_ret
      exact ⟨_, rfl, ownsRow_base HOW.out HB1.out.size, HB1.out.trans (HB.out.mono HB1.out.size)⟩
end Go.Proofs.YtlhpkfonffijfaaDoor
