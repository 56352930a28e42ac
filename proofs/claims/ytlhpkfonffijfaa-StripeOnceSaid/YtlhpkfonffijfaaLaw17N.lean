/- The seventeenth layer's law StripeOnce (plain seat). -/
import Derived.Test.YtlhpkfonffijfaaStOnce
import Derived.Test.YtlhpkfonffijfaaOwn
import Derived.Laws.MakeOwn
namespace Go.Proofs.Ytlhpkfonffijfaa
open Go.RowKit Go.Extern.Stop Go.Stop Go.Extern

set_option linter.unusedSimpArgs false in
set_option linter.unusedVariables false in
set_option maxRecDepth 1000000 in
set_option maxHeartbeats 8000000 in
theorem once17 (hR : StRateC) (hC : StChunksC) (hE : StEsisC) {w : World} (g lv : Int) (s : Nat) (ig : I64 g) (il : I64 lv) (hs : s < 4294967296) :
    Calls Try.prog 3 #[.int .i64 g, .int .i64 lv, .int .u32 (s : Int)] w fun e w' => e = .returned (.bool true) ∧ Below w.heap.size w w' := by
  obtain ⟨i0, hi, hz0, hz1, hz2⟩ := info_parts info_int
  obtain ⟨a, ha, ha8⟩ := st_mod g 8 (by decide)
  have ha' : (IntKind.u64.wrap g).tmod 8 = (a : Int) := ha
  obtain ⟨G, hG⟩ : ∃ G, G = 1 + a := ⟨_, rfl⟩
  obtain ⟨l, hlv, hlG⟩ := st_mod lv G (by omega)
  have e1 : IntKind.i64.wrap (a : Int) = (a : Int) := IntWalk.i64_in _ (by omega)
  have e2b : (1 : Int) + (a : Int) = (G : Int) := by omega
  have gw1 : IntKind.i64.wrap (G : Int) = (G : Int) := IntWalk.i64_in _ (by omega)
  have gwu : IntKind.u64.wrap (G : Int) = (G : Int) := by rw [IntKind.wrap_u64]; omega
  have gb1 : G ≤ 8 := by omega
  have gb2 : 1 ≤ G := by omega
  have gb3 : a ≤ 7 := by omega
  have gb4 : l ≤ 7 := by omega
  obtain ⟨A1, hA1⟩ : ∃ A1, A1 = a := ⟨_, rfl⟩
  have e3b : (G : Int) - 1 = (A1 : Int) := by omega
  have e3w : IntKind.i64.wrap (A1 : Int) = (A1 : Int) := IntWalk.i64_in _ (by omega)
  have gb6 : A1 ≤ 7 := by omega
  have e5 : IntKind.i64.wrap (l : Int) = (l : Int) := IntWalk.i64_in _ (by omega)
  have hnz : ((G : Int) == 0) = false := by simp; omega
  have hnz2 : ¬ (G : Int) = 0 := by omega
  have hnz3 : ¬ G = 0 := by omega
  obtain ⟨m, hm⟩ : ∃ m, m = a - l := ⟨_, rfl⟩
  have e6b : (A1 : Int) - (l : Int) = (m : Int) := by omega
  have e6w : IntKind.i64.wrap (m : Int) = (m : Int) := IntWalk.i64_in _ (by omega)
  have gb5 : m ≤ 7 := by omega
  obtain ⟨P, hP⟩ : ∃ P : Nat, P = 2 ^ a := ⟨_, rfl⟩
  obtain ⟨R, hRR⟩ : ∃ R : Nat, R = 2 ^ m := ⟨_, rfl⟩
  have hPb : P ≤ 128 := by rw [hP]; have : (2 : Nat) ^ a ≤ 2 ^ 7 := st_pow_le gb3; simpa using this
  have hPp : 0 < P := by rw [hP]; exact Nat.two_pow_pos a
  have hRb : R ≤ 128 := by rw [hRR]; have : (2 : Nat) ^ m ≤ 2 ^ 7 := st_pow_le gb5; simpa using this
  obtain ⟨n, hn⟩ : ∃ n, n = 2 * P := ⟨_, rfl⟩
  have hnb : n ≤ 256 := by omega
  have hnp : 0 < n := by omega
  have n1 : (2 : Int) * (P : Int) = (n : Int) := by omega
  have nw : IntKind.i64.wrap (n : Int) = (n : Int) := IntWalk.i64_in _ (by omega)
  have HPW1 : Hid (∀ V : World, Calls Try.prog 6 #[.int .i64 (A1 : Int)] V fun e w' => e = .returned (.int .i64 (P : Int)) ∧ V = w') := Lib.hid fun V => by rw [hP, hA1]; exact stPower_any a (by omega)
  have HPW2 : Hid (∀ V : World, Calls Try.prog 6 #[.int .i64 (m : Int)] V fun e w' => e = .returned (.int .i64 (R : Int)) ∧ V = w') := Lib.hid fun V => by rw [hRR]; exact stPower_any m (by omega)
  have HEC : Hid (∀ (k : Nat), k < G → ∀ (s' : Nat), s' < 4294967296 → ∀ V : World, Calls Try.prog 7 #[.int .i64 (G : Int), .int .i64 (n : Int), .int .i64 (k : Int), .int .u32 (s' : Int)] V fun e w' => ∃ v', e = .returned (.tuple #[v', .nilIface]) ∧ w'.ownsRow V.heap.size 3 1 v' (rateN k * 2) ((stEsiL (G - 1 - k) k s' 2).map cutV) ∧ Below V.heap.size V w') := Lib.hid fun k hk s' hs' V => by
    refine (hE V (G : Int) (n : Int) (k : Int) s' ⟨by omega, by omega⟩ ⟨by omega, by omega⟩ ⟨by omega, by omega⟩ hs').mono ?_
    have k1 : ((G : Int) - 1 - (k : Int)).toNat = G - 1 - k := by omega
    have k2 : ((G : Int) - 1).toNat = a := by omega
    have k3 : n / 2 ^ a = 2 := by rw [← hP, hn]; exact Nat.mul_div_cancel 2 hPp
    have k4 : stEsiN (G : Int) (n : Int) (k : Int) = 0 := by
      unfold stEsiN
      rw [if_pos ⟨decide_eq_true (by omega), by omega, by omega⟩, k2, Int.toNat_natCast, ← hP, hn, Nat.mul_mod_left, if_pos rfl]
    have k5 : (stEsiL (G - 1 - k) k s' 2).length = rateN k * 2 := by
      unfold stEsiL
      rw [stEsiTo_length, layL_length]
    rw [k1, k2, k4, Int.toNat_natCast, Int.toNat_natCast, k3, k5]
    rintro e w' ⟨hb', ⟨h, -⟩ | ⟨-, v', rfl, ho⟩⟩
    · exact absurd rfl h
    · exact ⟨v', rfl, ho, hb'⟩
  have HELT : Hid (∀ k s' x, k < G → x ∈ stEsiL (G - 1 - k) k s' 2 → x < n) := Lib.hid fun k s' x hk hx => by
    have := esi_lt hx
    rw [show G - 1 - k + k = a by omega, ← hP, ← hn] at this
    exact this
  have HELN : Hid (∀ k s', (stEsiL (G - 1 - k) k s' 2).length = rateN k * 2) := Lib.hid fun k s' => by
    unfold stEsiL
    rw [stEsiTo_length, layL_length]
  have HAL : Hid (∀ i k, i ≤ R → k ≤ l + 1 → (allL G l s i ++ midL G ((s + i) % 4294967296) k).length ≤ 200000) := Lib.hid fun i k hi hk => by
    have h1 := allL_length G l s gb1 hlG i
    have h2 := midL_length G ((s + i) % 4294967296) gb1 k (by omega)
    rw [List.length_append]
    omega
  have HRL : Hid (∀ k, k < G → rateN k ≤ 64) := Lib.hid fun k hk => rateN_le (by omega)
  have HEND : Hid (∀ x, x < n → (allL G l s R).count x = 1) := Lib.hid fun x hx => by
    have := allL_once (G := G) (l := l) (s := s) (x := x) gb1 hlG (by rw [show G - 1 = a by omega, ← hP, ← hn]; exact hx)
    rw [show G - 1 - l = m by omega, ← hRR] at this
    exact this
  have HAW : Hid (∀ V : World, Calls Try.prog 8 #[] V fun e w' => e = .returned (.bool true) ∧ Below V.heap.size V w') := Lib.hid fun V => awake17 hR hC
  have HCS : Hid (∀ (y : Nat) (L : List Nat), y < n → (cntL n L).set y (L.count y + 1) = cntL n (L ++ [y])) := Lib.hid fun y L h => cntL_set h
  have HCG : Hid (∀ (y : Nat) (L : List Nat), y < n → (cntL n L)[y]? = some (L.count y)) := Lib.hid fun y L h => cntL_get h
  have HCZ : Hid (List.replicate n (.int .i64 0) = (cntL n []).map cutV) := Lib.hid (by rw [cntL_zero, List.map_replicate]; rfl)
  have hG1 := Lib.hid hlG
  have hs32 := Lib.hid hs
  clear hR hC hE ha hm hP hRR hn ha8 hs hG hA1
  go_enter Try.func3, Try.ntmps3
  go_wp2_with fail
  with_reducible refine (HPW1.out _).mono ?_
  rintro e w1 ⟨rfl, rfl⟩
  go_wp2_with (at_make; refine wpList_make_full _ rfl _ _ 25 rfl w.heap.size 3 i0 (.int .i64 0) 1 Try.underlying25 hi hz0 hz1 .i64 .i64 _ _ n rfl rfl rfl rfl (by rw [hz2]; omega) (by unfold maxLen; omega) (Nat.le_refl _) ?_; intro w0 hown0 hgrow0; have hb0 := Lib.hid ((Below.refl w.heap.size w).grown hgrow0 (Nat.le_refl _) (fun k hk => by cases hk)); have ho0 := Lib.hid hown0; clear hown0 hgrow0)
  go_loopw [9] (fun i wr => ∃ j : Nat, j ≤ R ∧ i = .int .i64 (j : Int) ∧ wr.ownsRow w.heap.size 3 1 (.slice (some ⟨w.heap.size, 0, none⟩) n n) n ((cntL n (allL G l s j)).map cutV) ∧ Below w.heap.size w wr) (fun i _ => R - (intOf i).toNat)
  case atStart => exact ⟨0, Nat.zero_le _, rfl, by show World.ownsRow _ _ _ _ _ _ ((cntL n []).map cutV); rw [← HCZ.out]; have := ho0.out; rw [Nat.mul_one] at this; exact toList_madeCells_one (.int .i64 0) n ▸ this, hb0.out⟩
  case round =>
    obtain ⟨j, hj, rfl, hown, hbel⟩ := hrel
    have HB := Lib.hid hbel
    have HOW := Lib.hid hown
    clear hown hbel
    by_cases hlt : j < R
    · have d1 : decide ((j : Int) < (R : Int)) = true := decide_eq_true (by omega)
      obtain ⟨sj, hsj⟩ : ∃ sj, sj = (s + j) % 4294967296 := ⟨_, rfl⟩
      have hsb : sj < 4294967296 := by omega
      have u1 : IntKind.u32.wrap (j : Int) = (j : Int) := by rw [IntKind.wrap_u32]; omega
      have u2 : IntKind.u32.wrap ((s : Int) + (j : Int)) = (sj : Int) := by rw [IntKind.wrap_u32]; omega
      have u3 : ((s : Int) + (j : Int)) % 4294967296 = (sj : Int) := by omega
      have u4 : (j : Int) % 4294967296 = (j : Int) := by omega
      have HALJ : Hid (∀ k, k ≤ l + 1 → (allL G l s j ++ midL G sj k).length ≤ 200000) := Lib.hid fun k hk => by rw [hsj]; exact HAL.out j k hj hk
      have HNX : Hid (allL G l s (j + 1) = allL G l s j ++ midL G sj (l + 1)) := Lib.hid (by rw [hsj]; rfl)
      have HM0 : Hid (allL G l s j ++ midL G sj 0 = allL G l s j) := Lib.hid (List.append_nil _)
      have HMS : Hid (∀ k, midL G sj (k + 1) = midL G sj k ++ stEsiL (G - 1 - k) k sj 2) := Lib.hid fun k => rfl
      clear hsj
      generalize allL G l s j = M at *
      go_wp2_with fail
      with_reducible refine (HPW2.out _).mono ?_
      rintro e w2 ⟨rfl, rfl⟩
      obtain ⟨wo, hwo⟩ : ∃ wo, wo = wr := ⟨_, rfl⟩
      subst hwo
      go_wp2_with fail
      go_loopw [10] (fun i wr => ∃ k : Nat, k ≤ l + 1 ∧ i = .int .i64 (k : Int) ∧ wr.ownsRow w.heap.size 3 1 (.slice (some ⟨w.heap.size, 0, none⟩) n n) n ((cntL n (M ++ midL G sj k)).map cutV) ∧ Below w.heap.size w wr) (fun i _ => l + 1 - (intOf i).toNat)
      case atStart => exact ⟨0, Nat.zero_le _, rfl, by rw [HM0.out]; exact HOW.out, HB.out⟩
      case round =>
        obtain ⟨k, hk, rfl, hown, hbel⟩ := hrel
        have HB2 := Lib.hid hbel
        have HOW2 := Lib.hid hown
        clear hown hbel
        by_cases hkl : k ≤ l
        · have d2 : decide ((k : Int) ≤ (l : Int)) = true := decide_eq_true (by omega)
          have hkG : k < G := by have := hG1.out; omega
          have HE1 := Lib.hid (HEC.out k hkG sj hsb)
          have HLT : Hid (∀ x, x ∈ stEsiL (G - 1 - k) k sj 2 → x < n) := Lib.hid fun x hx => HELT.out k sj x hkG hx
          have HLN := Lib.hid (HELN.out k sj)
          have hrl := HRL.out k hkG
          have HLE : Hid ((M ++ midL G sj (k + 1)).length ≤ 200000) := Lib.hid (HALJ.out (k + 1) (by omega))
          have HS1 := Lib.hid (HMS.out k)
          have HK : Hid (k ≤ l) := Lib.hid hkl
          clear hkG
          generalize stEsiL (G - 1 - k) k sj 2 = L at *
          generalize hB0 : midL G sj k = B0 at *
          obtain ⟨q, hq⟩ : ∃ q, q = rateN k * 2 := ⟨_, rfl⟩
          rw [← hq] at HE1 HLN
          have hqb : q ≤ 128 := by omega
          clear hq hB0 hrl
          go_wp2_with fail
          with_reducible refine (HE1.out _).mono ?_
          rintro e w3 ⟨v3, rfl, ho3, hb3⟩
          have HB3 := Lib.hid (HB2.out.trans (hb3.mono HB2.out.size))
          have HO3 := Lib.hid ho3
          have HOW3 := Lib.hid (owns_kept HOW2.out hb3)
          obtain ⟨a3, c3, hv3, -, hg3⟩ := own_open ho3
          subst hv3
          have HG3 : Hid (0 < q → ∃ g3, a3 = some ⟨g3, 0, none⟩ ∧ g3 ≠ w.heap.size ∧ ∀ t, t < q → w3.cell? ⟨g3, t, none⟩ = some (.int .i64 ((L.getD t 0 : Nat) : Int))) := Lib.hid fun hp => by
            obtain ⟨g3, rfl⟩ := hg3 hp
            refine ⟨g3, rfl, ?_, fun t ht => ?_⟩
            · have h1 := (ho3.lt g3 rfl).1
              have h2 := (HOW2.out.lt w.heap.size rfl).2
              omega
            · rw [HO3.out.cellAt t (by omega)]
              have : t < L.length := by rw [HLN.out]; exact ht
              simp [cutV, List.getD_eq_getElem?_getD, this]
          have HTK : Hid (∀ t, t < q → L.take (t + 1) = L.take t ++ [L.getD t 0]) := Lib.hid fun t ht => by
            have : t < L.length := by rw [HLN.out]; exact ht
            rw [List.take_add_one, List.getElem?_eq_getElem this, List.getD_eq_getElem?_getD, List.getElem?_eq_getElem this]
            rfl
          have HGL : Hid (∀ t, t < q → L.getD t 0 < n) := Lib.hid fun t ht => by
            have : t < L.length := by rw [HLN.out]; exact ht
            rw [List.getD_eq_getElem?_getD, List.getElem?_eq_getElem this]
            exact HLT.out _ (List.getElem_mem this)
          have HCB : Hid (∀ t y, (M ++ B0 ++ L.take t).count y ≤ 200000) := Lib.hid fun t y => by
            have h1 := List.count_le_length (a := y) (l := M ++ B0 ++ L.take t)
            have h2 := HLE.out
            rw [HS1.out, ← List.append_assoc, List.length_append] at h2
            rw [List.length_append] at h1
            have h3 := List.length_take_le t L
            have h4 : (L.take t).length ≤ L.length := by rw [List.length_take]; omega
            omega
          have HTE : Hid (L.take q = L) := Lib.hid (by rw [← HLN.out, List.take_length])
          clear hb3 ho3 hg3
          go_wp2_with fail
          go_loopw [13] (fun i wr' => ∃ t : Nat, t ≤ q ∧ i = .int .i64 (t : Int) ∧ wr'.ownsRow w.heap.size 3 1 (.slice (some ⟨w.heap.size, 0, none⟩) n n) n ((cntL n (M ++ B0 ++ L.take t)).map cutV) ∧ Below w.heap.size w wr' ∧ (∀ b, b ≠ w.heap.size → wr'.heap[b]? = w3.heap[b]?)) (fun i _ => q - (intOf i).toNat)
          case atStart => exact ⟨0, Nat.zero_le _, rfl, by rw [List.take_zero, List.append_nil]; exact HOW3.out, HB3.out, fun b _ => rfl⟩
          case round =>
            obtain ⟨t, ht, rfl, hown, hbel, hkp⟩ := hrel
            have HB4 := Lib.hid hbel
            have HOW4 := Lib.hid hown
            have HKP := Lib.hid hkp
            clear hown hbel hkp
            by_cases htl : t < q
            · have d3 : decide ((t : Int) < (q : Int)) = true := decide_eq_true (by omega)
              obtain ⟨g3, rfl, hgne, hcc⟩ := HG3.out (by omega)
              have hx : wr.cell? ⟨g3, t, none⟩ = some (.int .i64 ((L.getD t 0 : Nat) : Int)) := (World.cell?_of_block (w := w3) (a := ⟨g3, t, none⟩) (HKP.out g3 hgne)).trans (hcc t htl)
              have hyn := HGL.out t htl
              have HT1 := Lib.hid (HTK.out t htl)
              have hcnt := HCB.out t (L.getD t 0)
              have HSE := Lib.hid (HCS.out (L.getD t 0) (M ++ B0 ++ L.take t) hyn)
              have hc0 : wr.cell? ⟨w.heap.size, L.getD t 0, none⟩ = some (.int .i64 (((M ++ B0 ++ L.take t).count (L.getD t 0) : Nat) : Int)) := by
                rw [HOW4.out.cellAt _ (by omega), List.getElem?_map, HCG.out _ _ hyn]
                rfl
              have hf0 : wr.frozen? ⟨w.heap.size, L.getD t 0, none⟩ = false := HOW4.out.frozenAt _
              clear hcc hgne
              generalize (M ++ B0 ++ L.take t).count (L.getD t 0) = cn at *
              generalize L.getD t 0 = y at *
              have cw : IntKind.i64.wrap ((cn : Int) + 1) = (cn : Int) + 1 := IntWalk.i64_in _ (by omega)
              have y1 : ¬ n ≤ y := by omega
              have y2 : decide ((y : Int) < 0) = false := decide_eq_false (by omega)
              have HNW : Hid (M ++ B0 ++ L.take (t + 1) = M ++ B0 ++ L.take t ++ [y]) := Lib.hid (by rw [HT1.out, ← List.append_assoc])
              go_wp2_with fail
              go_roundw
              case rel =>
                refine ⟨t + 1, by omega, by go_num, ?_, HB4.out.setCell (p := ⟨w.heap.size, y, none⟩) (Nat.le_refl _) _, fun b hb => (Below.heap_setCell wr ⟨w.heap.size, y, none⟩ _ b hb).trans (HKP.out b hb)⟩
                rw [HNW.out, ← HSE.out, List.map_set]
                exact (HOW4.out.stored y (.int .i64 ((cn : Int) + 1))).1
              case measure => simp [intOf]; omega
            · obtain rfl : t = q := by omega
              have d3 : decide ((t : Int) < (t : Int)) = false := decide_eq_false (by omega)
              rw [HTE.out] at HOW4
              have HOWZ : Hid (wr.ownsRow w.heap.size 3 1 (.slice (some ⟨w.heap.size, 0, none⟩) n n) n ((cntL n (M ++ midL G sj (k + 1))).map cutV)) := Lib.hid (by rw [HS1.out, ← List.append_assoc]; exact HOW4.out)
              go_wp2_with fail
              go_roundw
              case rel => exact ⟨k + 1, by have := HK.out; omega, by go_num, HOWZ.out, HB4.out⟩
              case measure => have := HK.out; simp [intOf]; omega
        · obtain rfl : k = l + 1 := by omega
          have d2 : decide (((l + 1 : Nat) : Int) ≤ (l : Int)) = false := decide_eq_false (by omega)
          have d2' : ¬ l + 1 ≤ l := by omega
          rw [← HNX.out] at HOW2
          go_wp2_with fail
          go_roundw
          case rel => exact ⟨j + 1, by omega, by go_num, HOW2.out, HB2.out⟩
          case measure => simp [intOf]; omega
    · obtain rfl : j = R := by omega
      have d1 : decide ((j : Int) < (j : Int)) = false := decide_eq_false (by omega)
      go_wp2_with fail
      with_reducible refine (HPW2.out _).mono ?_
      rintro e w2 ⟨rfl, rfl⟩
      obtain ⟨wo, hwo⟩ : ∃ wo, wo = wr := ⟨_, rfl⟩
      subst hwo
      go_wp2_with fail
      go_loopw [14] (fun i wr => ∃ x : Nat, x ≤ n ∧ i = .int .i64 (x : Int) ∧ wr = wo) (fun i _ => n - (intOf i).toNat)
      case atStart => exact ⟨0, Nat.zero_le _, rfl, rfl⟩
      case round =>
        obtain ⟨x, hxn, rfl, rfl⟩ := hrel
        by_cases hxl : x < n
        · have d3 : decide ((x : Int) < (n : Int)) = true := decide_eq_true (by omega)
          have hc0 : wr.cell? ⟨w.heap.size, x, none⟩ = some (.int .i64 1) := by
            rw [HOW.out.cellAt _ (by omega), List.getElem?_map, HCG.out _ _ hxl, HEND.out x hxl]
            rfl
          go_wp2_with fail
          go_roundw
          case rel => exact ⟨x + 1, by omega, by go_num, trivial⟩
          case measure => simp [intOf]; omega
        · obtain rfl : x = n := by omega
          have d3 : decide ((x : Int) < (x : Int)) = false := decide_eq_false (by omega)
          go_wp2_with fail
          refine (HAW.out _).mono ?_
          rintro e w4 ⟨rfl, hb4⟩
          have HB5 := Lib.hid (HB.out.trans (hb4.mono HB.out.size))
          clear hb4
          go_wp2
          go_ret
          exact ⟨rfl, HB5.out⟩
end Go.Proofs.Ytlhpkfonffijfaa
