/- packed.Xor, packed.Odd, packed.Pack. -/
import Derived.Test.YtdmgcnmapglhiaaDoorPkPack
namespace Go.Proofs.YtdmgcnmapglhiaaDoor
open Go.RowKit Go.Extern.Stop Go.Stop Go.Extern

theorem ListAt.words {w : World} {v : Value} {ws : List Nat} (h : ListAt wordV w v ws) (n : Nat) (hn : ws.length = n) :
    ∃ a cap, v = .slice a n cap ∧ n ≤ cap ∧ cap ≤ maxLen ∧ (0 < n → ∃ b off, a = some ⟨b, off, none⟩ ∧ ∀ j, j < n → w.cell? ⟨b, off + j, none⟩ = some (.int .u64 ((ws.getD j 0 : Nat) : Int))) := by
  subst hn
  obtain ⟨a, cap, rfl, hc, hm, h⟩ := h
  refine ⟨a, cap, rfl, hc, hm, fun hp => ?_⟩
  obtain ⟨b, off, rfl, hcell⟩ := h hp
  refine ⟨b, off, rfl, fun j hj => ?_⟩
  rw [hcell j hj, List.getD_eq_getElem?_getD, List.getElem?_eq_getElem hj]
  rfl

theorem Xor_unlike {w : World} (v1 v2 : Value) (xa xb : List Nat) (h1 : ListAt wordV w v1 xa) (h2 : ListAt wordV w v2 xb) (hne : xa.length ≠ xb.length) :
    Calls Tryd.prog 25 #[v1, v2] w fun e w' => ∃ E, e = .returned (.tuple #[.slice none 0 0, E]) ∧ Chain w' 2 [⟨#[112, 97, 99, 107, 101, 100, 46, 88, 111, 114]⟩] E ∧ Below w.heap.size w w' := by
  have l1 := h1.len
  have l2 := h2.len
  obtain ⟨a1, cap1, rfl, -, -, -⟩ := h1
  obtain ⟨a2, cap2, rfl, -, -, -⟩ := h2
  have hb : ((xa.length : Int) == (xb.length : Int)) = false := by simp; omega
  have hb2 : ((xa.length : Int) != (xb.length : Int)) = true := by simp; omega
  go_enter Tryd.func25, Tryd.ntmps25
  go_wp2_with fail
  refine (New_chain _ 2 (by decide) _).mono ?_
  rintro e w1 ⟨E1, rfl, hc1, hb1⟩
  have HC1 := Lib.hid hc1
  have HB1 := Lib.hid hb1
  obtain ⟨u, v, rfl⟩ := hc1.iface
  clear hc1 hb1
  go_wp2
  go_ret2
  exact ⟨_, rfl, HC1.out, HB1.out⟩

set_option maxRecDepth 1000000 in
set_option maxHeartbeats 4000000 in
theorem Xor_like {w : World} (v1 v2 : Value) (xa xb : List Nat) (h1 : ListAt wordV w v1 xa) (h2 : ListAt wordV w v2 xb) (hw1 : Word xa) (hw2 : Word xb) (he : xa.length = xb.length) (hlen : xa.length ≤ 100000) :
    Calls Tryd.prog 25 #[v1, v2] w fun e w' => ∃ v' k, e = .returned (.tuple #[v', .nilIface]) ∧ w'.ownsRow w.heap.size 43 1 v' k ((xorW xa xb).map wordV) ∧ Below w.heap.size w w' := by
  obtain ⟨i0, hi, hz0, hz1, hz2⟩ := info_parts info_u64
  obtain ⟨n, hn⟩ : ∃ n, xa.length = n := ⟨_, rfl⟩
  obtain ⟨a1, cap1, rfl, hcap1, -, hcell1⟩ := h1.words n hn
  obtain ⟨a2, cap2, rfl, hcap2, -, hcell2⟩ := h2.words n (by omega)
  have HC1 := Lib.hid hcell1
  have HC2 := Lib.hid hcell2
  have HW1 := Lib.hid hw1
  have HW2 := Lib.hid hw2
  have HE := Lib.hid he
  have HN := Lib.hid hn
  rw [hn] at hlen
  clear hcell1 hcell2 hw1 hw2 h1 h2 he hn
  go_enter Tryd.func25, Tryd.ntmps25
  go_wp2_with (at_make; refine wpList_make_full _ rfl _ _ 24 rfl w.heap.size 43 i0 (.int .u64 0) 1 Tryd.underlying24 hi hz0 hz1 .i64 .i64 _ _ n rfl rfl rfl rfl (by rw [hz2]; omega) (by unfold maxLen; omega) (Nat.le_refl _) ?_; intro w0 hown0 hgrow0; have hb0 := Lib.hid ((Below.refl w.heap.size w).grown hgrow0 (Nat.le_refl _) (fun k hk => by cases hk)); have ho0 := Lib.hid hown0; clear hown0 hgrow0)
  go_loopw [19] (fun i wr => ∃ k : Nat, k ≤ n ∧ i = .int .i64 k ∧ (∃ vs : List Nat, vs.length = n ∧ (∀ j, j < k → vs.getD j 0 = xa.getD j 0 ^^^ xb.getD j 0) ∧ wr.ownsRow w.heap.size 43 1 (.slice (some ⟨w.heap.size, 0, none⟩) n n) n (vs.map wordV)) ∧ Below w.heap.size w wr) (fun i _ => n - (intOf i).toNat)
  case atStart => exact ⟨0, Nat.zero_le _, rfl, ⟨List.replicate n 0, by simp, fun j hj => by omega, by rw [List.map_replicate]; have := ho0.out; rw [Nat.mul_one] at this; exact toList_madeCells_one (.int .u64 0) n ▸ this⟩, hb0.out⟩
  case round =>
    obtain ⟨k, hk, rfl, ⟨vs, hvl, hvs, hown⟩, hbel⟩ := hrel
    have hsz := hbel.size
    by_cases hlt : k < n
    · obtain ⟨b1, off1, rfl, hc1⟩ := HC1.out (by omega)
      obtain ⟨b2, off2, rfl, hc2⟩ := HC2.out (by omega)
      have hx1 := hc1 k hlt
      have hx2 := hc2 k hlt
      have hy1 := (hbel.cell (p := ⟨b1, off1 + k, none⟩) (World.block_lt_of_cell? w _ hx1)).trans hx1
      have hy2 := (hbel.cell (p := ⟨b2, off2 + k, none⟩) (World.block_lt_of_cell? w _ hx2)).trans hx2
      have hxlt := HW1.out.getD k
      have hylt := HW2.out.getD k
      have hy3 : wr.cell? ⟨w.heap.size, k, none⟩ = some (.int .u64 ((vs.getD k 0 : Nat) : Int)) := by
        rw [hown.cellAt k (by omega)]
        simp [List.getD_eq_getElem?_getD, hvl, hlt, wordV]
      have hy4 : wr.frozen? ⟨w.heap.size, k, none⟩ = false := hown.frozenAt k
      have hbx := bits_xor_u64_nat (xa.getD k 0) (xb.getD k 0) hxlt hylt
      have HX : Hid (∀ x y, xa.getD k 0 = x → xb.getD k 0 = y → ∀ j, j < k + 1 → (vs.set k (x ^^^ y)).getD j 0 = xa.getD j 0 ^^^ xb.getD j 0) := Lib.hid fun x y ex ey j hj => by
        simp only [List.getD_eq_getElem?_getD, List.getElem?_set] at *
        by_cases e : k = j
        · subst e; rw [if_pos rfl, if_pos (by omega), ex, ey]; rfl
        · rw [if_neg e]; exact hvs j (by omega)
      have HO := Lib.hid hown
      have HB := Lib.hid hbel
      have HL := Lib.hid hvl
      clear hc1 hc2 hx1 hx2 hown hbel hvs hvl hxlt hylt
      generalize xa.getD k 0 = x at hy1 hbx HX
      generalize xb.getD k 0 = y at hy2 hbx HX
      generalize vs.getD k 0 = z at hy3
      go_wp2_with fail
      go_region
      go_wp2
      go_roundw
      case rel => exact ⟨k + 1, by omega, by go_num, ⟨vs.set k (x ^^^ y), by simpa using HL.out, HX.out x y rfl rfl, by rw [List.map_set]; exact (HO.out.stored k (.int .u64 ((x ^^^ y : Nat) : Int))).1⟩, (HB.out.setCell (p := ⟨w.heap.size, k, none⟩) (Nat.le_refl _) _).drew⟩
      case measure => simp [intOf]; omega
    · have hk' : k = n := by omega
      have HO := Lib.hid hown
      have HB := Lib.hid hbel
      have HV : Hid (vs = xorW xa xb) := Lib.hid (by
        apply List.ext_getElem (by rw [xorW_length HE.out, hvl]; exact HN.out.symm)
        intro j hj1 hj2
        have e := hvs j (by omega)
        rw [← xorW_getD HE.out] at e
        simpa [List.getD_eq_getElem?_getD, hj1, hj2] using e)
      clear hown hbel hvs hvl
      go_wp2
      go_ret2
      exact ⟨_, n, rfl, by have := HO.out; rw [HV.out] at this; exact this, HB.out⟩

/-! ### Odd -/
theorem Odd_unlike {w : World} (v1 v2 : Value) (xa xb : List Nat) (h1 : ListAt wordV w v1 xa) (h2 : ListAt wordV w v2 xb) (hne : xa.length ≠ xb.length) :
    Calls Tryd.prog 26 #[v1, v2] w fun e w' => ∃ E, e = .returned (.tuple #[.bool false, E]) ∧ Chain w' 2 [⟨#[112, 97, 99, 107, 101, 100, 46, 79, 100, 100]⟩] E ∧ Below w.heap.size w w' := by
  have l1 := h1.len
  have l2 := h2.len
  obtain ⟨a1, cap1, rfl, -, -, -⟩ := h1
  obtain ⟨a2, cap2, rfl, -, -, -⟩ := h2
  have hb : ((xa.length : Int) == (xb.length : Int)) = false := by simp; omega
  have hb2 : ((xa.length : Int) != (xb.length : Int)) = true := by simp; omega
  go_enter Tryd.func26, Tryd.ntmps26
  go_wp2_with fail
  refine (New_chain _ 2 (by decide) _).mono ?_
  rintro e w1 ⟨E1, rfl, hc1, hb1⟩
  have HC1 := Lib.hid hc1
  have HB1 := Lib.hid hb1
  obtain ⟨u, v, rfl⟩ := hc1.iface
  clear hc1 hb1
  go_wp2
  go_ret2
  exact ⟨_, rfl, HC1.out, HB1.out⟩

theorem pop_step (S x y a b : Nat) (h : pop S % 2 = a % 2) (hb : b = a + pop (x &&& y)) : pop (S ^^^ (x &&& y)) % 2 = b % 2 := by
  rw [pop_xor]; omega

set_option maxRecDepth 1000000 in
set_option maxHeartbeats 4000000 in
theorem Odd_like {w : World} (v1 v2 : Value) (xa xb : List Nat) (h1 : ListAt wordV w v1 xa) (h2 : ListAt wordV w v2 xb) (hw1 : Word xa) (hw2 : Word xb) (he : xa.length = xb.length) (hlen : xa.length ≤ 100000) :
    Calls Tryd.prog 26 #[v1, v2] w fun e w' => e = .returned (.tuple #[.bool (oddW xa xb), .nilIface]) ∧ Below w.heap.size w w' := by
  obtain ⟨n, hn⟩ : ∃ n, xa.length = n := ⟨_, rfl⟩
  obtain ⟨a1, cap1, rfl, hcap1, -, hcell1⟩ := h1.words n hn
  obtain ⟨a2, cap2, rfl, hcap2, -, hcell2⟩ := h2.words n (by omega)
  have HC1 := Lib.hid hcell1
  have HC2 := Lib.hid hcell2
  have HW1 := Lib.hid hw1
  have HW2 := Lib.hid hw2
  have HE := Lib.hid he
  have HN := Lib.hid hn
  rw [hn] at hlen
  clear hcell1 hcell2 hw1 hw2 h1 h2 he hn
  go_enter Tryd.func26, Tryd.ntmps26
  go_wp2
  go_loopw [6, 16] (fun s i wr => ∃ k : Nat, k ≤ n ∧ i = .int .i64 k ∧ (∃ S : Nat, S < 18446744073709551616 ∧ s = .int .u64 (S : Int) ∧ pop S % 2 = (colsTo (andW xa xb) (64 * k)).length % 2) ∧ Below w.heap.size w wr) (fun _ i _ => n - (intOf i).toNat)
  case atStart => exact ⟨0, Nat.zero_le _, rfl, ⟨0, by decide, rfl, rfl⟩, Below.refl _ _⟩
  case round =>
    obtain ⟨k, hk, rfl, ⟨S, hS, rfl, hpar⟩, hbel⟩ := hrel
    by_cases hlt : k < n
    · obtain ⟨b1, off1, rfl, hc1⟩ := HC1.out (by omega)
      obtain ⟨b2, off2, rfl, hc2⟩ := HC2.out (by omega)
      have hx1 := hc1 k hlt
      have hx2 := hc2 k hlt
      have hy1 := (hbel.cell (p := ⟨b1, off1 + k, none⟩) (World.block_lt_of_cell? w _ hx1)).trans hx1
      have hy2 := (hbel.cell (p := ⟨b2, off2 + k, none⟩) (World.block_lt_of_cell? w _ hx2)).trans hx2
      have hxlt := HW1.out.getD k
      have hylt := HW2.out.getD k
      have HA : Hid ((colsTo (andW xa xb) (64 * (k + 1))).length = (colsTo (andW xa xb) (64 * k)).length + pop (xa.getD k 0 &&& xb.getD k 0)) := Lib.hid (by rw [colsTo_word, andW_getD HE.out])
      generalize xa.getD k 0 = x at hy1 hxlt HA
      generalize xb.getD k 0 = y at hy2 hylt HA
      have hlt2 : x &&& y < 18446744073709551616 := Nat.and_lt_two_pow (n := 64) _ hylt
      have hlt3 : S ^^^ (x &&& y) < 18446744073709551616 := Nat.xor_lt_two_pow (n := 64) hS hlt2
      have hba := bits_and_u64_nat x y hxlt hylt
      have hbx := bits_xor_u64_nat S (x &&& y) hS hlt2
      have HP := Lib.hid (pop_step S x y _ _ hpar HA.out)
      have HB := Lib.hid hbel
      have HL3 := Lib.hid hlt3
      clear hc1 hc2 hx1 hx2 hbel hxlt hylt hpar HA hlt2 hlt3 hS
      go_wp2_with fail
      go_quiet (fail)
      go_wp2
      go_roundw
      case rel => exact ⟨k + 1, by omega, by go_num, ⟨S ^^^ (x &&& y), HL3.out, rfl, HP.out⟩, below_draws HB.out _⟩
      case measure => simp [intOf]; omega
    · have hk' : k = n := by omega
      have HB := Lib.hid hbel
      have hp := pop_le S
      have HO : Hid ((((pop S : Nat) : Int) % 2 == 1) = oddW xa xb) := Lib.hid (by
        have e : (colsOf (andW xa xb)).length % 2 = pop S % 2 := by
          rw [hpar]; unfold colsOf; rw [andW_length HE.out, HN.out, hk']
        unfold oddW
        rw [e]
        have h2 := Nat.mod_two_eq_zero_or_one (pop S)
        have e2 : ((pop S : Nat) : Int) % 2 = ((pop S % 2 : Nat) : Int) := by omega
        rw [e2]
        rcases h2 with h2 | h2 <;> rw [h2] <;> rfl)
      clear hpar hbel
      go_wp2_with fail
      refine (Ones64_any S hS _).mono ?_
      rintro e w1 ⟨rfl, rfl⟩
      generalize pop S = q at *
      go_wp2
      go_ret2
      exact ⟨by rw [← HO.out]; rfl, HB.out⟩

/-! ### Pack -/
theorem shl_one (b : Nat) (hb : b < 64) : 2 ^ b < 18446744073709551616 := by
  have : 2 ^ b ≤ 2 ^ 63 := Nat.pow_le_pow_right (by decide) (by omega)
  omega

theorem inP_snoc (l : List Int) (c d : Nat) : (inP l d || d == c) = inP (l ++ [(c : Int)]) d := by
  unfold inP
  by_cases h1 : (d : Int) ∈ l
  · rw [decide_eq_true h1, decide_eq_true (List.mem_append.2 (.inl h1))]; rfl
  · by_cases h2 : d = c
    · subst h2; simp
    · have h3 : ¬ (d : Int) ∈ l ++ [(c : Int)] := by simp [h1]; omega
      rw [decide_eq_false h1, decide_eq_false h3]
      simpa using h2

/-- What packed.Pack answers. -/
def packAns (l : List Int) (n : Int) (w' : World) (v E : Value) : Prop :=
  if checkI l n = 0 then E = .nilIface ∧ ∃ ws, ListAt wordV w' v ws ∧ Packs ws (sizeI n).toNat (inP l)
  else v = .slice none 0 0 ∧ Chain w' (checkI l n) [⟨#[112, 97, 99, 107, 101, 100, 46, 80, 97, 99, 107]⟩] E

theorem packAns_one {l : List Int} {n : Int} {w' : World} {E : Value} (h : n < 0 ∨ 4096 < n ∨ outI l n = true) (hc : Chain w' 1 [⟨#[112, 97, 99, 107, 101, 100, 46, 80, 97, 99, 107]⟩] E) : packAns l n w' (.slice none 0 0) E := by
  have e : checkI l n = 1 := by rw [checkI, if_pos h]
  unfold packAns
  rw [e, if_neg (by decide)]
  exact ⟨rfl, hc⟩

set_option maxRecDepth 1000000 in
set_option maxHeartbeats 4000000 in
theorem Pack_any {w : World} (v : Value) (l : List Int) (n : Int) (h : ListAt intV w v l) (hn : -9223372036854775808 ≤ n ∧ n ≤ 9223372036854775807) :
    Calls Tryd.prog 10 #[v, .int .i64 n] w fun e w' => ∃ v' E, e = .returned (.tuple #[v', E]) ∧ packAns l n w' v' E ∧ Below w.heap.size w w' := by
  obtain ⟨i0, hi, hz0, hz1, hz2⟩ := info_parts info_u64
  have hlen := h.len
  have H1 := Lib.hid h
  have HN := Lib.hid hn
  obtain ⟨a1, cap1, rfl, hcap, -, hcell⟩ := h
  have HC := Lib.hid hcell
  clear hcell
  by_cases h0 : n < 0
  · have HD := Lib.hid h0
    go_enter Tryd.func10, Tryd.ntmps10
    go_wp2_with fail
    refine (New_chain _ 1 (by decide) _).mono ?_
    rintro e w1 ⟨E1, rfl, hc1, hb1⟩
    have HC1 := Lib.hid hc1
    have HB1 := Lib.hid hb1
    obtain ⟨u, v, rfl⟩ := hc1.iface
    clear hc1 hb1
    go_wp2
    go_ret2
    exact ⟨_, _, rfl, packAns_one (.inl HD.out) HC1.out, HB1.out⟩
  by_cases h4 : 4096 < n
  · have HD := Lib.hid h4
    go_enter Tryd.func10, Tryd.ntmps10
    go_wp2_with fail
    refine (New_chain _ 1 (by decide) _).mono ?_
    rintro e w1 ⟨E1, rfl, hc1, hb1⟩
    have HC1 := Lib.hid hc1
    have HB1 := Lib.hid hb1
    obtain ⟨u, v, rfl⟩ := hc1.iface
    clear hc1 hb1
    go_wp2
    go_ret2
    exact ⟨_, _, rfl, packAns_one (.inr (.inl HD.out)) HC1.out, HB1.out⟩
  cases ho : outI l n with
  | true =>
    have HD := Lib.hid ho
    clear ho
    go_enter Tryd.func10, Tryd.ntmps10
    go_wp2_with fail
    refine (outside_any _ l n H1.out).mono ?_
    rintro e w1 ⟨rfl, rfl⟩
    rw [HD.out]
    go_wp2_with fail
    refine (New_chain _ 1 (by decide) _).mono ?_
    rintro e w1 ⟨E1, rfl, hc1, hb1⟩
    have HC1 := Lib.hid hc1
    have HB1 := Lib.hid hb1
    obtain ⟨u, v, rfl⟩ := hc1.iface
    clear hc1 hb1
    go_wp2
    go_ret2
    exact ⟨_, _, rfl, packAns_one (.inr (.inr HD.out)) HC1.out, HB1.out⟩
  | false =>
    have HD := Lib.hid ho
    have HIN : Hid (∀ j (hj : j < l.length), 0 ≤ l[j] ∧ l[j] < n) := Lib.hid fun j hj => by
      unfold outI at ho
      rw [List.any_eq_false] at ho
      have := ho _ (List.getElem_mem hj)
      simp at this
      omega
    obtain ⟨K, hK, hK64⟩ := sizeI_nat n
    have HK : Hid ((sizeI n).toNat = K) := Lib.hid (by omega)
    have hnK : n ≤ 64 * (K : Int) := by
      unfold sizeI at hK
      rw [if_neg (by omega)] at hK
      omega
    have HCH : Hid (∀ b, (if l.Nodup then (0 : Int) else 2) = b → checkI l n = b) := Lib.hid fun b e => by rw [checkI, if_neg (by rw [HD.out]; simp; omega)]; exact e
    clear ho
    go_enter Tryd.func10, Tryd.ntmps10
    go_wp2_with fail
    refine (outside_any _ l n H1.out).mono ?_
    rintro e w1 ⟨rfl, rfl⟩
    rw [HD.out]
    go_wp2_with fail
    refine (Size_any n HN.out).mono ?_
    rintro e w1 ⟨rfl, rfl⟩
    rw [hK]
    go_wp2_with (at_make; refine wpList_make_full _ rfl _ _ 24 rfl w.heap.size 43 i0 (.int .u64 0) 1 Tryd.underlying24 hi hz0 hz1 .i64 .i64 _ _ K rfl rfl rfl rfl (by rw [hz2]; omega) (by unfold maxLen; omega) (Nat.le_refl _) ?_; intro w0 hown0 hgrow0; have hb0 := Lib.hid ((Below.refl w.heap.size w).grown hgrow0 (Nat.le_refl _) (fun k hk => by cases hk)); have ho0 := Lib.hid hown0; clear hown0 hgrow0)
    go_loopw [25] (fun i wr => ∃ k : Nat, k ≤ l.length ∧ i = .int .i64 k ∧ (l.take k).Nodup ∧ (∃ vs : List Nat, Packs vs K (inP (l.take k)) ∧ wr.ownsRow w.heap.size 43 1 (.slice (some ⟨w.heap.size, 0, none⟩) K K) K (vs.map wordV)) ∧ Below w.heap.size w wr) (fun i _ => l.length - (intOf i).toNat)
    case atStart => exact ⟨0, Nat.zero_le _, rfl, by simp, ⟨List.replicate K 0, (Packs.zero K).congr fun c _ => by simp [inP], by rw [List.map_replicate]; have := ho0.out; rw [Nat.mul_one] at this; exact toList_madeCells_one (.int .u64 0) K ▸ this⟩, hb0.out⟩
    case round =>
      obtain ⟨k, hk, rfl, hnd, ⟨vs, hvp, hown⟩, hbel⟩ := hrel
      have hsz := hbel.size
      have HO := Lib.hid hown
      have HB := Lib.hid hbel
      have HP := Lib.hid hvp
      have HND := Lib.hid hnd
      by_cases hlt : k < l.length
      · obtain ⟨b, off, rfl, hcc⟩ := HC.out (by omega)
        have hx0 : w.cell? ⟨b, off + k, none⟩ = some (.int .i64 l[k]) := hcc k hlt
        have hx : wr.cell? ⟨b, off + k, none⟩ = some (.int .i64 l[k]) := (hbel.cell (p := ⟨b, off + k, none⟩) (World.block_lt_of_cell? w _ hx0)).trans hx0
        obtain ⟨hc0, hcn⟩ := HIN.out k hlt
        have HX : Hid (∀ y, l[k] = y → y ∈ l.take k → ¬ l.Nodup) := Lib.hid fun y e hy => by subst e; exact not_nodup_of hlt hy
        have HY : Hid (∀ y, l[k] = y → y ∉ l.take k → (l.take (k + 1)).Nodup) := Lib.hid fun y e hy => by
          subst e
          rw [List.take_succ_eq_append_getElem hlt]
          exact nodup_snoc _ _ HND.out hy
        have HT : Hid (∀ y, l[k] = y → l.take (k + 1) = l.take k ++ [y]) := Lib.hid fun y e => by subst e; exact List.take_succ_eq_append_getElem hlt
        clear hcc hx0
        generalize l[k] = y at hx HX HY hc0 hcn HT
        obtain ⟨c, rfl⟩ : ∃ c : Nat, y = (c : Int) := ⟨y.toNat, by omega⟩
        have hcK : c < 64 * K := by omega
        have HH : Hid (hasI vs (c : Int) = decide ((c : Int) ∈ l.take k)) := Lib.hid (by rw [hasI, if_neg (by omega)]; exact hvp.2.2 c hcK)
        have HLA := Lib.hid (ListAt.of_owns (f := wordV) hown)
        have hvl := hvp.1
        have hy3 : wr.cell? ⟨w.heap.size, c / 64, none⟩ = some (.int .u64 ((vs.getD (c / 64) 0 : Nat) : Int)) := by
          rw [hown.cellAt (c / 64) (by omega)]
          have : c / 64 < vs.length := by omega
          simp [List.getD_eq_getElem?_getD, this, wordV]
        have hy4 : wr.frozen? ⟨w.heap.size, c / 64, none⟩ = false := hown.frozenAt (c / 64)
        have hzlt := hvp.2.1.getD (c / 64)
        have hplt := shl_one (c % 64) (by omega)
        have hbo := bits_or_u64_nat (vs.getD (c / 64) 0) (2 ^ (c % 64)) hzlt hplt
        have hsh : IntKind.u64.wrap ((2 : Int) ^ (c % 64)) = ((2 ^ (c % 64) : Nat) : Int) := by
          rw [show ((2 : Int) ^ (c % 64)) = ((2 ^ (c % 64) : Nat) : Int) by simp]
          exact wrap_nat _ hplt
        have HS := Lib.hid (hvp.set c hcK)
        clear hown hbel hvp hnd
        generalize vs.getD (c / 64) 0 = z at hy3 hzlt hbo HS
        generalize 2 ^ (c % 64) = P at hplt hbo HS hsh
        have hc64 : c / 64 < K := by omega
        by_cases hb : (c : Int) ∈ l.take k
        · have HDD := Lib.hid (decide_eq_true hb)
          have HNN := Lib.hid (HX.out _ rfl hb)
          clear hb
          go_wp2_with fail
          refine (Has_any _ vs (c : Int) HLA.out HP.out.2.1 (by omega)).mono ?_
          rintro e w1 ⟨rfl, rfl⟩
          rw [HH.out, HDD.out]
          go_wp2_with fail
          refine (New_chain _ 2 (by decide) _).mono ?_
          rintro e w1 ⟨E1, rfl, hc1, hb1⟩
          have HC1 := Lib.hid hc1
          have HB1 := Lib.hid (HB.out.trans (hb1.mono hsz))
          obtain ⟨u, v, rfl⟩ := hc1.iface
          clear hc1 hb1
          go_wp2
          go_ret2
          exact ⟨_, _, rfl, by
            unfold packAns
            rw [HCH.out 2 (if_neg HNN.out), if_neg (by decide)]
            exact ⟨rfl, HC1.out⟩, HB1.out⟩
        · have HDD := Lib.hid (decide_eq_false hb)
          have HNN := Lib.hid (HY.out _ rfl hb)
          have HTT := Lib.hid (HT.out _ rfl)
          clear hb
          go_wp2_with fail
          refine (Has_any _ vs (c : Int) HLA.out HP.out.2.1 (by omega)).mono ?_
          rintro e w1 ⟨rfl, rfl⟩
          rw [HH.out, HDD.out]
          go_wp2_with fail
          go_region
          go_wp2
          go_roundw
          case rel => exact ⟨k + 1, by omega, by go_num, HNN.out, ⟨vs.set (c / 64) (z ||| P), HS.out.congr fun d _ => by rw [HTT.out]; exact inP_snoc _ _ _, by rw [List.map_set]; exact (HO.out.stored (c / 64) (.int .u64 ((z ||| P : Nat) : Int))).1⟩, (HB.out.setCell (p := ⟨w.heap.size, c / 64, none⟩) (Nat.le_refl _) _).drew⟩
          case measure => simp [intOf]; omega
      · have hk' : k = l.length := by omega
        clear hown hbel hvp hnd
        go_wp2
        go_ret2
        exact ⟨_, _, rfl, by
          have hnd := HND.out
          have hvp := HP.out
          rw [hk', List.take_length] at hnd hvp
          unfold packAns
          rw [HCH.out 0 (if_pos hnd), if_pos rfl]
          exact ⟨rfl, vs, .of_owns (n := K) HO.out, by rw [HK.out]; exact hvp⟩, HB.out⟩
end Go.Proofs.YtdmgcnmapglhiaaDoor
